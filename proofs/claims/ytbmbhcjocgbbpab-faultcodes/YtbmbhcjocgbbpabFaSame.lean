/-
  When two lists of bytes are the same.
-/
import Derived.Test.YtbmbhcjocgbbpabBase
namespace Go.Proofs.Ytbmbhcjocgbbpab.Fa
set_option linter.unusedVariables false
open Go.ChangeShapes Go.WideShapes Go.ChangeAt Go.RowKit
open Go.Proofs.Ytbmbhcjocgbbpab.Base
set_option maxHeartbeats 1000000 in
theorem same_any (a b : Option Addr) (la ca lb cb : Nat) (xs ys : List (BitVec 8)) (w : World) (hx : Rd w a la xs) (hy : Rd w b lb ys) :
    Calls Try.prog 14 #[.slice a la ca, .slice b lb cb] w fun e w' => e = .returned (.bool (decide (xs = ys))) ∧ Below w.heap.size w w' := by
  obtain ⟨hlx, hmx, hcx⟩ := hx
  obtain ⟨hly, hmy, hcy⟩ := hy
  have HLX := hide hlx
  have HLY := hide hly
  have HCX := hide hcx
  have HCY := hide hcy
  clear hlx hly hcx hcy
  by_cases hne : la = lb
  · subst hne
    have he : ((la : Int) != (la : Int)) = false := by simp
    go_enter Try.func14, Try.ntmps14
    go_wp2
    go_loopw [5] (fun i wr => ∃ k : Nat, k ≤ la ∧ i = .int .i64 k ∧ Hid (xs.take k = ys.take k) ∧ ∃ n, wr = w.drewN n) (fun i _ => la - (intOf i).toNat)
    case atStart => exact ⟨0, Nat.zero_le _, rfl, rfl, 0, rfl⟩
    case round =>
      obtain ⟨k, hk, rfl, HT, n, rfl⟩ := hrel
      by_cases hlt : k < la
      · obtain ⟨b1, o1, rfl, hb1, hc1⟩ := unhide HCX (by omega)
        obtain ⟨b2, o2, rfl, hb2, hc2⟩ := unhide HCY (by omega)
        have g1 := hc1 k hlt
        have g2 := hc2 k hlt
        clear hc1 hc2
        have hki : (k : Int) < (la : Int) := by omega
        generalize hX : xs.getD k 0 = x at g1
        generalize hY : ys.getD k 0 = y at g2
        have HX := hide hX
        have HY := hide hY
        clear hX hY
        by_cases hxy : x = y
        · subst hxy
          have hq : ((x.toNat : Int) != (x.toNat : Int)) = false := by simp
          go_wp2
          go_quiet (fail)
          go_wp2
          go_roundw
          case rel => exact ⟨k + 1, by omega, by go_num, take_eq_iff xs ys k (by have := HLX.out; omega) (by have := HLY.out; omega) HT.out (HX.out.trans HY.out.symm), n + nq, rfl⟩
          case measure => simp [intOf]; omega
        · have hq : ((x.toNat : Int) != (y.toNat : Int)) = true := by
            rw [bne_iff_ne]; intro h; exact hxy (BitVec.eq_of_toNat_eq (by omega))
          go_wp2
          go_quiet (fail)
          go_wp2
          go_ret
          refine ⟨ret_bool ?_, ?_⟩
          · symm; rw [decide_eq_false_iff_not]
            rintro rfl
            exact hxy (HX.out.symm.trans HY.out)
          · exact (below_drewN' _ _ _).trans (below_drewN' _ _ _)
      · go_wp2
        go_ret
        refine ⟨ret_bool ?_, below_drewN' _ _ _⟩
        symm; rw [decide_eq_true_iff]
        have h := HT.out
        rw [List.take_of_length_le (by have := HLX.out; omega), List.take_of_length_le (by have := HLY.out; omega)] at h
        exact h
  · have he : ((la : Int) != (lb : Int)) = true := by rw [bne_iff_ne]; omega
    go_enter Try.func14, Try.ntmps14
    go_wp2
    go_ret
    refine ⟨ret_bool ?_, Below.refl _ _⟩
    symm; rw [decide_eq_false_iff_not]
    rintro rfl
    exact hne (HLX.out.symm.trans HLY.out)
theorem same_eq (a b : Option Addr) (la ca lb cb : Nat) (xs : List (BitVec 8)) (w : World) (hx : Rd w a la xs) (hy : Rd w b lb xs) :
    Calls Try.prog 14 #[.slice a la ca, .slice b lb cb] w fun e w' => e = .returned (.bool true) ∧ Below w.heap.size w w' := by
  have h := same_any a b la ca lb cb xs xs w hx hy
  rw [decide_eq_true (rfl : xs = xs)] at h
  exact h
end Go.Proofs.Ytbmbhcjocgbbpab.Fa
