/-
  The statements' helpers on rows of ints: whether two are the same, whether one stands as it did.
-/
import Derived.Test.YtmfljllbniimmaaHuffK1c
namespace Go.Proofs.Ytmfljllbniimmaa.Huff
open Go.ChangeShapes Go.WideShapes Go.ChangeAt Go.RowKit
open Go.Proofs.Ytmfljllbniimmaa.Base
set_option linter.unusedVariables false
set_option maxHeartbeats 1000000 in
theorem sameInts_eq (a b : Option Addr) (la ca cb : Nat) (xs : List Int) (w : World) (hx : RdI w a la xs) (hy : RdI w b la xs) :
    Calls Try.prog 12 #[.slice a la ca, .slice b la cb] w fun e w' => e = .returned (.bool true) ∧ Below w.heap.size w w' := by
  obtain ⟨hlx, hmx, hcx⟩ := hx
  obtain ⟨hly, hmy, hcy⟩ := hy
  have HCX := hide hcx
  have HCY := hide hcy
  clear hlx hly hcx hcy
  have he : ((la : Int) != (la : Int)) = false := by simp
  go_enter Try.func12, Try.ntmps12
  go_wp2
  go_loopw [5] (fun i wr => ∃ k : Nat, k ≤ la ∧ i = .int .i64 k ∧ ∃ n, wr = w.drewN n) (fun i _ => la - (intOf i).toNat)
  case atStart => exact ⟨0, Nat.zero_le _, rfl, 0, rfl⟩
  case round =>
    obtain ⟨k, hk, rfl, n, rfl⟩ := hrel
    by_cases hlt : k < la
    · obtain ⟨b1, o1, rfl, hb1, hc1⟩ := unhide HCX (by omega)
      obtain ⟨b2, o2, rfl, hb2, hc2⟩ := unhide HCY (by omega)
      have g1 := hc1 k hlt
      have g2 := hc2 k hlt
      clear hc1 hc2
      have hki : (k : Int) < (la : Int) := by omega
      generalize xs.getD k 0 = x at g1 g2
      have hq : (x != x) = false := by simp
      go_wp2
      go_quiet (fail)
      go_wp2
      go_roundw
      case rel => exact ⟨k + 1, by omega, by go_num, n + nq, rfl⟩
      case measure => simp [intOf]; omega
    · go_wp2
      go_ret
      exact ⟨by first | rfl | trivial, below_drewN' _ _ _⟩
set_option maxHeartbeats 1000000 in
set_option maxRecDepth 100000 in
theorem keptCounts_any (g len : Nat) (a : Option Addr) (cap : Nat) (xs : List Int) (w : World) (ho : RowI 2 w g (xs ++ marksI)) (hr : RdI w a len xs) (hl : len ≤ 17592186043904) :
    Calls Try.prog 13 #[.slice (some ⟨g, 0, none⟩) (len + 64) (len + 64), .slice a len cap] w fun e w' => e = .returned (.bool true) ∧ Below w.heap.size w w' := by
  have HZ : Hid ((xs ++ marksI).length = len + 64) := by show _ = _; rw [List.length_append, hr.1]; rfl
  have HO := hide ho
  have HR := hide hr
  have hli : (len : Int) ≤ 17592186043904 := by omega
  clear ho hr
  go_enter Try.func13, Try.ntmps13
  go_wp2_with fail
  refine (roomyCounts_any a len cap xs w HR.out hl).mono ?_
  rintro e w1 ⟨rfl, hrow, hb⟩
  have HW := hide hrow
  have HB := hide hb
  have HO1 := hide (HO.out.below hb)
  have he : (((len : Int) + 64) == ((len : Int) + 64)) = true := by simp
  clear hrow hb HO
  go_wp2_with fail
  go_loopw [6] (fun i wr => ∃ k : Nat, k ≤ len + 64 ∧ i = .int .i64 (k : Int) ∧ ∃ n, wr = w1.drewN n) (fun i _ => len + 64 - (intOf i).toNat)
  case atStart => exact ⟨0, Nat.zero_le _, rfl, 0, rfl⟩
  case round =>
    obtain ⟨k, hk, rfl, n, rfl⟩ := hrel
    by_cases hlt : k < len + 64
    · have g1 := HO1.out.cell k (by rw [HZ.out]; exact hlt)
      have g2 := HW.out.cell k (by rw [HZ.out]; exact hlt)
      have hki : (k : Int) < (len : Int) + 64 := by omega
      generalize (xs ++ marksI).getD k 0 = x at g1 g2
      have hq : (x != x) = false := by simp
      go_wp2
      go_quiet (fail)
      go_wp2
      go_roundw
      case rel => exact ⟨k + 1, by omega, by go_num, n + nq, rfl⟩
      case measure => simp [intOf]; omega
    · go_wp2
      go_ret
      exact ⟨by first | rfl | trivial, below_trans HB.out (below_drewN' _ _ _)⟩
end Go.Proofs.Ytmfljllbniimmaa.Huff
