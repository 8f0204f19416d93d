/-
  The document's own answer: the symbol with a word.
-/
import Derived.Test.YtjpmeecahckglaaHuffM2
namespace Go.Proofs.Ytjpmeecahckglaa.Huff
open Go.ChangeShapes Go.WideShapes Go.ChangeAt Go.RowKit
open Go.Proofs.Ytjpmeecahckglaa.Base
set_option linter.unusedVariables false
set_option maxHeartbeats 1000000 in
set_option maxRecDepth 100000 in
theorem find_any (base n c : Nat) (a : Option Addr) (cs : List (Int × Nat)) (l b : Nat) (w : World) (ho : OwnC w base (.slice a n c) cs) (hn : cs.length = n) (hl : 0 < l) (hl2 : l ≤ 15) (hnb : n ≤ 256) :
    Calls Try.prog 35 #[.slice a n c, .int .i64 (l : Int), .int .u32 (b : Int)] w fun e w' => ∃ r : Int, e = .returned (.int .i64 r) ∧ (r = -1 ∧ (∀ i, i < n → cs.getD i (0, 0) ≠ ((l : Int), b)) ∨ ∃ i : Nat, i < n ∧ r = (i : Int) ∧ cs.getD i (0, 0) = ((l : Int), b)) ∧ Below w.heap.size w w' := by
  have HO := hide ho
  have HN := hide hn
  have hli : 0 < (l : Int) := by omega
  have hni : (n : Int) ≤ 256 := by omega
  clear ho hn
  go_enter Try.func35, Try.ntmps35
  go_wp2_with fail
  go_loopw [7] (fun i wr => ∃ k : Nat, k ≤ n ∧ i = .int .i64 (k : Int) ∧ Hid (∀ j, j < k → cs.getD j (0, 0) ≠ ((l : Int), b)) ∧ ∃ m, wr = w.drewN m) (fun i _ => n - (intOf i).toNat)
  case atStart => exact ⟨0, Nat.zero_le _, rfl, fun j h => by omega, 0, rfl⟩
  case round =>
    obtain ⟨k, hk, rfl, HA, m, rfl⟩ := hrel
    by_cases hlt : k < n
    · obtain ⟨g1, rfl⟩ := HO.out.some' (by omega)
      obtain ⟨c1, c2⟩ := HO.out.cells HN.out k hlt
      obtain ⟨L, hL⟩ : ∃ L, (cs.getD k (0, 0)).1 = L := ⟨_, rfl⟩
      obtain ⟨B, hB⟩ : ∃ B, (cs.getD k (0, 0)).2 = B := ⟨_, rfl⟩
      have HLB : Hid (cs.getD k (0, 0) = (L, B)) := by show _ = _; rw [← hL, ← hB]
      rw [hL] at c1
      rw [hB] at c2
      have hki : (k : Int) < (n : Int) := by omega
      clear hL hB
      by_cases h1 : L = (l : Int)
      · subst h1
        have e1 : ((l : Int) == (l : Int)) = true := by simp
        by_cases h2 : B = b
        · subst h2
          have e2 : ((B : Int) == (B : Int)) = true := by simp
          have e3 : (B == B) = true := by simp
          have e4 : decide (0 < (l : Int)) = true := by rw [decide_eq_true_iff]; exact hli
          go_wp2_with fail
          first | (go_quiet (fail); go_wp2_with fail) | skip
          go_ret
          exact ⟨_, rfl, .inr ⟨k, hlt, rfl, HLB.out⟩, by first | exact below_drewN' _ _ _ | exact (below_drewN' _ _ _).trans (below_drewN' _ _ _)⟩
        · have e2 : ((B : Int) == (b : Int)) = false := by rw [beq_eq_false_iff_ne]; omega
          have e3 : (B == b) = false := by rw [beq_eq_false_iff_ne]; exact h2
          have HA2 : Hid (∀ j, j < k + 1 → cs.getD j (0, 0) ≠ ((l : Int), b)) := fun j hj => by
            by_cases e : j = k
            · subst e; rw [HLB.out]; intro h; exact h2 (congrArg Prod.snd h)
            · exact HA.out j (by omega)
          go_wp2_with fail
          first | (go_quiet (fail); go_wp2_with fail) | skip
          go_roundw
          case rel => first | exact ⟨k + 1, by omega, by go_num, HA2, m + nq, rfl⟩ | exact ⟨k + 1, by omega, by go_num, HA2, m, rfl⟩
          case measure => simp [intOf]; omega
      · have e1 : (L == (l : Int)) = false := by rw [beq_eq_false_iff_ne]; exact h1
        have HA2 : Hid (∀ j, j < k + 1 → cs.getD j (0, 0) ≠ ((l : Int), b)) := fun j hj => by
          by_cases e : j = k
          · subst e; rw [HLB.out]; intro h; exact h1 (congrArg Prod.fst h)
          · exact HA.out j (by omega)
        go_wp2_with fail
        first | (go_quiet (fail); go_wp2_with fail) | skip
        go_roundw
        case rel => first | exact ⟨k + 1, by omega, by go_num, HA2, m + nq, rfl⟩ | exact ⟨k + 1, by omega, by go_num, HA2, m, rfl⟩
        case measure => simp [intOf]; omega
    · obtain rfl : k = n := by omega
      go_wp2_with fail
      go_ret
      exact ⟨_, rfl, .inl ⟨rfl, HA.out⟩, below_drewN' _ _ _⟩
end Go.Proofs.Ytjpmeecahckglaa.Huff
