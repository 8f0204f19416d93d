/-
  slices.IsSorted of numbers.
-/
import Derived.Test.YthdblnfohbldcaaGreatIBase
import Derived.Test.YthdblnfohbldcaaGreatNumsOrd
namespace Go.Proofs.YthdblnfohbldcaaGreat.Bl
open Go.ChangeShapes Go.WideShapes Go.ChangeAt Go.RowKit
open Go.Proofs.YthdblnfohbldcaaGreat.Base Go.Proofs.YthdblnfohbldcaaGreat.Nums
set_option linter.unusedVariables false
/-- Numbers do not fall. -/
def upI : List Int → Bool
  | [] => true
  | [_] => true
  | a :: b :: l => decide (a ≤ b) && upI (b :: l)
theorem upI_of : ∀ l : List Int, (∀ g, g + 1 < l.length → l.getD g 0 ≤ l.getD (g + 1) 0) → upI l = true
  | [], _ => rfl
  | [_], _ => rfl
  | a :: b :: l, h => by
    unfold upI
    rw [Bool.and_eq_true]
    exact ⟨decide_eq_true (h 0 (by simp)), upI_of (b :: l) (fun g hg => h (g + 1) (by simp at hg ⊢; omega))⟩
theorem upI_get : ∀ (l : List Int), upI l = true → ∀ g, g + 1 < l.length → l.getD g 0 ≤ l.getD (g + 1) 0
  | [], _, g, hg => by simp at hg
  | [_], _, g, hg => by simp at hg
  | a :: b :: l, h, g, hg => by
    unfold upI at h
    rw [Bool.and_eq_true] at h
    cases g with
    | zero => exact of_decide_eq_true h.1
    | succ g => exact upI_get (b :: l) h.2 g (by simp at hg ⊢; omega)
theorem upI_not (l : List Int) (g : Nat) (hg : g + 1 < l.length) (h : l.getD (g + 1) 0 < l.getD g 0) : upI l = false := by
  rw [Bool.eq_false_iff]
  intro e
  have := upI_get l e g hg
  omega
theorem less_any (a b : Int) (w : World) : Calls Tryz.prog 132 #[.int .i64 a, .int .i64 b] w fun e w' => e = .returned (.bool (decide (a < b))) ∧ w' = w := by
  by_cases h : a < b
  · have hd : decide (a < b) = true := by simpa using h
    go_enter Tryz.func132, Tryz.ntmps132
    go_wp2_with (go_at_call 144; refine (nanI_any _ _).mono ?_; rintro e w ⟨rfl, rfl⟩)
    all_goals
      go_ret
      exact ⟨by first | rfl | simp [h], rfl⟩
  · have hd : decide (a < b) = false := by simpa using h
    go_enter Tryz.func132, Tryz.ntmps132
    go_wp2_with (go_at_call 144; refine (nanI_any _ _).mono ?_; rintro e w ⟨rfl, rfl⟩)
    all_goals
      go_ret
      exact ⟨by first | rfl | simp [h], rfl⟩
set_option maxHeartbeats 2000000 in
set_option maxRecDepth 100000 in
theorem sorted_any (a : Option Addr) (len cap : Nat) (xs : List Int) (w : World) (hr : RdI w a len xs) :
    Calls Tryz.prog 86 #[.slice a len cap] w fun e w' => e = .returned (.bool (upI xs)) ∧ Below w.heap.size w w' := by
  have hl := hr.2.1
  have HR := hide hr
  clear hr
  go_enter Tryz.func86, Tryz.ntmps86
  go_wp2_with fail
  go_loopw [3] (fun i wr => ∃ z : Int, -1 ≤ z ∧ z < (len : Int) ∧ i = .int .i64 z ∧ Hid (∀ j : Nat, z ≤ (j : Int) → j + 1 < xs.length → xs.getD j 0 ≤ xs.getD (j + 1) 0) ∧ Hid (Below w.heap.size w wr)) (fun i _ => (intOf i).toNat)
  case atStart => exact ⟨(len : Int) - 1, by omega, by omega, by go_num, fun j h1 h2 => by rw [HR.out.1] at h2; omega, Below.refl _ _⟩
  case round =>
    obtain ⟨z, hz1, hz2, rfl, HJ, HB⟩ := hrel
    by_cases hlt : 0 < z
    · obtain ⟨m, rfl⟩ : ∃ m : Nat, z = (m : Int) + 1 := ⟨z.toNat - 1, by omega⟩
      have hml : m + 1 < len := by omega
      obtain ⟨b1, o1, rfl, _, hc1⟩ := (HR.out.below HB.out).2.2 (by omega)
      have g1 := hc1 (m + 1) hml
      have g2 := hc1 m (by omega)
      have HN : Hid (∀ j : Nat, m = j → xs.getD j 0 = xs.getD m 0 ∧ xs.getD (j + 1) 0 = xs.getD (m + 1) 0) := fun j e => by rw [e]; exact ⟨rfl, rfl⟩
      generalize hs1 : xs.getD (m + 1) 0 = s at g1 HN
      generalize hs2 : xs.getD m 0 = t at g2 HN
      have HS1 := hide hs1
      have HS2 := hide hs2
      clear hc1 hs1 hs2
      have i1 : (m : Int) + 1 < (len : Int) := by omega
      have i2 : (m : Int) < (len : Int) := by omega
      have i3 : (m : Int) + 1 - 1 = (m : Int) := by omega
      have i4 : ((m : Int) + 1).toNat = m + 1 := by omega
      go_wp2_with fail
      go_quiet (first | (go_at_call 132; exact Calls.quiet_of_same (less_any s t _)))
      all_goals
        by_cases hc : s < t
        · have hd : decide (s < t) = true := by simpa using hc
          rw [hd]
          go_wp2_with fail
          go_ret
          exact ⟨ret_bool (upI_not xs m (by rw [HR.out.1]; omega) (by rw [HS1.out, HS2.out]; exact hc)).symm, below_trans HB.out (below_drewN' _ _ _)⟩
        · have hd : decide (s < t) = false := by simpa using hc
          rw [hd]
          go_wp2_with fail
          go_roundw
          case rel =>
            refine ⟨(m : Int), by omega, by omega, by go_num, ?_, below_trans HB.out (below_drewN' _ _ _)⟩
            intro j h1 h2
            by_cases e : m = j
            · have h3 := HN.out j e
              rw [h3.1, h3.2]
              omega
            · exact HJ.out j (by omega) h2
          case measure => (simp [intOf] <;> omega)
    · go_wp2_with fail
      go_ret
      exact ⟨ret_bool (upI_of xs (fun g hg => HJ.out g (by omega) hg)).symm, HB.out⟩
end Go.Proofs.YthdblnfohbldcaaGreat.Bl
