/-
  Trails: which may be, by the program's word and by the document's.
-/
import Derived.Test.YtjikoamchbmhjaaBase
namespace Go.Proofs.Ytjikoamchbmhjaa.Foot
open Go.ChangeShapes Go.WideShapes Go.ChangeAt Go.RowKit
open Go.Proofs.Ytjikoamchbmhjaa.Base
set_option linter.unusedVariables false
/-- A Trail may be. -/
def okT (B P : Int) : Bool := decide (0 ≤ B ∧ B ≤ 268435456 ∧ 1 ≤ P ∧ P ≤ 16793600 ∧ 4 < (P - 1) % 4100 + 1)
set_option maxRecDepth 100000 in
theorem pagesSize_max (w : World) : Calls Try.prog 22 #[.int .i64 16777216] w fun e w' => e = .returned (.int .i64 16793600) ∧ w' = w := by
  go_enter Try.func22, Try.ntmps22
  go_wp2
  go_ret
  exact ⟨rfl, rfl⟩
set_option maxRecDepth 100000 in
theorem pagesOf_any (n : Nat) (h : n ≤ 4611686018427387903) (w : World) : Calls Try.prog 29 #[.int .i64 (n : Int)] w fun e w' => e = .returned (.int .i64 ((n + 4 * ((n + 4095) / 4096) : Nat) : Int)) ∧ w' = w := by
  obtain ⟨q, hq⟩ : ∃ q, (n + 4095) / 4096 = q := ⟨_, rfl⟩
  have t1 : IntKind.i64.wrap (((n : Int) + 4095).tdiv 4096) = (q : Int) := by
    rw [Int.tdiv_eq_ediv_of_nonneg (by omega), IntKind.wrap_i64]; omega
  have HQ := hide hq
  have hql : (q : Int) ≤ 1125899906842624 := by omega
  clear hq
  go_enter Try.func29, Try.ntmps29
  go_wp2
  go_ret
  have hq := HQ.out
  exact ⟨ret_int (by omega), rfl⟩
set_option maxRecDepth 100000 in
theorem isTrail_any (B P : Int) (w : World) : Calls Try.prog 11 #[.agg #[.int .i64 B, .int .i64 P]] w fun e w' => e = .returned (.bool (okT B P)) ∧ Below w.heap.size w w' := by
  obtain ⟨w1, hw1⟩ : ∃ w1, w.alloc (.cells #[.int .i64 B, .int .i64 P] 24) = w1 := ⟨_, rfl⟩
  have HB1 : Hid (Below w.heap.size w w1) := by rw [← hw1]; exact (Below.refl _ _).alloc (Nat.le_refl _) _
  obtain ⟨g, hg⟩ : ∃ g, w.heap.size = g := ⟨_, rfl⟩
  have f0 : w1.cell? ⟨g, 0, none⟩ = some (.int .i64 B) := by rw [← hw1, ← hg]; simp [go_sem]
  have f1 : w1.cell? ⟨g, 1, none⟩ = some (.int .i64 P) := by rw [← hw1, ← hg]; simp [go_sem]
  have HG := hide hg
  have HE : Hid (okT B P = decide (0 ≤ B ∧ B ≤ 268435456 ∧ 1 ≤ P ∧ P ≤ 16793600 ∧ 4 < (P - 1) % 4100 + 1)) := rfl
  have hcase : B < 0 ∨ (¬ B < 0 ∧ 268435456 < B) ∨ (¬ B < 0 ∧ ¬ 268435456 < B ∧ P < 1) ∨ (¬ B < 0 ∧ ¬ 268435456 < B ∧ ¬ P < 1 ∧ 16793600 < P) ∨ (¬ B < 0 ∧ ¬ 268435456 < B ∧ ¬ P < 1 ∧ ¬ 16793600 < P) := by omega
  have HD : Hid (∀ W, Below w1.heap.size w1 W → Below w.heap.size w W) := fun W h => HB1.out.trans (h.mono HB1.out.size)
  rcases hcase with h1 | ⟨h1, h2⟩ | ⟨h1, h2, h3⟩ | ⟨h1, h2, h3, h4⟩ | ⟨h1, h2, h3, h4⟩
  · have d1 : decide (B < 0) = true := by simpa using h1
    have HF : Hid (okT B P = false) := by show _ = _; rw [HE.out]; exact decide_eq_false (by omega)
    clear h1
    go_enter Try.func11, Try.ntmps11
    go_wp2_with fail
    go_quiet (fail)
    go_wp2_with fail
    go_ret
    rw [HF.out]
    exact ⟨rfl, by first | exact HD.out _ (below_drewN' _ _ _) | (rw [← HG.out]; exact HD.out _ (below_drewN' _ _ _))⟩
  · have d1 : decide (B < 0) = false := by simpa using h1
    have d2 : decide (268435456 < B) = true := by simpa using h2
    have HF : Hid (okT B P = false) := by show _ = _; rw [HE.out]; exact decide_eq_false (by omega)
    clear h1 h2
    go_enter Try.func11, Try.ntmps11
    go_wp2_with fail
    go_quiet (fail)
    go_wp2_with fail
    go_ret
    rw [HF.out]
    exact ⟨rfl, by first | exact HD.out _ (below_drewN' _ _ _) | (rw [← HG.out]; exact HD.out _ (below_drewN' _ _ _))⟩
  · have d1 : decide (B < 0) = false := by simpa using h1
    have d2 : decide (268435456 < B) = false := by simpa using h2
    have d3 : decide (P < 1) = true := by simpa using h3
    have HF : Hid (okT B P = false) := by show _ = _; rw [HE.out]; exact decide_eq_false (by omega)
    clear h1 h2 h3
    go_enter Try.func11, Try.ntmps11
    go_wp2_with fail
    go_quiet (fail)
    go_wp2_with fail
    go_ret
    rw [HF.out]
    exact ⟨rfl, by first | exact HD.out _ (below_drewN' _ _ _) | (rw [← HG.out]; exact HD.out _ (below_drewN' _ _ _))⟩
  · have d1 : decide (B < 0) = false := by simpa using h1
    have d2 : decide (268435456 < B) = false := by simpa using h2
    have d3 : decide (P < 1) = false := by simpa using h3
    have d4 : decide (16793600 < P) = true := by simpa using h4
    have HF : Hid (okT B P = false) := by show _ = _; rw [HE.out]; exact decide_eq_false (by omega)
    clear h1 h2 h3 h4
    go_enter Try.func11, Try.ntmps11
    go_wp2_with fail
    go_quiet (first | (go_at_call_of 22 (Value.int .i64 16777216); exact Calls.quiet_of_same (pagesSize_max _)))
    go_wp2_with fail
    go_ret
    rw [HF.out]
    exact ⟨rfl, by first | exact HD.out _ (below_drewN' _ _ _) | (rw [← HG.out]; exact HD.out _ (below_drewN' _ _ _))⟩
  · have d1 : decide (B < 0) = false := by simpa using h1
    have d2 : decide (268435456 < B) = false := by simpa using h2
    have d3 : decide (P < 1) = false := by simpa using h3
    have d4 : decide (16793600 < P) = false := by simpa using h4
    obtain ⟨m, rfl⟩ : ∃ m : Nat, P = (m : Int) + 1 := ⟨(P - 1).toNat, by omega⟩
    obtain ⟨r, hr⟩ : ∃ r, m % 4100 = r := ⟨_, rfl⟩
    have HF : Hid (okT B ((m : Int) + 1) = decide (4 < (r : Int) + 1)) := by
      show _ = _; rw [HE.out]
      have e : ((m : Int) + 1 - 1) % 4100 = (r : Int) := by omega
      rw [e]
      by_cases h : 4 < (r : Int) + 1
      · rw [decide_eq_true h, decide_eq_true (by omega)]
      · rw [decide_eq_false h, decide_eq_false (by omega)]
    have hr2 : (m : Int) % 4100 = (r : Int) := by omega
    have hml : (m : Int) ≤ 16793599 := by omega
    have hrl : (r : Int) ≤ 4099 := by omega
    clear h1 h2 h3 h4 hr
    go_enter Try.func11, Try.ntmps11
    go_wp2_with fail
    go_quiet (first | (go_at_call_of 22 (Value.int .i64 16777216); exact Calls.quiet_of_same (pagesSize_max _)))
    go_wp2_with fail
    go_ret
    rw [HF.out]
    exact ⟨rfl, by first | exact HD.out _ (below_drewN' _ _ _) | (rw [← HG.out]; exact HD.out _ (below_drewN' _ _ _))⟩
end Go.Proofs.Ytjikoamchbmhjaa.Foot
