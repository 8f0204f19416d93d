/-
  works: two lines in two pieces.
-/
import Derived.Test.YtmhebaknoginhaaLnSplits
import Derived.Test.YtmhebaknoginhaaLnEq
namespace Go.Proofs.Ytmhebaknoginhaa.Ln
open Go.ChangeShapes Go.WideShapes Go.ChangeAt Go.RowKit
open Go.Proofs.Ytmhebaknoginhaa.Base Go.Proofs.Ytmhebaknoginhaa.Rf
set_option linter.unusedVariables false
def T0 : ByteArray := ⟨#[97, 98, 10, 99, 100, 10]⟩
theorem t0_cut : cutS 6 [3] = [3] := by unfold cutS; rw [show [(3 : Int)].map (md 6) = [3] from rfl, List.mergeSort_singleton]
theorem t0_pe : pe 6 [3] 0 = 3 ∧ pe 6 [3] 1 = 6 := by unfold pe cutE; rw [t0_cut]; exact ⟨rfl, rfl⟩
theorem t0_lo : lo T0 [3] 0 = 0 ∧ hi T0 [3] 0 = 3 ∧ lo T0 [3] 1 = 3 ∧ hi T0 [3] 1 = 6 := by
  have h1 : hi T0 [3] 0 = 3 := by unfold hi; rw [show T0.size = 6 from rfl, t0_pe.1]; decide +kernel
  have h2 : hi T0 [3] 1 = 6 := by unfold hi; rw [show T0.size = 6 from rfl, t0_pe.2]; decide +kernel
  exact ⟨rfl, h1, by rw [lo_succ]; exact h1, h2⟩
theorem t0_xf : xf T0 [3] 0 = [.int .i64 0, .string ⟨#[97, 98, 10]⟩] ∧ xf T0 [3] 1 = [.int .i64 3, .string ⟨#[99, 100, 10]⟩] := by
  obtain ⟨h1, h2, h3, h4⟩ := t0_lo
  unfold xf so
  rw [h1, h2, h3, h4]
  exact ⟨rfl, rfl⟩
theorem t0_fits : fits T0 [3] 2 := by
  obtain ⟨h1, h2, h3, h4⟩ := t0_lo
  intro j hj
  rcases (by omega : j = 0 ∨ j = 1) with rfl | rfl
  · rw [h1, h2]; omega
  · rw [h3, h4]; omega
set_option maxHeartbeats 2000000 in
set_option maxRecDepth 100000 in
theorem works_any (w : World) : Calls Try.prog 17 #[] w fun e w' => e = .returned (.bool true) ∧ Below w.heap.size w w' := by
  have hq1 := eq_split 0 ⟨#[97, 98, 10]⟩
  have hq2 := eq_split 3 ⟨#[99, 100, 10]⟩
  obtain ⟨w1, hw1⟩ : ∃ w1, w.alloc (.cells #[.int .i64 3] 3) = w1 := ⟨_, rfl⟩
  have HB1 : Hid (Below w.heap.size w w1) := by rw [← hw1]; exact (Below.refl _ _).alloc (Nat.le_refl _) _
  have HR1 : Hid (RdI w1 (some ⟨w.heap.size, 0, none⟩) 1 [3]) := by
    refine ⟨rfl, by omega, fun _ => ⟨w.heap.size, 0, rfl, by rw [← hw1]; simp, fun i hi => ?_⟩⟩
    obtain rfl : i = 0 := by omega
    rw [← hw1, World.cell?_alloc_mark]
    rfl
  have HS : Hid (Calls Try.prog 24 #[.string ⟨#[97, 98, 10, 99, 100, 10]⟩, .slice (some ⟨w.heap.size, 0, none⟩) 1 1] w1 fun e w' => ∃ g c, e = .returned (.tuple #[.slice (some ⟨g, 0, none⟩) 2 c, .int .i64 0]) ∧ w'.cell? ⟨g, 0, none⟩ = some (.int .i64 0) ∧ w'.cell? ⟨g, 1, none⟩ = some (.string ⟨#[97, 98, 10]⟩) ∧ w'.cell? ⟨g, 2, none⟩ = some (.int .i64 3) ∧ w'.cell? ⟨g, 3, none⟩ = some (.string ⟨#[99, 100, 10]⟩) ∧ Below w1.heap.size w1 w') := by
    refine (splits_walk T0 (some ⟨w.heap.size, 0, none⟩) 1 [3] w1 (by decide) HR1.out (by simp)).mono ?_
    rintro e w' ⟨⟨v, rfl, _, ho⟩ | ⟨_, hn⟩, hb⟩
    · obtain ⟨g, c, rfl, _, _, _⟩ := ho.has (by simp)
      refine ⟨g, c, rfl, ?_, ?_, ?_, ?_, hb⟩
      · exact ho.cellAt (fun _ => rfl) 0 0 _ (by simp) (by omega) (by rw [t0_xf.1]; rfl)
      · exact ho.cellAt (fun _ => rfl) 0 1 _ (by simp) (by omega) (by rw [t0_xf.1]; rfl)
      · exact ho.cellAt (fun _ => rfl) 1 0 _ (by simp) (by omega) (by rw [t0_xf.2]; rfl)
      · exact ho.cellAt (fun _ => rfl) 1 1 _ (by simp) (by omega) (by rw [t0_xf.2]; rfl)
    · exact absurd t0_fits hn
  go_enter Try.func17, Try.ntmps17
  go_wp2_with (go_at_call 24; refine HS.out.mono ?_; rintro e w2 ⟨g, c, rfl, c0, c1, c2, c3, hb2⟩; have HB2 := hide hb2; clear hb2)
  go_ret
  exact ⟨rfl, below_trans HB1.out HB2.out⟩
end Go.Proofs.Ytmhebaknoginhaa.Ln
