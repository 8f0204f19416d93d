/-
  The statements' small example.
-/
import Derived.Test.YtjhmnimbncfhoaaDoorSoSortC
namespace Go.Proofs.YtjhmnimbncfhoaaDoor.So
open Go.ChangeShapes Go.WideShapes Go.ChangeAt Go.RowKit
open Go.Proofs.YtjhmnimbncfhoaaDoor.Base
set_option linter.unusedVariables false
def xb : Rec := ⟨1, ⟨#[98]⟩, ⟨#[]⟩⟩
def x1 : Rec := ⟨0, ⟨#[122]⟩, ⟨#[49]⟩⟩
def x2 : Rec := ⟨0, ⟨#[122]⟩, ⟨#[50]⟩⟩
theorem three_sorted : isort [xb, x1, x2] = [x1, x2, xb] := rfl
set_option maxHeartbeats 1000000 in
set_option maxRecDepth 100000 in
theorem works_any (w : World) : Calls Tryd.prog 8 #[] w fun e w' => e = .returned (.bool true) ∧ Below w.heap.size w w' := by
  obtain ⟨g, hg⟩ : ∃ g, w.heap.size = g := ⟨_, rfl⟩
  obtain ⟨w1, hw1⟩ : ∃ w1, w.alloc (.cells #[.int .i64 1, .string ⟨#[98]⟩, .string ⟨#[]⟩, .int .i64 0, .string ⟨#[122]⟩, .string ⟨#[49]⟩, .int .i64 0, .string ⟨#[122]⟩, .string ⟨#[50]⟩] 27) = w1 := ⟨_, rfl⟩
  have HB1 : Hid (Below w.heap.size w w1) := by rw [← hw1]; exact (Below.refl _ _).alloc (Nat.le_refl _) _
  have hb : w1.heap[g]? = some (.cells #[.int .i64 1, .string ⟨#[98]⟩, .string ⟨#[]⟩, .int .i64 0, .string ⟨#[122]⟩, .string ⟨#[49]⟩, .int .i64 0, .string ⟨#[122]⟩, .string ⟨#[50]⟩] 27) := by rw [← hw1, ← hg]; exact heap_alloc_new _ _
  have HR1 : Hid (RdR w1 (some ⟨g, 0, none⟩) 3 [xb, x1, x2]) := by
    refine ⟨rfl, fun _ => ⟨g, 0, rfl, lt_row hb, fun j hj => ?_⟩⟩
    match j, hj with
    | 0, _ => refine ⟨?_, ?_, ?_⟩ <;> (rw [cell_of_row _ _ _ _ _ _ hb]; rfl)
    | 1, _ => refine ⟨?_, ?_, ?_⟩ <;> (rw [cell_of_row _ _ _ _ _ _ hb]; rfl)
    | 2, _ => refine ⟨?_, ?_, ?_⟩ <;> (rw [cell_of_row _ _ _ _ _ _ hb]; rfl)
  have HS := hide (sort_any (some ⟨g, 0, none⟩) 3 3 [xb, x1, x2] w1 HR1.out (by omega) (by
    intro r hr
    simp only [List.mem_cons, List.not_mem_nil, or_false] at hr
    rcases hr with rfl | rfl | rfl <;> exact ⟨by decide, by decide⟩))
  rw [three_sorted] at HS
  clear hb
  go_enter Tryd.func8, Tryd.ntmps8
  go_wp2_with (go_at_call 5; refine HS.out.mono ?_; rintro e w2 ⟨v, rfl, ho2, hb2⟩; obtain ⟨av, cv, hv, hcv⟩ := own_shape ho2; subst hv; have HD := hide (own_rdr ho2); have HW2 := hide (below_trans HB1.out hb2); clear ho2 hb2; obtain ⟨b, off, hav, hlb, hcs⟩ := HD.out.2 (by decide); subst hav; have k0 : w2.cell? ⟨b, off + 2, none⟩ = some (.string ⟨#[49]⟩) := (hcs 0 (by decide)).2.2; have k1 : w2.cell? ⟨b, off + 3 + 2, none⟩ = some (.string ⟨#[50]⟩) := (hcs 1 (by decide)).2.2; have k2 : w2.cell? ⟨b, off + 6, none⟩ = some (.int .i64 1) := (hcs 2 (by decide)).1; clear hcs)
  go_ret
  exact ⟨rfl, HW2.out⟩
end Go.Proofs.YtjhmnimbncfhoaaDoor.So
