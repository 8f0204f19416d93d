/-
  A record with texts of its own.
-/
import Derived.Test.YtlbplicafcoifaaSoOwn
import Derived.Test.YtlbplicafcoifaaStClone
namespace Go.Proofs.Ytlbplicafcoifaa.So
open Go.ChangeShapes Go.WideShapes Go.ChangeAt Go.RowKit
open Go.Proofs.Ytlbplicafcoifaa.Base
set_option linter.unusedVariables false
/-- The block g is a record. -/
def RB (w : World) (g : Nat) (r : Rec) : Prop := w.heap[g]? = some (.cells #[.int .i64 r.p, .string r.k, .string r.v] 34)
theorem RB.cells {w : World} {g : Nat} {r : Rec} (h : RB w g r) : w.cell? ⟨g, 0, none⟩ = some (.int .i64 r.p) ∧ w.cell? ⟨g, 1, none⟩ = some (.string r.k) ∧ w.cell? ⟨g, 2, none⟩ = some (.string r.v) := by
  refine ⟨?_, ?_, ?_⟩ <;> (rw [cell_of_row _ _ _ _ _ _ h]; rfl)
theorem RB.frozen {w : World} {g : Nat} {r : Rec} (h : RB w g r) (k : Nat) : w.frozen? ⟨g, k, none⟩ = false := frozen_of_row _ _ _ _ _ h
theorem RB.below {w w' : World} {g : Nat} {r : Rec} (h : RB w g r) (hb : Below w.heap.size w w') : RB w' g r := by
  unfold RB at h ⊢; rw [hb.block g (lt_row h)]; exact h
theorem RB.set1 {w : World} {g : Nat} {r : Rec} (h : RB w g r) : RB (w.setCell ⟨g, 1, none⟩ (.string r.k)) g r := by
  unfold RB; rw [heap_setCell_same _ _ _ _ _ _ h]; rfl
theorem RB.set2 {w : World} {g : Nat} {r : Rec} (h : RB w g r) : RB (w.setCell ⟨g, 2, none⟩ (.string r.v)) g r := by
  unfold RB; rw [heap_setCell_same _ _ _ _ _ _ h]; rfl
theorem RB.all {w : World} {g : Nat} {r0 : Rec} (h : RB w g r0) (r : Rec) : RB (((w.setCell ⟨g, 0, none⟩ (.int .i64 r.p)).setCell ⟨g, 1, none⟩ (.string r.k)).setCell ⟨g, 2, none⟩ (.string r.v)) g r := by
  unfold RB; rw [heap_setCell_same _ _ _ _ _ _ (by rw [heap_setCell_same _ _ _ _ _ _ (by rw [heap_setCell_same _ _ _ _ _ _ h])])]; rfl
theorem rb_far {w : World} {g g' k : Nat} {r : Rec} {v : Value} (h : RB w g r) (hne : g ≠ g') : RB (w.setCell ⟨g', k, none⟩ v) g r := by
  unfold RB at h ⊢; rw [Below.heap_setCell _ _ _ _ (by simpa using hne)]; exact h
theorem rec_ret {fn : Func} {p : Tmp} (h : fn.results = #[.cell p 34]) (tmps : Array Value) (w : World) (g : Nat) (r : Rec) (hp : tmps.getD p undef = .pointer (some ⟨g, 0, none⟩)) (hf : RB w g r) :
    (results fn tmps).run Try.prog w = .ok r.val w :=
  results_cell_row h tmps w g 34 _ (0, 0) _ hp hf Try.underlying34 rfl (by kernel_rfl)
set_option maxHeartbeats 1000000 in
set_option maxRecDepth 100000 in
theorem owned_any (r : Rec) (w : World) (hk : r.k.size ≤ 281474976710656) (hv : r.v.size ≤ 281474976710656) :
    Calls Try.prog 24 #[r.val] w fun e w' => e = .returned r.val ∧ Below w.heap.size w w' := by
  have h1 := hide (fun W => St.clone_any r.k W hk)
  have h2 := hide (fun W => St.clone_any r.v W hv)
  obtain ⟨g, hg⟩ : ∃ g, w.heap.size = g := ⟨_, rfl⟩
  obtain ⟨W, hW⟩ : ∃ W, (w.alloc (.cells #[.int .i64 r.p, .string r.k, .string r.v] 34)).alloc (.cells #[.int .i64 0, .string ⟨#[]⟩, .string ⟨#[]⟩] 34) = W := ⟨_, rfl⟩
  have HA : Hid (Below w.heap.size w W) := by rw [← hW]; exact (((Below.refl w.heap.size w).alloc (Nat.le_refl _) _).alloc (by simp) _)
  have HB1 : Hid (RB W g r) := by
    show _ = _
    rw [← hW, heap_alloc_old _ _ (by simp; omega), ← hg]; exact heap_alloc_new _ _
  have HB2 : Hid (RB W (g + 1) rec0) := by
    show _ = _
    rw [← hW, ← hg]
    have h := heap_alloc_new (w.alloc (.cells #[.int .i64 r.p, .string r.k, .string r.v] 34)) (.cells #[.int .i64 0, .string ⟨#[]⟩, .string ⟨#[]⟩] 34)
    rw [show (w.alloc (.cells #[.int .i64 r.p, .string r.k, .string r.v] 34)).heap.size = w.heap.size + 1 by simp] at h
    exact h
  obtain ⟨a0, a1, a2⟩ := HB1.out.cells
  unfold Rec.val
  go_enter Try.func24, Try.ntmps24
  go_wp2_with fail
  refine (h1.out _).mono ?_
  rintro e w2 ⟨rfl, hb2⟩
  have HR2 := hide (HB1.out.below hb2)
  have HS2 := hide (HB2.out.below hb2)
  have HW2 := hide (below_trans HA.out hb2)
  clear hb2 h1 a0 a1 a2
  obtain ⟨b0, b1, b2⟩ := HR2.out.cells
  have f1 := HR2.out.frozen 1
  obtain ⟨w3, hw3⟩ : ∃ w3, w2.setCell ⟨g, 1, none⟩ (.string r.k) = w3 := ⟨_, rfl⟩
  have HR3 : Hid (RB w3 g r) := by rw [← hw3]; exact HR2.out.set1
  have HS3 : Hid (RB w3 (g + 1) rec0) := by rw [← hw3]; exact rb_far HS2.out (by omega)
  have HW3 : Hid (Below w.heap.size w w3) := by rw [← hw3]; exact HW2.out.setCell (by show w.heap.size ≤ g; omega) _
  obtain ⟨c0, c1, c2⟩ := HR3.out.cells
  go_wp2_with fail
  refine (h2.out _).mono ?_
  rintro e w4 ⟨rfl, hb4⟩
  have HR4 := hide (HR3.out.below hb4)
  have HS4 := hide (HS3.out.below hb4)
  have HW4 := hide (below_trans HW3.out hb4)
  clear hb4 h2
  obtain ⟨d0, d1, d2⟩ := HR4.out.cells
  have g2 := HR4.out.frozen 2
  obtain ⟨w5, hw5⟩ : ∃ w5, w4.setCell ⟨g, 2, none⟩ (.string r.v) = w5 := ⟨_, rfl⟩
  have HR5 : Hid (RB w5 g r) := by rw [← hw5]; exact HR4.out.set2
  have HS5 : Hid (RB w5 (g + 1) rec0) := by rw [← hw5]; exact rb_far HS4.out (by omega)
  have HW5 : Hid (Below w.heap.size w w5) := by rw [← hw5]; exact HW4.out.setCell (by show w.heap.size ≤ g; omega) _
  obtain ⟨e0, e1, e2⟩ := HR5.out.cells
  obtain ⟨i0, i1, i2⟩ := HS5.out.cells
  have j0 := HS5.out.frozen 0
  have j1 := HS5.out.frozen 1
  have j2 := HS5.out.frozen 2
  go_wp2_with fail
  refine bodyPost_ret (rec_ret rfl _ _ (g + 1) r rfl (HS5.out.all r)) rfl ?_
  exact ⟨rfl, ((HW5.out.setCell (by show w.heap.size ≤ g + 1; omega) _).setCell (by show w.heap.size ≤ g + 1; omega) _).setCell (by show w.heap.size ≤ g + 1; omega) _⟩
end Go.Proofs.Ytlbplicafcoifaa.So
