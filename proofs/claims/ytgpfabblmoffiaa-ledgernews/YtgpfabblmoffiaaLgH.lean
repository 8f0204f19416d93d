/-
  Books as results; books that are handed in, with marks in the room of their lists; are they kept?
-/
import Derived.Test.YtgpfabblmoffiaaLgG
import Derived.Laws.Rows
import Derived.Laws.ResultCell
namespace Go.Proofs.Ytgpfabblmoffiaa.Lg
open Go.ChangeShapes Go.WideShapes Go.ChangeAt Go.RowKit
open Go.Proofs.Ytgpfabblmoffiaa.Base Go.Proofs.Ytgpfabblmoffiaa.Rf
set_option linter.unusedVariables false
theorem bc_ret {fn : Func} {p : Tmp} (h : fn.results = #[.cell p 24]) (tmps : Array Value) (w : World) (g : Nat) (t : Int) (v1 v2 : Value) (f : Bool) (hp : tmps.getD p undef = .pointer (some ⟨g, 0, none⟩)) (hf : BC w g t v1 v2 f) :
    (results fn tmps).run Try.prog w = .ok (.agg #[.int .i64 t, v1, v2, .bool f]) w :=
  results_cell_row h tmps w g 24 _ (0, 0) _ hp hf Try.underlying24 rfl (by kernel_rfl)
theorem bc_ret2 {fn : Func} {p u : Tmp} (h : fn.results = #[.cell p 24, .tmp u]) (tmps : Array Value) (w : World) (g : Nat) (t : Int) (v1 v2 : Value) (f : Bool) (hp : tmps.getD p undef = .pointer (some ⟨g, 0, none⟩)) (hf : BC w g t v1 v2 f) :
    (results fn tmps).run Try.prog w = .ok (.tuple #[.agg #[.int .i64 t, v1, v2, .bool f], tmps.getD u undef]) w := by
  rw [results_cell_tmp h, hp]
  simp [asAddr, run_loadVar_row w g 24 24 _ (0, 0) _ hf Try.underlying24 rfl (by kernel_rfl)]
theorem results_cell_tmp2 {fn : Func} {p u u2 : Tmp} {ty : TypeId} (h : fn.results = #[.cell p ty, .tmp u, .tmp u2]) (tmps : Array Value) (P : Program) (w : World) :
    (results fn tmps).run P w =
      ((asAddr (tmps.getD p undef)).run P w).andThen fun a w₁ => ((loadVar ty a).run P w₁).andThen fun v w₂ => .ok (.tuple #[v, tmps.getD u undef, tmps.getD u2 undef]) w₂ := by
  simp only [results, h]
  simp [Sem.run_bind, Result.andThen]
theorem results_cell_tmp3 {fn : Func} {p u u2 u3 : Tmp} {ty : TypeId} (h : fn.results = #[.cell p ty, .tmp u, .tmp u2, .tmp u3]) (tmps : Array Value) (P : Program) (w : World) :
    (results fn tmps).run P w =
      ((asAddr (tmps.getD p undef)).run P w).andThen fun a w₁ => ((loadVar ty a).run P w₁).andThen fun v w₂ => .ok (.tuple #[v, tmps.getD u undef, tmps.getD u2 undef, tmps.getD u3 undef]) w₂ := by
  simp only [results, h]
  simp [Sem.run_bind, Result.andThen]
theorem bc_ret3 {fn : Func} {p u u2 : Tmp} (h : fn.results = #[.cell p 24, .tmp u, .tmp u2]) (tmps : Array Value) (w : World) (g : Nat) (t : Int) (v1 v2 : Value) (f : Bool) (hp : tmps.getD p undef = .pointer (some ⟨g, 0, none⟩)) (hf : BC w g t v1 v2 f) :
    (results fn tmps).run Try.prog w = .ok (.tuple #[.agg #[.int .i64 t, v1, v2, .bool f], tmps.getD u undef, tmps.getD u2 undef]) w := by
  rw [results_cell_tmp2 h, hp]
  simp [asAddr, run_loadVar_row w g 24 24 _ (0, 0) _ hf Try.underlying24 rfl (by kernel_rfl)]
theorem bc_ret4 {fn : Func} {p u u2 u3 : Tmp} (h : fn.results = #[.cell p 24, .tmp u, .tmp u2, .tmp u3]) (tmps : Array Value) (w : World) (g : Nat) (t : Int) (v1 v2 : Value) (f : Bool) (hp : tmps.getD p undef = .pointer (some ⟨g, 0, none⟩)) (hf : BC w g t v1 v2 f) :
    (results fn tmps).run Try.prog w = .ok (.tuple #[.agg #[.int .i64 t, v1, v2, .bool f], tmps.getD u undef, tmps.getD u2 undef, tmps.getD u3 undef]) w := by
  rw [results_cell_tmp3 h, hp]
  simp [asAddr, run_loadVar_row w g 24 24 _ (0, 0) _ hf Try.underlying24 rfl (by kernel_rfl)]
theorem BC.set1 {w : World} {g : Nat} {t : Int} {v1 v2 : Value} {f : Bool} (h : BC w g t v1 v2 f) (u : Value) : BC (w.setCell ⟨g, 1, none⟩ u) g t u v2 f := by
  unfold BC; rw [heap_setCell_same _ _ 1 _ _ _ h]; rfl
theorem BC.set2 {w : World} {g : Nat} {t : Int} {v1 v2 : Value} {f : Bool} (h : BC w g t v1 v2 f) (u : Value) : BC (w.setCell ⟨g, 2, none⟩ u) g t v1 u f := by
  unfold BC; rw [heap_setCell_same _ _ 2 _ _ _ h]; rfl
theorem BC.set3 {w : World} {g : Nat} {t : Int} {v1 v2 : Value} {f : Bool} (h : BC w g t v1 v2 f) (u : Bool) : BC (w.setCell ⟨g, 3, none⟩ (.bool u)) g t v1 v2 u := by
  unfold BC; rw [heap_setCell_same _ _ 3 _ _ _ h]; rfl
/-- The four cells of a book written over. -/
def set4 (w : World) (g : Nat) (t : Int) (v1 v2 : Value) (f : Bool) : World := (((w.setCell ⟨g, 0, none⟩ (.int .i64 t)).setCell ⟨g, 1, none⟩ v1).setCell ⟨g, 2, none⟩ v2).setCell ⟨g, 3, none⟩ (.bool f)
theorem BC.set4 {w : World} {g : Nat} {t : Int} {v1 v2 : Value} {f : Bool} (h : BC w g t v1 v2 f) (t' : Int) (u1 u2 : Value) (f' : Bool) : BC (Lg.set4 w g t' u1 u2 f') g t' u1 u2 f' := by
  unfold BC Lg.set4; rw [heap_setCell_same _ _ 3 _ _ _ (heap_setCell_same _ _ 2 _ _ _ (heap_setCell_same _ _ 1 _ _ _ (heap_setCell_same _ _ 0 _ _ _ h)))]; rfl
theorem grown_set4 (w : World) (g : Nat) (t : Int) (v1 v2 : Value) (f : Bool) : w.grownBy (Lg.set4 w g t v1 v2 f) (some g) :=
  grown_cell (grown_cell (grown_cell (grown_cell (World.grownBy.refl _ _) _ _) _ _) _ _) _ _
theorem BC.kp {w w' : World} {g : Nat} {t : Int} {v1 v2 : Value} {f : Bool} {S : Nat → Prop} (h : BC w g t v1 v2 f) (k : Kp S w w') (hS : ¬ S g) : BC w' g t v1 v2 f := (k.block g h.lt hS).trans h
theorem TC.kp {w w' : World} {g : Nat} {x : TS} {S : Nat → Prop} (h : TC w g x) (k : Kp S w w') (hS : ¬ S g) : TC w' g x := (k.block g h.lt hS).trans h
theorem Rm.below {w w' : World} {base g : Nat} {L : List TS} (h : Rm w base g L) (hb : Below w.heap.size w w') : Rm w' base g L := TF.below h hb
theorem Rm.kp {w w' : World} {base g : Nat} {L : List TS} {S : Nat → Prop} (h : Rm w base g L) (k : Kp S w w') (hS : ¬ S g) : Rm w' base g L := TF.kp h k hS
theorem Rm.mono {w : World} {base base' g : Nat} {L : List TS} (h : Rm w base g L) (hb : base' ≤ base) : Rm w base' g L := OwnF.mono h hb
end Go.Proofs.Ytgpfabblmoffiaa.Lg
