/-
  A range over a function that gives nothing, in the plain walk.
-/
import Derived.Test.YtcnfkgmefikcjaaBase
import Derived.RangeFuncIn
import Derived.RangeFuncRecord
import Derived.RangeFuncLeaves
namespace Go.Proofs.Ytcnfkgmefikcjaa.Me
open Go.ChangeShapes Go.WideShapes Go.ChangeAt Go.RowKit
open Go.Proofs.Ytcnfkgmefikcjaa.Base
set_option linter.unusedVariables false
/-- A function whose body holds a range over a function. -/
theorem calls_marks {P : Program} {f : FuncId} {fn : Func} {c : Code} {args : Array Value} {w : World} {R : Ending → World → Prop} (hf : P.funcs[f]? = some fn) (hb : fn.body = some c)
    (h : c.wp P (bodyPostM Fence.wide 1 P fn R) { tmps := args ++ Array.replicate (fn.ntmps - args.size) undef, defers := [] } w) : Calls P f args w R :=
  (callsIn_wide (n := 1)).1 (callsIn_of_wp_marks hf hb trivial (wpIn_wide.2 h) rfl)
theorem enter_fn {P : Program} {K : Nat} {fn : Func} {c : Code} (hf : P.funcs[K]? = some fn) (hn : (fn.name == "runtime.NumGoroutine") = false) (hb : fn.body = some c) (args : Array Value) (W : World) : (callFunc K args).run P W = .ok (.enter K args) W := by
  have h1 : fn.name ≠ "runtime.NumGoroutine" := by simpa using hn
  simp [callFunc, hf, h1, hb, mark]
/-- What lies behind the loop: the block for deferred calls is there, and no call in it. -/
def Shut (w W : World) (D : Nat) : Prop := w.heap.size ≤ D ∧ W.heap[D]? = some (.deferred (some []))
theorem Shut.below {w W V : World} {D : Nat} (h : Shut w W D) (hb : Below W.heap.size W V) : Shut w V D := by
  have hl : D < W.heap.size := (Array.getElem?_eq_some_iff.1 h.2).1
  exact ⟨h.1, (hb.block D hl).trans h.2⟩
theorem wp_range_none {P : Program} {g : Operand} {ps : Array Tmp} {assign body : Code} {Q : Exit → Act → World → Prop} {a : Act} {w : World} {gf : Nat} {lb : Array Value} (hg : a.eval g = .func (.func gf) #[] lb) (eg : ∀ args w, (callFunc gf args).run P w = .ok (.enter gf args) w)
    (hcall : ∀ l W, Below w.heap.size w W → Calls P gf (#[.func (.yield l) #[] #[]] ++ lb) W fun e W' => (∃ v, e = .returned v) ∧ Below W.heap.size W W')
    (hQ : ∀ D W', Below w.heap.size w W' → Shut w W' D → Q .normal { a with defers := { target := .collected D, args := #[] } :: a.defers } W') :
    (Code.rangeFunc g ps assign body).wp P Q a w := by
  refine (wpIn_wide (n := 1)).1 (wpIn_rangeFunc ?_)
  intro fn hfn
  obtain ⟨W1, hW1⟩ : ∃ W1, (w.alloc (.deferred (some []))).alloc (.loop { state := .ready, pending := none, fn, tmps := a.tmps, params := ps, assign, body, defers := w.heap.size }) = W1 := ⟨_, rfl⟩
  have hL1 : W1.heap[w.heap.size + 1]? = some (.loop { state := .ready, pending := none, fn, tmps := a.tmps, params := ps, assign, body, defers := w.heap.size }) := by
    rw [← hW1]; have := World.alloc_heap_new (w.alloc (.deferred (some []))) (.loop { state := .ready, pending := none, fn, tmps := a.tmps, params := ps, assign, body, defers := w.heap.size }); rwa [World.size_alloc] at this
  have hK1 : W1.heap[w.heap.size]? = some (.deferred (some [])) := by
    rw [← hW1]; exact (Below.heap_alloc _ _ _ (by simp)).trans (World.alloc_heap_new w _)
  have hb1 : Below w.heap.size w W1 := by
    rw [← hW1]; exact ((Below.refl _ w).alloc (Nat.le_refl _) _).alloc (by simp) _
  have hz1 : W1.heap.size = w.heap.size + 2 := by rw [← hW1]; simp
  refine ⟨w.heap.size + 1, [{ target := .collected w.heap.size, args := #[] }], W1, { target := .fn (.func gf) lb, args := #[.func (.yield (w.heap.size + 1)) #[] #[]] }, W1, gf,
    #[.func (.yield (w.heap.size + 1)) #[] #[]] ++ lb, W1, ?_, ?_, ?_, ?_, fun _ => Nat.le_refl _, ?_⟩
  · rw [← hW1]; exact run_enterLoop_outer _ _ _ _ _
  · simp only [resolve, hg]
    simp [go_sem]
  · intro f' hf'; trivial
  · simp [invoke, go_sem, eg]
  · refine callsIn_wide.2 ((hcall (w.heap.size + 1) W1 hb1).mono ?_)
    rintro e W2 ⟨⟨v, rfl⟩, hb2⟩
    have hL2 := (hb2.block (w.heap.size + 1) (by omega)).trans hL1
    refine ⟨none, W2.putObj (w.heap.size + 1) (.loop { state := .exhausted, pending := none, fn, tmps := a.tmps, params := ps, assign, body, defers := w.heap.size }), run_endLoop hL2 (by simp), ?_⟩
    have hs2 : (W2.putObj (w.heap.size + 1) (.loop { state := .exhausted, pending := none, fn, tmps := a.tmps, params := ps, assign, body, defers := w.heap.size })).heap.size = W2.heap.size := by simp [World.putObj]
    have hb3 : Below w.heap.size w W2 := hb1.trans (hb2.mono hb1.size)
    refine hQ w.heap.size _ ⟨hb3.os, hb3.tape, hb3.output, by rw [hs2]; exact hb3.size, fun k hk => ?_⟩ ⟨Nat.le_refl _, ?_⟩
    · rw [World.putObj_heap_other (by omega)]; exact hb3.block k hk
    · rw [World.putObj_heap_other (by omega)]
      exact (hb2.block _ (by omega)).trans hK1
/-- The way out, with a mark: the result lies in a cell. -/
theorem leaves_cell {P : Program} {fn : Func} {p : Tmp} {ty : TypeId} (h : fn.results = #[.cell p ty]) {tmps : Array Value} {w W : World} {R : Ending → World → Prop} {D gc : Nat} {v : Value} {args : Array Value} (hs : Shut w W D) (hc : W.cell? ⟨gc, 0, none⟩ = some v) (hgc : gc ≠ D) (hp : tmps.getD p undef = .pointer (some ⟨gc, 0, none⟩))
    (hload : ∀ V : World, V.cell? ⟨gc, 0, none⟩ = some v → (results fn tmps).run P V = .ok v V) (hR : ∀ V, Below w.heap.size W V → R (.returned v) V) : bodyPostM Fence.wide 1 P fn R .ret { tmps := tmps, defers := [{ target := .collected D, args := args }] } W := by
  refine ⟨by simp, .inl ⟨_, _, rfl, run_takeDeferred hs.2, ?_⟩⟩
  have e1 : (W.putObj D (.deferred none)).cell? ⟨gc, 0, none⟩ = some v := by
    rw [← hc]
    exact World.cell?_of_block (World.putObj_heap_other hgc)
  refine ⟨v, hload _ e1, hR _ ⟨rfl, rfl, rfl, by simp [World.putObj], fun k hk => World.putObj_heap_other (by have := hs.1; omega)⟩⟩
end Go.Proofs.Ytcnfkgmefikcjaa.Me
