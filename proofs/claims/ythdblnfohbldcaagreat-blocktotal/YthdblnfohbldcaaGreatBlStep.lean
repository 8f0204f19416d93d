/-
  Steps of regions that append; what has turned, told by a set of blocks.
-/
import Derived.Test.YthdblnfohbldcaaGreatBlSt
import Derived.Deep.RegionHeldLaw
import Derived.Deep.DeepCutAuto
import Derived.BigRegion
namespace Go.Proofs.YthdblnfohbldcaaGreat.Bl
open Go.ChangeShapes Go.WideShapes Go.ChangeAt Go.RowKit
open Go.Proofs.YthdblnfohbldcaaGreat.Base Go.Proofs.YthdblnfohbldcaaGreat.Nums
set_option linter.unusedVariables false
/-- append of a whole slice onto a slice of the call's own, as one step of a region that draws its order. -/
theorem step_join {ops : Array Oper} {o : Oper} {a : Act} {w : World} {K : Act → World → Prop} {Q : Exit → Act → World → Prop} {E : Prop} (hgd : o.guard = none) (s x : Operand)
    (ho : o.op = .call { callee := .builtin .append, args := #[s, x], argTypes := #[24, 24] })
    (base : Nat) (v : Value) (bs : List (BitVec 8)) (hs : a.eval s = v) (hown : Own w base v bs) (xa : Option Addr) (m cap : Nat) (cs : List (BitVec 8)) (hx : a.eval x = .slice xa m cap)
    (hr : Rd w xa m cs) (hnil : xa = none → m = 0 ∧ cap = 0) (hl : bs.length + m ≤ 140737488355328) (hbase : base ≤ w.heap.size)
    (h : ∀ v' w', Own w' base v' (bs ++ cs) → w.grownBy w' v.ownBlock → K (a.put o.dst v') w') :
    if Region.wanted o (yielded ops a.tmps) = true then Oper.wp Tryz.prog o a w K Q else E := by
  obtain ⟨i0, hi, hz0, hz1, hz2⟩ := info_parts info8
  have hcl := hr.1
  cases xa with
  | none =>
    obtain ⟨rfl, rfl⟩ := hnil rfl
    have : cs = [] := List.length_eq_zero_iff.1 hcl
    subst this
    have hw : Region.wanted o (yielded ops a.tmps) = true := by simp [Region.wanted, hgd]
    rw [if_pos hw]
    have hrun := run_append_owned_none (P := Tryz.prog) (w := w) base 24 o.type 5 i0 1 Tryz.underlying24 hi v bs.length (vals bs) hown
    have hh := h v w (by rw [List.append_nil]; exact hown) (World.grownBy.refl _ _)
    unfold Oper.wp
    simp [execOp, ho, resolve, invoke, builtin, hs, hx, hrun, Result.andThen]
    exact hh
  | some ad =>
    refine step_append_own hgd s x 24 ho base 5 i0 (.int .u8 0) 1 1 Tryz.underlying24 hi hz0 hz1 hz2 rfl (by omega) v bs.length (vals bs) hs hown ad m cap (vals cs) hx (by rw [length_vals]; omega) (fun j u hu => hr.cellsAt ad rfl j u hu) (vals_one _) (by unfold maxLen; omega) (by omega) hbase ?_
    intro v' w' h1 h2 _
    exact h v' w' (own_append h1 (by omega)) h2
/-- append of one int, as one step of a region. -/
theorem step_pushI {ops : Array Oper} {o : Oper} {a : Act} {w : World} {K : Act → World → Prop} {Q : Exit → Act → World → Prop} {E : Prop} (hgd : o.guard = none) (s x : Operand)
    (ho : o.op = .call { callee := .builtin .append, args := #[s, x], argTypes := #[55, 55] })
    (base : Nat) (v : Value) (xs : List Int) (hs : a.eval s = v) (hown : OwnI w base v xs) (ad : Addr) (cap : Nat) (c : Int) (hx : a.eval x = .slice (some ad) 1 cap)
    (hc : w.cell? (ad.add 0) = some (.int .i64 c)) (hl : xs.length + 1 ≤ 17592186044416) (hbase : base ≤ w.heap.size)
    (h : ∀ v' w', OwnI w' base v' (xs ++ [c]) → w.grownBy w' v.ownBlock → K (a.put o.dst v') w') :
    if Region.wanted o (yielded ops a.tmps) = true then Oper.wp Tryz.prog o a w K Q else E := by
  obtain ⟨i0, hi, hz0, hz1, hz2⟩ := info_parts (infoI (.inl rfl))
  refine step_append_own hgd s x 55 ho base 3 i0 (.int .i64 0) 1 8 Tryz.underlying55 hi hz0 hz1 hz2 rfl (by omega) v xs.length (ivals xs) hs hown ad 1 cap [.int .i64 c] hx rfl ?_ (ivals_all [c]) (by unfold maxLen; omega) (by omega) hbase ?_
  · intro j u hu
    cases j with
    | zero => simp at hu; subst hu; exact hc
    | succ j => simp at hu
  · intro v' w' h1 h2 _
    refine h v' w' ?_ h2
    unfold OwnI
    rw [List.length_append, ivals_app]
    exact h1
/-- Nothing of what was there has turned, but the blocks of F. -/
structure KeptF (w w' : World) (F : Nat → Prop) : Prop where
  os : w'.os = w.os
  tape : w'.tape = w.tape
  output : w'.output = w.output
  size : w.heap.size ≤ w'.heap.size
  block : ∀ i, i < w.heap.size → ¬ F i → w'.heap[i]? = w.heap[i]?
theorem KeptF.of {w w' : World} {F : Nat → Prop} (h : Below w.heap.size w w') : KeptF w w' F := ⟨h.os, h.tape, h.output, h.size, fun i hi _ => h.block i hi⟩
theorem KeptF.grown {w w' w'' : World} {F : Nat → Prop} {r : Option Nat} (h : KeptF w w' F) (g : w'.grownBy w'' r) (hr : ∀ i, r = some i → F i ∨ w.heap.size ≤ i) : KeptF w w'' F :=
  ⟨g.os.trans h.os, g.tape.trans h.tape, g.output.trans h.output, Nat.le_trans h.size g.size, fun i hi hF => (g.block i (Nat.lt_of_lt_of_le hi h.size) (fun e => by
    rcases hr i e.symm with e2 | e2
    · exact hF e2
    · omega)).trans (h.block i hi hF)⟩
theorem KeptF.below {w w' w'' : World} {F : Nat → Prop} (h : KeptF w w' F) (g : Below w'.heap.size w' w'') : KeptF w w'' F := h.grown (below_grown g) (fun i e => nomatch e)
theorem KeptF.toBelow {w0 w w' : World} {F : Nat → Prop} (hb : Below w0.heap.size w0 w) (h : KeptF w w' F) (hF : ∀ i, F i → w0.heap.size ≤ i) : Below w0.heap.size w0 w' :=
  ⟨h.os.trans hb.os, h.tape.trans hb.tape, h.output.trans hb.output, Nat.le_trans hb.size h.size, fun i hi => (h.block i (Nat.lt_of_lt_of_le hi hb.size) (fun e => by have := hF i e; omega)).trans (hb.block i hi)⟩
theorem KeptF.mono {w w' : World} {F G : Nat → Prop} (h : KeptF w w' F) (hFG : ∀ i, F i → G i ∨ w.heap.size ≤ i) : KeptF w w' G :=
  ⟨h.os, h.tape, h.output, h.size, fun i hi hG => h.block i hi (fun e => by rcases hFG i e with h1 | h1; exact hG h1; omega)⟩
/-- What type a block has. -/
def Ty (w : World) (o : Option Nat) (t : TypeId) : Prop := ∀ i, o = some i → ∃ cur : Array Value, w.heap[i]? = some (.cells cur t)
theorem ty_ne {w : World} {o o' : Option Nat} {t t' : TypeId} (h : Ty w o t) (h' : Ty w o' t') (hn : t ≠ t') : ∀ i, o = some i → o' ≠ some i := by
  intro i e e'
  obtain ⟨c, hc⟩ := h i e
  obtain ⟨c', hc'⟩ := h' i e'
  rw [hc] at hc'
  simp only [Option.some.injEq, Obj.cells.injEq] at hc'
  exact hn hc'.2.1
theorem own_ty {w : World} {base s n : Nat} {t : TypeId} {v : Value} {xs : List Value} (h : w.ownsRow base t s v n xs) : Ty w v.ownBlock t := by
  intro i e
  rcases h.2 with ⟨h1, _⟩ | ⟨g, cap, cur, h1, _, h3, _⟩
  · subst h1; cases e
  · subst h1; cases e; exact ⟨cur, h3⟩
theorem ne_ty : (5 : TypeId) ≠ 3 := by decide
end Go.Proofs.YthdblnfohbldcaaGreat.Bl
