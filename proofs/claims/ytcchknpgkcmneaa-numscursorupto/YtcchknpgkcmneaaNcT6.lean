/-
  One step on both cursors: what is kept.
-/
import Derived.Test.YtcchknpgkcmneaaNcT5
import Derived.Laws.StructEq
namespace Go.Proofs.Ytcchknpgkcmneaa.Curs
open Go.ChangeShapes Go.WideShapes Go.ChangeAt Go.RowKit
open Go.Proofs.Ytcchknpgkcmneaa.Base Go.Proofs.Ytcchknpgkcmneaa.Nums
set_option linter.unusedVariables false
/-- The block i holds no byte. -/
def NoB (w : World) (i : Nat) : Prop := ∀ off x, w.cell? ⟨i, off, none⟩ ≠ some (.int .u8 x)
theorem Row.nob {w : World} {g : Nat} {v : Value} {p e : Int} (h : Row w g v p e) (hv : ∀ x, v ≠ .int .u8 x) : NoB w g := by
  intro off x hx
  rw [cell_of_row _ _ _ _ _ _ h] at hx
  match off with
  | 0 => simp at hx; exact hv x hx
  | 1 => simp at hx
  | 2 => simp at hx
  | off + 3 => simp at hx
theorem Row5.nob {w : World} {g : Nat} {v : Value} {p er wa : Int} {f : Bool} (h : Row5 w g v p f er wa) (hv : ∀ x, v ≠ .int .u8 x) : NoB w g := by
  intro off x hx
  rw [cell_of_row _ _ _ _ _ _ h] at hx
  match off with
  | 0 => simp at hx; exact hv x hx
  | 1 => simp at hx
  | 2 => simp at hx
  | 3 => simp at hx
  | 4 => simp at hx
  | off + 5 => simp at hx
theorem Cz.nob {w : World} {g D : Nat} {s : St} (h : Cz w g D s) : NoB w g := by
  rcases h with ⟨he, a, c, hr, _⟩ | ⟨he, hL, hp, h⟩ | ⟨he, hL, h⟩
  · exact hr.nob (fun x => by simp)
  · exact h.nob (fun x => by simp)
  · exact h.nob (fun x => by simp)
theorem Rz.nob {w : World} {g D : Nat} {s : St} (h : Rz w g D s) : NoB w g := by
  rcases h with ⟨_, a, n, c, bs, q1, _⟩ | ⟨_, _, a, n, c, at', q1, _⟩
  · exact q1.nob (fun x => by simp)
  · exact q1.nob (fun x => by simp)
theorem rd_apart {w w' : World} {a : Option Addr} {n i : Nat} {bs : List (BitVec 8)} (h : Rd w a n bs) (hg : w.grownBy w' (some i)) (hi : NoB w i) : Rd w' a n bs := by
  obtain ⟨h1, h2, h3⟩ := h
  by_cases hn : 0 < n
  · obtain ⟨b, off, rfl, hb, hc⟩ := h3 hn
    refine ⟨h1, h2, fun _ => ⟨b, off, rfl, Nat.lt_of_lt_of_le hb hg.size, fun j hj => ?_⟩⟩
    refine hg.cell (hc j hj) (fun e => ?_)
    have := Option.some.inj e
    simp only at this
    subst this
    exact hi _ _ (hc j hj)
  · exact ⟨h1, h2, fun h => absurd h hn⟩
theorem Cz.other {w w' : World} {g D i : Nat} {s : St} (h : Cz w g D s) (hg : w.grownBy w' (some i)) (hne : i ≠ g) (hi : NoB w i) : Cz w' g D s := by
  have hr : (some i : Option Nat) ≠ some g := fun e => hne (Option.some.inj e)
  rcases h with ⟨he, a, c, q1, q2, q3, q4, q5, q6, q7, q8, q9⟩ | ⟨he, hL, hp, h⟩ | ⟨he, hL, h⟩
  · exact .inl ⟨he, a, c, q1.grown hg hr, rd_apart q2 hg hi, q3, q4, q5, q6, q7, Nat.le_trans q8 hg.size, q9⟩
  · exact .inr (.inl ⟨he, hL, hp, h.grown hg hr⟩)
  · exact .inr (.inr ⟨he, hL, h.grown hg hr⟩)
theorem Rz.other {w w' : World} {g D i : Nat} {s : St} (h : Rz w g D s) (hg : w.grownBy w' (some i)) (hne : i ≠ g) (hi : NoB w i) : Rz w' g D s := by
  have hr : (some i : Option Nat) ≠ some g := fun e => hne (Option.some.inj e)
  rcases h with ⟨he, a, n, c, bs, q1, q2, q3, q4, q5, q6⟩ | ⟨he, hL, a, n, c, at', q1, q2⟩
  · exact .inl ⟨he, a, n, c, bs, q1.grown hg hr, rd_apart q2 hg hi, q3, q4, q5, fun ad e => ⟨(q6 ad e).1, (q6 ad e).2.1, Nat.le_trans (q6 ad e).2.2 hg.size⟩⟩
  · exact .inr ⟨he, hL, a, n, c, at', q1.grown hg hr, q2⟩
theorem rd_low {B : Nat} {w w' : World} {a : Option Addr} {n : Nat} {bs : List (BitVec 8)} (h : Rd w a n bs) (hb : Below B w w') (ha : ∀ ad, a = some ad → ad.block < B) : Rd w' a n bs := by
  obtain ⟨h1, h2, h3⟩ := h
  refine ⟨h1, h2, fun hn => ?_⟩
  obtain ⟨b, off, rfl, hb2, hc⟩ := h3 hn
  refine ⟨b, off, rfl, Nat.lt_of_lt_of_le hb2 hb.size, fun j hj => ?_⟩
  rw [hb.cell (p := ⟨b, off + j, none⟩) (show b < B from ha ⟨b, off, none⟩ rfl)]; exact hc j hj
theorem Cz.low {B : Nat} {w w' : World} {g D : Nat} {s : St} (h : Cz w g D s) (hb : Below B w w') (h1 : g < B) (h2 : D ≤ B) : Cz w' g D s := by
  have hk : ∀ {v : Value} {p e : Int}, Row w g v p e → Row w' g v p e := fun {v p e} q => by unfold Row; rw [hb.block g h1]; exact q
  rcases h with ⟨he, a, c, q1, q2, q3, q4, q5, q6, q7, q8, q9⟩ | ⟨he, hL, hp, h⟩ | ⟨he, hL, h⟩
  · exact .inl ⟨he, a, c, hk q1, rd_low q2 hb (fun ad e => by cases e; omega), q3, q4, q5, q6, q7, Nat.le_trans q8 hb.size, q9⟩
  · exact .inr (.inl ⟨he, hL, hp, hk h⟩)
  · exact .inr (.inr ⟨he, hL, hk h⟩)
theorem Rz.low {B : Nat} {w w' : World} {g D : Nat} {s : St} (h : Rz w g D s) (hb : Below B w w') (h1 : g < B) (h2 : D ≤ B) : Rz w' g D s := by
  have hk : ∀ {v : Value} {p er wa : Int} {f : Bool}, Row5 w g v p f er wa → Row5 w' g v p f er wa := fun {v p er wa f} q => by unfold Row5; rw [hb.block g h1]; exact q
  rcases h with ⟨he, a, n, c, bs, q1, q2, q3, q4, q5, q6⟩ | ⟨he, hL, a, n, c, at', q1, q2⟩
  · exact .inl ⟨he, a, n, c, bs, hk q1, rd_low q2 hb (fun ad e => by have := (q6 ad e).2.1; omega), q3, q4, q5, fun ad e => ⟨(q6 ad e).1, (q6 ad e).2.1, Nat.le_trans (q6 ad e).2.2 hb.size⟩⟩
  · exact .inr ⟨he, hL, a, n, c, at', hk q1, q2⟩
/-- Below base nothing has turned but the blocks p and q. -/
structure KB (base : Nat) (w w' : World) (p q : Nat) : Prop where
  os : w'.os = w.os
  tape : w'.tape = w.tape
  output : w'.output = w.output
  size : w.heap.size ≤ w'.heap.size
  block : ∀ i, i < base → i ≠ p → i ≠ q → w'.heap[i]? = w.heap[i]?
theorem KB.refl (base : Nat) (w : World) (p q : Nat) : KB base w w p q := ⟨rfl, rfl, rfl, Nat.le_refl _, fun _ _ _ _ => rfl⟩
theorem KB.grown {base p q i : Nat} {w w1 w2 : World} (h : KB base w w1 p q) (hg : w1.grownBy w2 (some i)) (hb : base ≤ w.heap.size) (hi : i = p ∨ i = q) : KB base w w2 p q :=
  ⟨hg.os.trans h.os, hg.tape.trans h.tape, hg.output.trans h.output, Nat.le_trans h.size hg.size, fun k hk h1 h2 => (hg.block k (by have := h.size; omega) (fun e => by have := Option.some.inj e; omega)).trans (h.block k hk h1 h2)⟩
theorem KB.low {base p q : Nat} {w w1 w2 : World} (h : KB base w w1 p q) (hb : Below base w1 w2) : KB base w w2 p q :=
  ⟨hb.os.trans h.os, hb.tape.trans h.tape, hb.output.trans h.output, Nat.le_trans h.size hb.size, fun k hk h1 h2 => (hb.block k hk).trans (h.block k hk h1 h2)⟩
theorem KB.below {base p q : Nat} {w w1 w2 : World} (h : KB base w w1 p q) (hb : Below w1.heap.size w1 w2) (hw : base ≤ w.heap.size) : KB base w w2 p q := h.low (hb.mono (Nat.le_trans hw h.size))
/-- How all stands, ahead of a step and behind it. -/
structure All (w : World) (base gt gc gr D : Nat) (vl vw vg : Value) (es : List En) (s : St) : Prop where
  tk : TK w base gt vl vw vg es
  cz : Cz w gc D s
  rz : Rz w gr D s
theorem All.below {w w' : World} {base gt gc gr D : Nat} {vl vw vg : Value} {es : List En} {s : St} (h : All w base gt gc gr D vl vw vg es s) (hb : Below w.heap.size w w') : All w' base gt gc gr D vl vw vg es s := ⟨h.tk.below hb, h.cz.below hb, h.rz.below hb⟩
theorem stepS_len (s : St) (r : Nat × Nat) (n : Nat) (h : s.1.length ≤ n) : (stepS s.1 s.2.1 s.2.2 r).1.length ≤ n := by
  unfold stepS
  split
  · exact h
  · split
    · show (s.1.drop r.1).length ≤ n; rw [List.length_drop]; omega
    · simp
theorem failS_len (s : St) (k : Int) (n : Nat) (h : s.1.length ≤ n) : (failS s k).1.length ≤ n := by
  unfold failS
  split
  · exact h
  · simp
/-- The step that is handed in. -/
def SX (w : World) (x : Nat) (op N : Int) : Prop := w.heap[x]? = some (.cells #[.int .i64 op, .int .i64 N] 45)
theorem SX.c0 {w : World} {x : Nat} {op N : Int} (h : SX w x op N) : w.cell? ⟨x, 0, none⟩ = some (.int .i64 op) := by rw [cell_of_row _ _ _ _ _ _ h]; rfl
theorem SX.c1 {w : World} {x : Nat} {op N : Int} (h : SX w x op N) : w.cell? ⟨x, 1, none⟩ = some (.int .i64 N) := by rw [cell_of_row _ _ _ _ _ _ h]; rfl
theorem SX.lt {w : World} {x : Nat} {op N : Int} (h : SX w x op N) : x < w.heap.size := block_lt_of_cell h.c0
theorem SX.grown {w w' : World} {x i : Nat} {op N : Int} (h : SX w x op N) (hg : w.grownBy w' (some i)) (hi : i ≠ x) : SX w' x op N := by
  unfold SX; rw [hg.block x h.lt (fun e => hi (Option.some.inj e).symm)]; exact h
theorem SX.below {w w' : World} {x : Nat} {op N : Int} (h : SX w x op N) (hb : Below w.heap.size w w') : SX w' x op N := by
  unfold SX; rw [hb.block x h.lt]; exact h
/-- What both cursors' calls do to all the rest. -/
structure Ctx (w : World) (base gt gc gr D x : Nat) (vl vw vg : Value) (es : List En) (op N : Int) (W : World) (s t : St) : Prop where
  tk : TK W base gt vl vw vg es
  cz : Cz W gc D s
  rz : Rz W gr D t
  sx : SX W x op N
  kb : KB base w W gc gr
section
variable {w W W' : World} {base gt gc gr D x : Nat} {vl vw vg : Value} {es : List En} {op N : Int} {s s' t t' : St}
theorem Ctx.prog (h : Ctx w base gt gc gr D x vl vw vg es op N W s t) (hg : W.grownBy W' (some gc)) (hc : Cz W' gc D s') (h1 : gc < base) (h2 : gc ≠ gr) (h3 : base ≤ w.heap.size) (h4 : w.heap.size ≤ x) : Ctx w base gt gc gr D x vl vw vg es op N W' s' t :=
  ⟨h.tk.grown hg (fun i e => by cases e; exact h1), hc, h.rz.other hg h2 h.cz.nob, h.sx.grown hg (by omega), h.kb.grown hg h3 (.inl rfl)⟩
theorem Ctx.ref (h : Ctx w base gt gc gr D x vl vw vg es op N W s t) (hg : W.grownBy W' (some gr)) (hc : Rz W' gr D t') (h1 : gr < base) (h2 : gc ≠ gr) (h3 : base ≤ w.heap.size) (h4 : w.heap.size ≤ x) : Ctx w base gt gc gr D x vl vw vg es op N W' s t' :=
  ⟨h.tk.grown hg (fun i e => by cases e; exact h1), h.cz.other hg (fun e => h2 e.symm) h.rz.nob, hc, h.sx.grown hg (by omega), h.kb.grown hg h3 (.inr rfl)⟩
theorem Ctx.below (h : Ctx w base gt gc gr D x vl vw vg es op N W s t) (hb : Below W.heap.size W W') (h3 : base ≤ w.heap.size) : Ctx w base gt gc gr D x vl vw vg es op N W' s t :=
  ⟨h.tk.below hb, h.cz.below hb, h.rz.below hb, h.sx.below hb, h.kb.below hb h3⟩
/-- The same, the step left out. -/
structure Cty (w : World) (base gt gc gr D : Nat) (vl vw vg : Value) (es : List En) (W : World) (s t : St) : Prop where
  tk : TK W base gt vl vw vg es
  cz : Cz W gc D s
  rz : Rz W gr D t
  kb : KB base w W gc gr
theorem Cty.below (h : Cty w base gt gc gr D vl vw vg es W s t) (hb : Below W.heap.size W W') (h3 : base ≤ w.heap.size) : Cty w base gt gc gr D vl vw vg es W' s t :=
  ⟨h.tk.below hb, h.cz.below hb, h.rz.below hb, h.kb.below hb h3⟩
theorem Ctx.drew (h : Ctx w base gt gc gr D x vl vw vg es op N W s t) (h3 : base ≤ w.heap.size) : Ctx w base gt gc gr D x vl vw vg es op N W.drew s t := h.below ((Below.refl _ _).drew) h3
end
end Go.Proofs.Ytcchknpgkcmneaa.Curs
