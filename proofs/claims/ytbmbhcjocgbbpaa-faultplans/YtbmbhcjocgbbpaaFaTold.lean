/-
  Lists that were told, each with its mark.
-/
import Derived.Test.YtbmbhcjocgbbpaaFaSpoil
import Derived.Test.YtbmbhcjocgbbpaaFaPlanB
import Derived.Deep.AppendLies
namespace Go.Proofs.Ytbmbhcjocgbbpaa.Fa
open Go.ChangeShapes Go.WideShapes Go.ChangeAt Go.RowKit
open Go.Proofs.Ytbmbhcjocgbbpaa.Base
set_option linter.unusedVariables false
theorem elemF : Try.prog.underlying 32 = some (.slice (Try.prog.elem 32)) := by kernel_rfl
theorem elemFS (W : World) : (sizeOf (Try.prog.elem 32)).run Try.prog W = .ok 8 W := by
  have h : (Try.prog.info? (Try.prog.elem 32)).map (·.size) = some 8 := by kernel_rfl
  cases hq : Try.prog.info? (Try.prog.elem 32) with
  | none => simp [hq] at h
  | some i => simp [hq] at h; simp [sizeOf, typeInfo, hq, h]
/-- What lies behind a list's end. -/
theorem cutF (a : Option Addr) (n c : Nat) (hle : n ≤ c) (hnil : a = none → n = 0 ∧ c = 0) : ∃ ao, (∀ W, (Instr.sliceAt 32 (.slice a n c) (some (.int .i64 (n : Int))) none none).run Try.prog W = .ok (.slice ao 0 (c - n)) W) ∧ ∀ g, a = some ⟨g, 0, none⟩ → n < c → ao = some ⟨g, n * 8, none⟩ := by
  cases a with
  | none =>
    obtain ⟨rfl, rfl⟩ := hnil rfl
    refine ⟨none, fun W => ?_, fun g e => by cases e⟩
    rw [run_sliceAt_slice (h := elemF), run_slice_l (ht := elemF) (h0 := by omega) (h1 := by omega), elemFS]
    simp [Result.andThen, sliced]
  | some ad =>
    refine ⟨if c = n then some ad else some (ad.add (n * 8)), fun W => ?_, fun g e hlt => ?_⟩
    · rw [run_sliceAt_slice (h := elemF), run_slice_l (ht := elemF) (h0 := by omega) (h1 := by omega), elemFS]
      simp only [Result.andThen, sliced, Int.toNat_natCast]
      by_cases hc : c = n
      · subst hc; simp
      · rw [if_neg hc, if_neg hc, Nat.sub_self]
        rfl
    · cases e
      rw [if_neg (by omega)]
      simp [Addr.add]
      intro h
      omega
/-- A list that was told, and its mark. -/
structure Td where
  a : Option Addr
  n : Nat
  c : Nat
  m : Int
def Td.v (d : Td) : Value := .slice d.a d.n d.c
def td0 : Td := ⟨none, 0, 0, 0⟩
def tvals (ds : List Td) : List Value := ds.flatMap fun d => [d.v, .int .i64 d.m]
theorem tvals_cons (d : Td) (ds : List Td) : tvals (d :: ds) = [d.v, .int .i64 d.m] ++ tvals ds := by unfold tvals; rw [List.flatMap_cons]
theorem tvals_append (a b : List Td) : tvals (a ++ b) = tvals a ++ tvals b := by unfold tvals; rw [List.flatMap_append]
theorem length_tvals (ds : List Td) : (tvals ds).length = ds.length * 2 := by
  induction ds with
  | nil => rfl
  | cons d ds ih => rw [tvals_cons, List.length_append, ih, List.length_cons]; simp; omega
theorem tvals_one (ds : List Td) : ∀ v ∈ tvals ds, v.oneCell' = true := by
  intro v hv
  unfold tvals at hv
  rw [List.mem_flatMap] at hv
  obtain ⟨d, _, h⟩ := hv
  simp only [List.mem_cons, List.mem_nil_iff, or_false] at h
  rcases h with rfl | rfl <;> rfl
theorem tvals_get : ∀ (ds : List Td) (j : Nat), j < ds.length → (tvals ds)[j * 2]? = some (ds.getD j td0).v ∧ (tvals ds)[j * 2 + 1]? = some (.int .i64 (ds.getD j td0).m)
  | [], j, h => by simp at h
  | d :: ds, 0, _ => by rw [tvals_cons]; exact ⟨rfl, rfl⟩
  | d :: ds, j + 1, h => by
    have ih := tvals_get ds j (by simpa using h)
    have e : ∀ c, (tvals (d :: ds))[(j + 1) * 2 + c]? = (tvals ds)[j * 2 + c]? := fun c => by
      rw [tvals_cons, List.getElem?_append_right (by simp; omega)]
      congr 1
      simp; omega
    have e0 := e 0
    rw [Nat.add_zero, Nat.add_zero] at e0
    rw [e0, e 1]
    simpa using ih
/-- The slice leads to a row of lists that were told. -/
def OwnT (w : World) (base : Nat) (v : Value) (ds : List Td) : Prop := w.ownsRow base 58 2 v ds.length (tvals ds)
theorem infoT : (Try.prog.info? 58).map (fun i => (i.zero, i.size, i.bytes)) = some (some (.agg #[.slice none 0 0, .int .i64 0]), 2, 32) := by kernel_rfl
theorem ownt_none (w : World) (base : Nat) : OwnT w base (.slice none 0 0) [] := ⟨rfl, .inl ⟨rfl, rfl⟩⟩
theorem OwnT.blk {w : World} {base : Nat} {v : Value} {ds : List Td} (h : OwnT w base v ds) : ∀ i, v.ownBlock = some i → base ≤ i ∧ i < w.heap.size := fun i e => World.ownsRow.lt h i e
theorem OwnT.kept {w w' : World} {base : Nat} {v : Value} {ds : List Td} {q : Option Nat} (h : OwnT w base v ds) (hg : w.grownBy w' q) (hne : ∀ i, v.ownBlock = some i → q ≠ some i) : OwnT w' base v ds := by
  refine World.ownsRow.kept (row := q) h hg ?_
  cases hv : v.ownBlock with
  | none => exact .inl rfl
  | some i => exact .inr (fun e => hne i hv e.symm)
theorem OwnT.below {w w' : World} {base : Nat} {v : Value} {ds : List Td} (h : OwnT w base v ds) (hb : Below w.heap.size w w') : OwnT w' base v ds := h.kept (below_grown hb) (fun i _ e => by cases e)
theorem OwnT.shape {w : World} {base : Nat} {v : Value} {ds : List Td} (h : OwnT w base v ds) : ∃ a c, v = .slice a ds.length c ∧ ds.length ≤ c := by
  rcases h.2 with ⟨h1, h2⟩ | ⟨g, cap, cur, h1, _, _, h2, _⟩
  · exact ⟨none, 0, by rw [h1, h2], by omega⟩
  · exact ⟨_, _, h1, h2⟩
theorem OwnT.cells {w : World} {base n c : Nat} {a : Option Addr} {ds : List Td} (h : OwnT w base (.slice a n c) ds) (j : Nat) (hj : j < ds.length) : n = ds.length ∧ ∃ g, a = some ⟨g, 0, none⟩ ∧ w.cell? ⟨g, j * 2, none⟩ = some (ds.getD j td0).v ∧ w.cell? ⟨g, j * 2 + 1, none⟩ = some (.int .i64 (ds.getD j td0).m) := by
  rcases h.2 with ⟨h1, h2⟩ | ⟨g, cap, cur, h1, h2, h3, h4, h5, h6, h7⟩
  · omega
  · simp only [Value.slice.injEq] at h1
    obtain ⟨rfl, rfl, rfl⟩ := h1
    obtain ⟨t0, t1⟩ := tvals_get ds j hj
    rw [← h7] at t0 t1
    rw [List.getElem?_take_of_lt (by omega), Array.getElem?_toList] at t0 t1
    exact ⟨rfl, g, rfl, by rw [cell_of_row _ _ _ _ _ _ h3]; exact t0, by rw [cell_of_row _ _ _ _ _ _ h3]; exact t1⟩
/-- append of one. -/
theorem pushTd {ops : Array Oper} {rest : List Oper} {o : Oper} {a : Act} {Q : Exit → Act → World → Prop} (w : World) (hgd : o.guard = none) (s x : Operand)
    (ho : o.op = .call { callee := .builtin .append, args := #[s, x], argTypes := #[55, 55] })
    (base : Nat) (v : Value) (ds : List Td) (hs : a.eval s = v) (hown : OwnT w base v ds) (g0 : Nat) (d : Td) (hx : a.eval x = .slice (some ⟨g0, 0, none⟩) 1 1)
    (h0 : w.cell? ⟨g0, 0, none⟩ = some d.v) (h1 : w.cell? ⟨g0, 1, none⟩ = some (.int .i64 d.m)) (hl : (ds.length + 1) * 32 ≤ 140737488355328) (hbase : base ≤ w.heap.size)
    (h : ∀ g cap w', OwnT w' base (.slice (some ⟨g, 0, none⟩) (ds.length + 1) cap) (ds ++ [d]) → w.grownBy w' v.ownBlock → (v.ownBlock = some g ∨ g = w.heap.size) → wpList Try.prog ops Q rest (a.put o.dst (.slice (some ⟨g, 0, none⟩) (ds.length + 1) cap)) w') : wpList Try.prog ops Q (o :: rest) a w := by
  obtain ⟨i0, hi, hz0, hz1, hz2⟩ := info_parts infoT
  refine wpList_append_lies w hgd s x 55 ho base 58 i0 _ 2 32 Try.underlying55 hi hz0 hz1 hz2 rfl (by omega) v ds.length (tvals ds) hs hown ⟨g0, 0, none⟩ 1 1 (tvals [d]) hx rfl (fun j u hu => ?_) (tvals_one _) (by omega) (by unfold maxLen; omega) hl hbase w.heap.size rfl ?_
  · match j, hu with
    | 0, hu => cases hu; exact h0
    | 1, hu => cases hu; exact h1
    | j + 2, hu => cases hu
  · intro g cap w' k1 k2 k3 _
    exact h g cap w' (by unfold OwnT; rw [List.length_append, tvals_append]; exact k1) k2 k3
/-- Nothing of what was there has turned, but blocks that are named. -/
structure Mny (w w' : World) (S : Nat → Prop) : Prop where
  os : w'.os = w.os
  tape : w'.tape = w.tape
  output : w'.output = w.output
  size : w.heap.size ≤ w'.heap.size
  block : ∀ i, i < w.heap.size → ¬ S i → w'.heap[i]? = w.heap[i]?
theorem Mny.refl (w : World) (S : Nat → Prop) : Mny w w S := ⟨rfl, rfl, rfl, Nat.le_refl _, fun _ _ _ => rfl⟩
theorem Mny.grown {w w' w'' : World} {S : Nat → Prop} {q : Option Nat} (h : Mny w w' S) (hg : w'.grownBy w'' q) (hq : ∀ i, q = some i → S i) : Mny w w'' S :=
  ⟨hg.os.trans h.os, hg.tape.trans h.tape, hg.output.trans h.output, Nat.le_trans h.size hg.size, fun i hi hn => (hg.block i (Nat.lt_of_lt_of_le hi h.size) (fun e => hn (hq i e.symm))).trans (h.block i hi hn)⟩
theorem Mny.below {w0 w w' : World} {S : Nat → Prop} (hb : Below w0.heap.size w0 w) (h : Mny w w' S) (hS : ∀ i, S i → w0.heap.size ≤ i) : Below w0.heap.size w0 w' :=
  ⟨h.os.trans hb.os, h.tape.trans hb.tape, h.output.trans hb.output, Nat.le_trans hb.size h.size, fun i hi => (h.block i (Nat.lt_of_lt_of_le hi hb.size) (fun hs => by have := hS i hs; omega)).trans (hb.block i hi)⟩
end Go.Proofs.Ytbmbhcjocgbbpaa.Fa
