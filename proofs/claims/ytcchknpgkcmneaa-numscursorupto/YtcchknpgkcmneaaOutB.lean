/-
  What was born between two sizes of memory, and what turns there alone.
-/
import Derived.Test.YtcchknpgkcmneaaBase2
namespace Go.Proofs.Ytcchknpgkcmneaa.Base
open Go.ChangeShapes Go.WideShapes Go.ChangeAt Go.RowKit
set_option linter.unusedVariables false
/-- Of what was there nothing has turned but blocks from lo on, below hi. -/
structure Out (lo hi : Nat) (w w' : World) : Prop where
  os : w'.os = w.os
  tape : w'.tape = w.tape
  output : w'.output = w.output
  size : w.heap.size ≤ w'.heap.size
  block : ∀ i, i < w.heap.size → (i < lo ∨ hi ≤ i) → w'.heap[i]? = w.heap[i]?
theorem Out.refl (lo hi : Nat) (w : World) : Out lo hi w w := ⟨rfl, rfl, rfl, Nat.le_refl _, fun _ _ _ => rfl⟩
theorem Out.trans {lo hi : Nat} {w w1 w2 : World} (h : Out lo hi w w1) (k : Out lo hi w1 w2) : Out lo hi w w2 :=
  ⟨k.os.trans h.os, k.tape.trans h.tape, k.output.trans h.output, Nat.le_trans h.size k.size, fun i hi1 hb => (k.block i (Nat.lt_of_lt_of_le hi1 h.size) hb).trans (h.block i hi1 hb)⟩
theorem Out.of_below {lo hi : Nat} {w w' : World} (h : Below w.heap.size w w') : Out lo hi w w' := ⟨h.os, h.tape, h.output, h.size, fun i hi1 _ => h.block i hi1⟩
theorem Out.of_grown {lo hi : Nat} {w w' : World} {r : Option Nat} (h : w.grownBy w' r) (hr : ∀ i, r = some i → i < w.heap.size → lo ≤ i ∧ i < hi) : Out lo hi w w' :=
  ⟨h.os, h.tape, h.output, h.size, fun i hi1 hb => h.block i hi1 (fun e => by have := hr i e.symm hi1; omega)⟩
/-- behind w0: what grows by a block that is new since w0, or lies between lo and hi. -/
theorem Out.grow {lo hi : Nat} {w0 w w' : World} {r : Option Nat} (h : Out lo hi w0 w) (g : w.grownBy w' r) (hr : ∀ i, r = some i → i < w0.heap.size → lo ≤ i ∧ i < hi) : Out lo hi w0 w' :=
  ⟨g.os.trans h.os, g.tape.trans h.tape, g.output.trans h.output, Nat.le_trans h.size g.size, fun i hi1 hb => (g.block i (Nat.lt_of_lt_of_le hi1 h.size) (fun e => by have := hr i e.symm hi1; omega)).trans (h.block i hi1 hb)⟩
theorem Out.below {lo hi B : Nat} {w0 w w' : World} (hb : Below B w0 w) (h : Out lo hi w w') (h1 : B ≤ lo) (h2 : B ≤ w.heap.size) : Below B w0 w' :=
  ⟨h.os.trans hb.os, h.tape.trans hb.tape, h.output.trans hb.output, Nat.le_trans hb.size h.size, fun i hi1 => (h.block i (by omega) (.inl (by omega))).trans (hb.block i hi1)⟩
theorem row_out {lo hi base a n sz : Nat} {T : TypeId} {w w' : World} {v : Value} {xs : List Value} (ho : Out lo hi w w') (h : w.ownsRow base T sz v n xs) (ha : ∀ i, v.ownBlock = some i → i < a) (hd : a ≤ lo ∨ hi ≤ base) : w'.ownsRow base T sz v n xs := by
  have hlt := fun i e => World.ownsRow.lt h i e
  obtain ⟨h1, h2⟩ := h
  refine ⟨h1, ?_⟩
  rcases h2 with h2 | ⟨g, cap, cur, e1, e2, e3, e4⟩
  · exact .inl h2
  · have hb : v.ownBlock = some g := by rw [e1]; rfl
    exact .inr ⟨g, cap, cur, e1, e2, by rw [ho.block g (hlt g hb).2 (by have := ha g hb; omega)]; exact e3, e4⟩
theorem own_out {lo hi base a : Nat} {w w' : World} {v : Value} {bs : List (BitVec 8)} (ho : Out lo hi w w') (h : Own w base v bs) (ha : ∀ i, v.ownBlock = some i → i < a) (hd : a ≤ lo ∨ hi ≤ base) : Own w' base v bs := row_out ho h ha hd
/-- append of one byte onto a slice of its own that is full, or that is new since B: what lies below B stands. -/
theorem pushOut {ops : Array Oper} {rest : List Oper} {o : Oper} {a : Act} {Q : Exit → Act → World → Prop} (B : Nat) (w : World) (hgd : o.guard = none) (s x : Operand)
    (ho : o.op = .call { callee := .builtin .append, args := #[s, x], argTypes := #[22, 22] })
    (base : Nat) (ao : Option Addr) (n cp : Nat) (bs : List (BitVec 8)) (hs : a.eval s = .slice ao n cp) (hown : Own w base (.slice ao n cp) bs) (hfull : n = cp ∨ ∀ i, (Value.slice ao n cp).ownBlock = some i → B ≤ i) (ad : Addr) (cap : Nat) (c : BitVec 8) (hx : a.eval x = .slice (some ad) 1 cap)
    (hc : w.cell? (ad.add 0) = some (.int .u8 (c.toNat : Int))) (hl : n + 1 ≤ 140737488355328) (hbase : base ≤ w.heap.size) (hB : B ≤ w.heap.size)
    (h : ∀ g' c' w', Own w' base (.slice (some ⟨g', 0, none⟩) (n + 1) c') (bs ++ [c]) → B ≤ g' → Below B w w' → wpList Try.prog ops Q rest (a.put o.dst (.slice (some ⟨g', 0, none⟩) (n + 1) c')) w') : wpList Try.prog ops Q (o :: rest) a w := by
  have hn : n = bs.length := (Got.cap hown).2
  rcases hfull with hf | hf
  · obtain ⟨i0, hi, hz0, hz1, hz2⟩ := info_parts info8
    subst hf
    subst hn
    have hnews : ∀ (j : Nat) (u : Value), [Value.int .u8 (c.toNat : Int)][j]? = some u → w.cell? (ad.add j) = some u := by
      intro j u hu
      cases j with
      | zero => simp at hu; subst hu; exact hc
      | succ j => simp at hu
    refine wpList_append_grows w hgd s x 22 ho 5 i0 (.int .u8 0) 1 1 Try.underlying22 hi hz0 hz1 hz2 rfl (by omega) ao bs.length bs.length (vals bs) hs (fun e => Got.nil hown e) (by rw [length_vals]; omega) (fun b e j u hu => (Got.rd hown (by omega)).cellsAt b e j u hu) ad 1 cap [.int .u8 (c.toNat : Int)] hx rfl hnews (vals_one [c]) (by omega) (by unfold maxLen; omega) (by omega) ?_
    intro v' w' h1 h2
    have h3 : Own w' w.heap.size v' (bs ++ [c]) := own_append (b := [c]) h1 rfl
    obtain ⟨g, c', rfl⟩ := own_shape h1
    exact h g c' w' (h3.mono hbase) (Nat.le_trans hB (World.ownsRow.lt h1 g rfl).1) ⟨h2.os, h2.tape, h2.output, h2.size, fun k hk => h2.block k (by omega) (by simp)⟩
  · refine push2 w hgd s x ho base (.slice ao n cp) bs hs hown ad cap c hx hc (by omega) hbase ?_
    intro g' c' w' h1 h2
    rw [← hn] at h1 ⊢
    rcases h2 with ⟨e, k⟩ | ⟨e, k⟩
    · have := hf g' e
      exact h g' c' w' h1 this ⟨k.os, k.tape, k.output, k.size, fun i hi => k.block i (by omega) (fun e2 => by have := Option.some.inj e2; omega)⟩
    · exact h g' c' w' h1 (by omega) ⟨k.os, k.tape, k.output, k.size, fun i hi => k.block i (by omega) (by simp)⟩
theorem own_low {B base : Nat} {w w' : World} {v : Value} {bs : List (BitVec 8)} (hb : Below B w w') (h : Own w base v bs) (hv : ∀ i, v.ownBlock = some i → i < B) : Own w' base v bs := by
  obtain ⟨h1, h2⟩ := h
  refine ⟨h1, ?_⟩
  rcases h2 with h2 | ⟨g, cap, cur, e1, e2, e3, e4⟩
  · exact .inl h2
  · have hb2 : v.ownBlock = some g := by rw [e1]; rfl
    exact .inr ⟨g, cap, cur, e1, e2, by rw [hb.block g (hv g hb2)]; exact e3, e4⟩
end Go.Proofs.Ytcchknpgkcmneaa.Base
