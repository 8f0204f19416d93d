/-
  More of what the walks share: append, by where the bytes come to lie.
-/
import Derived.Test.YtgpfabblmoffiaaDoorBase
import Derived.ArgAppend
namespace Go.Proofs.YtgpfabblmoffiaaDoor.Base
set_option linter.unusedVariables false
open Go.ChangeShapes Go.WideShapes Go.ChangeAt Go.RowKit
theorem grown_any {w w' : World} (h : w.grownBy w' none) (r : Option Nat) : w.grownBy w' r := ⟨h.os, h.tape, h.output, h.size, fun i hi _ => h.block i hi (by simp)⟩
/-- Nothing of what was there has turned, but the blocks p and q. -/
structure Kept2 (w w' : World) (p q : Option Nat) : Prop where
  os : w'.os = w.os
  tape : w'.tape = w.tape
  output : w'.output = w.output
  size : w.heap.size ≤ w'.heap.size
  block : ∀ i, i < w.heap.size → some i ≠ p → some i ≠ q → w'.heap[i]? = w.heap[i]?
theorem Kept2.refl (w : World) (p q : Option Nat) : Kept2 w w p q := ⟨rfl, rfl, rfl, Nat.le_refl _, fun _ _ _ _ => rfl⟩
theorem Kept2.grown {w w' w'' : World} {p q r : Option Nat} (h : Kept2 w w' p q) (g : w'.grownBy w'' r) (hr : ∀ i, r = some i → r = p ∨ r = q ∨ w.heap.size ≤ i) : Kept2 w w'' p q :=
  ⟨g.os.trans h.os, g.tape.trans h.tape, g.output.trans h.output, Nat.le_trans h.size g.size, fun i hi hp hq => (g.block i (Nat.lt_of_lt_of_le hi h.size) (fun e => by
    rcases hr i e.symm with e2 | e2 | e2
    · exact hp (e.trans e2)
    · exact hq (e.trans e2)
    · omega)).trans (h.block i hi hp hq)⟩
theorem Kept2.below {w0 w w' : World} {p q : Option Nat} (hb : Below w0.heap.size w0 w) (h : Kept2 w w' p q) (hp : ∀ i, p = some i → w0.heap.size ≤ i) (hq : ∀ i, q = some i → w0.heap.size ≤ i) : Below w0.heap.size w0 w' :=
  ⟨h.os.trans hb.os, h.tape.trans hb.tape, h.output.trans hb.output, Nat.le_trans hb.size h.size, fun i hi => (h.block i (Nat.lt_of_lt_of_le hi hb.size) (fun e => by have := hp i e.symm; omega) (fun e => by have := hq i e.symm; omega)).trans (hb.block i hi)⟩
theorem Own.kept2 {w w' : World} {base : Nat} {v : Value} {bs : List (BitVec 8)} {p q : Option Nat} (h : Own w base v bs) (k : Kept2 w w' p q) (hp : ∀ i, v.ownBlock = some i → p ≠ some i) (hq : ∀ i, v.ownBlock = some i → q ≠ some i) : Own w' base v bs := by
  have hlt := blk h
  obtain ⟨h1, h2⟩ := h
  refine ⟨h1, ?_⟩
  rcases h2 with h2 | ⟨g, cap, cur, e1, e2, e3, e4⟩
  · exact .inl h2
  · have hb : v.ownBlock = some g := by rw [e1]; rfl
    exact .inr ⟨g, cap, cur, e1, e2, by rw [k.block g (hlt g hb).2 (fun e => hp g hb e.symm) (fun e => hq g hb e.symm)]; exact e3, e4⟩
theorem Rd.grown {w w' : World} {a : Option Addr} {len : Nat} {bs : List (BitVec 8)} {r : Option Nat} (h : Rd w a len bs) (g : w.grownBy w' r) (hr : ∀ ad, a = some ad → r ≠ some ad.block) : Rd w' a len bs := by
  obtain ⟨h1, h2, h3⟩ := h
  refine ⟨h1, h2, fun hp => ?_⟩
  obtain ⟨b, off, rfl, hlt, hc⟩ := h3 hp
  refine ⟨b, off, rfl, Nat.lt_of_lt_of_le hlt g.size, fun i hi => ?_⟩
  exact g.cell (hc i hi) (fun e => hr _ rfl e.symm)
/-- What 'O' was has been added to: v reads as O and X, the slice a, la still as O. -/
def Grown (base n0 : Nat) (a : Option Addr) (la ca : Nat) (O X : List (BitVec 8)) (w : World) (v : Value) : Prop :=
  Own w base v (O ++ X) ∧ Rd w a la O ∧ (v.ownBlock = (Value.slice a la ca).ownBlock ∨ ∀ i, v.ownBlock = some i → n0 ≤ i) ∧ (∀ ad, a = some ad → ad.off = 0 ∧ ad.spot = none)
theorem Grown.keep {base n0 la ca : Nat} {a : Option Addr} {O X : List (BitVec 8)} {w w' : World} {v : Value} {r : Option Nat} (h : Grown base n0 a la ca O X w v) (g : w.grownBy w' r)
    (h1 : ∀ i, r = some i → v.ownBlock ≠ some i) (h2 : ∀ i, r = some i → (Value.slice a la ca).ownBlock ≠ some i) : Grown base n0 a la ca O X w' v := by
  obtain ⟨p1, p2, p3, p4⟩ := h
  refine ⟨Base.keep p1 g (fun i j e1 e2 e => h1 j e2 (by rw [e1, e])), p2.grown g (fun ad e e2 => h2 ad.block e2 (by rw [e]; rfl)), p3, p4⟩
theorem Grown.push {base n0 la ca g' c' n : Nat} {a : Option Addr} {O X : List (BitVec 8)} {w w' : World} {v : Value} {c : BitVec 8} (h : Grown base n0 a la ca O X w v) (hn : n0 ≤ w.heap.size) (hl : la = O.length) (hll : la ≤ 140737488355328) (hnn : n = (O ++ (X ++ [c])).length)
    (ho : Own w' base (.slice (some ⟨g', 0, none⟩) n c') (O ++ (X ++ [c])))
    (hw : v.ownBlock = some g' ∧ w.grownBy w' (some g') ∨ w.heap.size ≤ g' ∧ w.grownBy w' none) : Grown base n0 a la ca O (X ++ [c]) w' (.slice (some ⟨g', 0, none⟩) n c') := by
  obtain ⟨p1, p2, p3, p4⟩ := h
  refine ⟨ho, ?_, ?_, p4⟩
  · rcases hw with ⟨e, g⟩ | ⟨e, g⟩
    · by_cases hv : ∃ ad, a = some ad ∧ ad.block = g'
      · obtain ⟨ad, rfl, hb⟩ := hv
        obtain ⟨q1, q2⟩ := p4 ad rfl
        obtain ⟨b, off, sp⟩ := ad
        simp only at hb q1 q2
        subst hb q1 q2
        have hle : la ≤ n := by rw [hnn, List.length_append]; omega
        have h := ho.cut la hle
        rw [hl, List.take_left] at h
        rw [← hl] at h
        exact Got.rd h (by omega)
      · exact p2.grown g (fun ad e1 e2 => hv ⟨ad, e1, (Option.some.inj e2).symm⟩)
    · exact p2.grown g (fun ad e1 e2 => by cases e2)
  · rcases hw with ⟨e, g⟩ | ⟨e, g⟩
    · rcases p3 with p3 | p3
      · left; rw [← p3, e]; rfl
      · right; intro i hi; exact p3 i (by rw [e]; exact hi)
    · right; intro i hi; cases hi; show n0 ≤ g'; omega
/-- What 'append' does to the memory: v's block is g, and it alone has turned; or g is new. -/
def Put1 (W w' : World) (v : Value) (g : Nat) : Prop := v.ownBlock = some g ∧ W.grownBy w' (some g) ∨ W.heap.size ≤ g ∧ W.grownBy w' none
theorem Grown.beside {base n0 lb cb g : Nat} {b : Option Addr} {O X : List (BitVec 8)} {W w' : World} {vx vy : Value} (h : Grown base n0 b lb cb O X W vy) (hx : Put1 W w' vx g)
    (hxy : ∀ i, vx.ownBlock = some i → vy.ownBlock ≠ some i) (hxb : ∀ i, vx.ownBlock = some i → (Value.slice b lb cb).ownBlock ≠ some i) : Grown base n0 b lb cb O X w' vy := by
  rcases hx with ⟨e, k⟩ | ⟨e, k⟩
  · exact h.keep k (fun i e2 => by cases e2; exact hxy g e) (fun i e2 => by cases e2; exact hxb g e)
  · exact h.keep k (fun i e2 => by cases e2) (fun i e2 => by cases e2)
theorem Kept2.beside {w W w' : World} {p q : Option Nat} {vx : Value} {g : Nat} (h : Kept2 w W p q) (hx : Put1 W w' vx g) (hp : ∀ i, vx.ownBlock = some i → vx.ownBlock = p ∨ vx.ownBlock = q ∨ w.heap.size ≤ i) : Kept2 w w' p q := by
  rcases hx with ⟨e, k⟩ | ⟨e, k⟩
  · exact h.grown k (fun i e2 => by cases e2; have := hp g e; rw [e] at this; exact this)
  · exact h.grown k (fun i e2 => by cases e2)
theorem Put1.size {W w' : World} {v : Value} {g : Nat} (h : Put1 W w' v g) : W.heap.size ≤ w'.heap.size := by
  rcases h with ⟨_, k⟩ | ⟨_, k⟩ <;> exact k.size
theorem Put1.apart {W w' : World} {vx vy : Value} {g n c : Nat} (h : Put1 W w' vx g) (hxy : ∀ i, vx.ownBlock = some i → vy.ownBlock ≠ some i) (hy : ∀ i, vy.ownBlock = some i → i < W.heap.size) :
    ∀ i, (Value.slice (some ⟨g, 0, none⟩) n c).ownBlock = some i → vy.ownBlock ≠ some i := by
  intro i e
  have e' : g = i := Option.some.inj e
  subst e'
  rcases h with ⟨e1, _⟩ | ⟨e1, _⟩
  · exact hxy g e1
  · intro e2; have := hy g e2; omega
theorem Grown.apart {base n0 la ca : Nat} {a : Option Addr} {O X : List (BitVec 8)} {w : World} {v vb : Value} (h : Grown base n0 a la ca O X w v) (hne : ∀ i, (Value.slice a la ca).ownBlock = some i → vb.ownBlock ≠ some i) (hb : ∀ i, vb.ownBlock = some i → i < n0) :
    ∀ i, v.ownBlock = some i → vb.ownBlock ≠ some i := by
  intro i e
  rcases h.2.2.1 with p | p
  · exact hne i (by rw [← p]; exact e)
  · intro e2; have := p i e; have := hb i e2; omega
theorem Grown.where {base n0 la ca : Nat} {a : Option Addr} {O X : List (BitVec 8)} {w w0 : World} {v : Value} (h : Grown base n0 a la ca O X w v) (hn : w0.heap.size ≤ n0) : ∀ i, v.ownBlock = some i → v.ownBlock = (Value.slice a la ca).ownBlock ∨ w0.heap.size ≤ i := by
  intro i e
  rcases h.2.2.1 with p | p
  · exact .inl p
  · exact .inr (by have := p i e; omega)
theorem Grown.lt {base n0 la ca : Nat} {a : Option Addr} {O X : List (BitVec 8)} {w : World} {v : Value} (h : Grown base n0 a la ca O X w v) : ∀ i, v.ownBlock = some i → i < w.heap.size := fun i e => (blk h.1 i e).2
theorem ne_symm {vx vy : Value} (h : ∀ i, vx.ownBlock = some i → vy.ownBlock ≠ some i) : ∀ i, vy.ownBlock = some i → vx.ownBlock ≠ some i := fun i e e2 => h i e2 e
end Go.Proofs.YtgpfabblmoffiaaDoor.Base
