/-
  A slice of the call's own that is written over and added to: of what was there nothing has turned but its own block.
-/
import Derived.Test.YtbmbhcjocgbbpabBase2
namespace Go.Proofs.Ytbmbhcjocgbbpab.Base
open Go.ChangeShapes Go.WideShapes Go.ChangeAt Go.RowKit
set_option linter.unusedVariables false
/-- What was v1 at w0 is v now, n bytes; nothing of w0 has turned but v1's block. -/
def Over (w0 w : World) (base : Nat) (v1 v : Value) (n : Nat) : Prop :=
  (∃ L : List (BitVec 8), L.length = n ∧ Own w base v L) ∧ (v.ownBlock = v1.ownBlock ∨ ∀ i, v.ownBlock = some i → w0.heap.size ≤ i) ∧ w0.grownBy w v1.ownBlock
theorem Over.start {w : World} {base : Nat} {v : Value} {bs : List (BitVec 8)} (h : Own w base v bs) : Over w w base v v bs.length :=
  ⟨⟨bs, rfl, h⟩, .inl rfl, World.grownBy.refl _ _⟩
theorem Over.alloc {w0 w : World} {base n : Nat} {v1 v : Value} (h : Over w0 w base v1 v n) (o : Obj) : Over w0 (w.alloc o) base v1 v n := by
  obtain ⟨⟨L, hl, ho⟩, h2, h3⟩ := h
  exact ⟨⟨L, hl, ho.below ((Below.refl _ _).alloc (Nat.le_refl _) _)⟩, h2, grown_alloc h3 _⟩
theorem Over.some' {w0 w : World} {base n c : Nat} {v1 : Value} {a : Option Addr} (h : Over w0 w base v1 (.slice a n c) n) (hn : 0 < n) : ∃ g, a = some ⟨g, 0, none⟩ := by
  obtain ⟨⟨L, hl, ho⟩, _⟩ := h
  rcases ho.2 with ⟨e, _⟩ | ⟨g, c', cur, e, _⟩
  · simp only [Value.slice.injEq] at e; omega
  · simp only [Value.slice.injEq] at e; exact ⟨g, e.1⟩
theorem Over.cell {w0 w : World} {base g n c : Nat} {v1 : Value} (h : Over w0 w base v1 (.slice (some ⟨g, 0, none⟩) n c) n) (k : Nat) (hk : k < n) :
    (∃ d : BitVec 8, w.cell? ⟨g, k, none⟩ = some (.int .u8 (d.toNat : Int))) ∧ w.frozen? ⟨g, k, none⟩ = false := by
  obtain ⟨⟨L, hl, ho⟩, _⟩ := h
  exact ⟨⟨_, ho.cell k hk⟩, ho.frozen k⟩
theorem Over.store {w0 w : World} {base g n c : Nat} (h : Over w0 w base (.slice (some ⟨g, 0, none⟩) n c) (.slice (some ⟨g, 0, none⟩) n c) n) (k : Nat) (d : BitVec 8) :
    Over w0 (w.setCell ⟨g, k, none⟩ (.int .u8 (d.toNat : Int))) base (.slice (some ⟨g, 0, none⟩) n c) (.slice (some ⟨g, 0, none⟩) n c) n := by
  obtain ⟨⟨L, hl, ho⟩, h2, h3⟩ := h
  obtain ⟨h4, h5⟩ := ho.store k d
  exact ⟨⟨L.set k d, by rw [List.length_set]; exact hl, h4⟩, .inl rfl, grown_trans h3 h5⟩
theorem Over.keep {w0 w : World} {base b2 n : Nat} {v1 v u : Value} {bs : List (BitVec 8)} (h : Over w0 w base v1 v n) (hu : Own w0 b2 u bs) (hne : ∀ i, u.ownBlock = some i → v1.ownBlock ≠ some i) : Own w b2 u bs :=
  Base.keep hu h.2.2 (fun i j e1 e2 e => hne i e1 (by rw [e2, e]))
theorem Over.below {w w0 w1 : World} {base n : Nat} {v1 v : Value} (h : Over w0 w1 base v1 v n) (hb : Below w.heap.size w w0) (h1 : ∀ i, v1.ownBlock = some i → w.heap.size ≤ i) : Below w.heap.size w w1 :=
  hb.grown h.2.2 hb.size h1
/-- append of one byte onto such a slice. -/
theorem pushOver {ops : Array Oper} {rest : List Oper} {o : Oper} {a : Act} {Q : Exit → Act → World → Prop} (w0 w : World) (hgd : o.guard = none) (s x : Operand)
    (ho : o.op = .call { callee := .builtin .append, args := #[s, x], argTypes := #[23, 23] })
    (base : Nat) (v1 v : Value) (n : Nat) (hs : a.eval s = v) (H : Over w0 w base v1 v n) (ad : Addr) (cap : Nat) (c : BitVec 8) (hx : a.eval x = .slice (some ad) 1 cap)
    (hc : w.cell? (ad.add 0) = some (.int .u8 (c.toNat : Int))) (hl : n + 1 ≤ 140737488355328) (hbase : base ≤ w.heap.size)
    (h : ∀ g' c' w', Over w0 w' base v1 (.slice (some ⟨g', 0, none⟩) (n + 1) c') (n + 1) → wpList Try.prog ops Q rest (a.put o.dst (.slice (some ⟨g', 0, none⟩) (n + 1) c')) w') : wpList Try.prog ops Q (o :: rest) a w := by
  obtain ⟨⟨L, hL, hown⟩, h2, h3⟩ := H
  refine push2 w hgd s x ho base v L hs hown ad cap c hx hc (by omega) hbase ?_
  intro g' c' w' ho' hcase
  rw [hL] at ho' ⊢
  refine h g' c' w' ⟨⟨L ++ [c], by simp [hL], ho'⟩, ?_, ?_⟩
  · rcases hcase with ⟨e, k⟩ | ⟨e, k⟩
    · rcases h2 with h2 | h2
      · left; rw [← h2, e]; rfl
      · right; intro i hi; exact h2 i (by rw [e]; exact hi)
    · right; intro i hi; cases hi; exact Nat.le_trans h3.size e
  · rcases hcase with ⟨e, k⟩ | ⟨e, k⟩
    · rcases h2 with h2 | h2
      · rw [← h2, e] at h3 ⊢; exact grown_trans h3 k
      · exact grown_new h3 k (fun i hi => by cases hi; exact h2 _ e)
    · exact grown_new h3 k (fun i hi => by cases hi)
end Go.Proofs.Ytbmbhcjocgbbpab.Base
