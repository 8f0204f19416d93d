/-
  A slice of ints of the call's own that is written over and added to.
-/
import Derived.Test.YtmfljllbniimmaaIBase2
import Derived.Test.YtmfljllbniimmaaBase2
namespace Go.Proofs.Ytmfljllbniimmaa.Base
open Go.ChangeShapes Go.WideShapes Go.ChangeAt Go.RowKit
set_option linter.unusedVariables false
theorem OwnI.nil {w : World} {base n cap : Nat} {a : Option Addr} {cs : List Int} (h : OwnI w base (.slice a n cap) cs) (ha : a = none) : n = 0 ∧ cap = 0 := by
  subst ha
  rcases h.2 with ⟨e, _⟩ | ⟨g, c', cur, e, _⟩
  · simp only [Value.slice.injEq] at e; exact ⟨e.2.1, e.2.2⟩
  · simp only [Value.slice.injEq] at e; cases e.1
theorem OwnI.cellsAt {w : World} {base n cap : Nat} {a : Option Addr} {cs : List Int} (h : OwnI w base (.slice a n cap) cs) (hn : cs.length = n) (ad : Addr) (had : a = some ad) (j : Nat) (u : Value) (hu : (ivals cs)[j]? = some u) : w.cell? (ad.add j) = some u := by
  subst had
  rcases h.2 with ⟨e, _⟩ | ⟨g, c', cur, e, _⟩
  · simp only [Value.slice.injEq] at e; cases e.1
  · simp only [Value.slice.injEq, Option.some.injEq] at e
    obtain ⟨rfl, _, _⟩ := e
    exact World.ownsRow.cells h (g := g) rfl j u hu
theorem OwnI.mono {w : World} {base base' : Nat} {v : Value} {xs : List Int} (h : OwnI w base v xs) (hb : base' ≤ base) : OwnI w base' v xs := by
  obtain ⟨h1, h2⟩ := h
  refine ⟨h1, ?_⟩
  rcases h2 with h2 | ⟨g, cap, cur, e1, e2, e3⟩
  · exact .inl h2
  · exact .inr ⟨g, cap, cur, e1, Nat.le_trans hb e2, e3⟩
theorem ownI_app {w : World} {base : Nat} {v : Value} {xs : List Int} {c : Int} (h : w.ownsRow base 3 1 v (xs.length + 1) (ivals xs ++ [.int .i64 c])) : OwnI w base v (xs ++ [c]) := by
  unfold OwnI
  have e : ivals (xs ++ [c]) = ivals xs ++ [.int .i64 c] := by simp [ivals, VI]
  rw [List.length_append, e]
  exact h
theorem ownI_shape1 {w : World} {base n : Nat} {v : Value} {xs : List Value} (h : w.ownsRow base 3 1 v (n + 1) xs) : ∃ g c, v = .slice (some ⟨g, 0, none⟩) (n + 1) c := by
  rcases h.2 with ⟨_, h2⟩ | ⟨g, c, cur, h1, _⟩
  · omega
  · exact ⟨g, c, h1⟩
theorem OwnI.cell {w : World} {base g n cap : Nat} {bs : List Int} (h : OwnI w base (.slice (some ⟨g, 0, none⟩) n cap) bs) (k : Nat) (hk : k < n) : ∃ d : Int, w.cell? ⟨g, k, none⟩ = some (.int .i64 d) := by
  have hn : bs.length = n := by
    rcases h.2 with ⟨e, _⟩ | ⟨g, c', cur, e, _⟩
    · simp only [Value.slice.injEq] at e; cases e.1
    · simp only [Value.slice.injEq] at e; exact e.2.1.symm
  subst hn
  exact ⟨bs.getD k 0, by rw [World.ownsRow.cellAt h k (by omega), getD_ivals bs k hk]⟩
theorem OwnI.frozen {w : World} {base g n cap : Nat} {bs : List Int} (h : OwnI w base (.slice (some ⟨g, 0, none⟩) n cap) bs) (k : Nat) : w.frozen? ⟨g, k, none⟩ = false := by
  have hn : bs.length = n := by
    rcases h.2 with ⟨e, _⟩ | ⟨g, c', cur, e, _⟩
    · simp only [Value.slice.injEq] at e; cases e.1
    · simp only [Value.slice.injEq] at e; exact e.2.1.symm
  subst hn
  exact World.ownsRow.frozenAt h k
theorem OwnI.store {w : World} {base g n cap : Nat} {bs : List Int} (h : OwnI w base (.slice (some ⟨g, 0, none⟩) n cap) bs) (k : Nat) (d : Int) :
    OwnI (w.setCell ⟨g, k, none⟩ (.int .i64 d)) base (.slice (some ⟨g, 0, none⟩) n cap) (bs.set k d) ∧ w.grownBy (w.setCell ⟨g, k, none⟩ (.int .i64 d)) (some g) := by
  have hn : bs.length = n := by
    rcases h.2 with ⟨e, _⟩ | ⟨g, c', cur, e, _⟩
    · simp only [Value.slice.injEq] at e; cases e.1
    · simp only [Value.slice.injEq] at e; exact e.2.1.symm
  subst hn
  have := World.ownsRow.stored h k (.int .i64 d)
  refine ⟨?_, grown_cell (World.grownBy.refl _ _) k _⟩
  unfold OwnI
  rw [List.length_set]
  have e : ivals (bs.set k d) = (ivals bs).set k (.int .i64 d) := by simp [ivals, VI, List.map_set]
  rw [e]
  exact this.1
/-- append of one byte: it is laid behind the others in their block, or all are laid into a new one. -/
theorem pushI2 {ops : Array Oper} {rest : List Oper} {o : Oper} {a : Act} {Q : Exit → Act → World → Prop} (w : World) (hgd : o.guard = none) (s x : Operand)
    (ho : o.op = .call { callee := .builtin .append, args := #[s, x], argTypes := #[24, 24] })
    (base : Nat) (v : Value) (bs : List Int) (hs : a.eval s = v) (hown : OwnI w base v bs) (ad : Addr) (cap : Nat) (c : Int) (hx : a.eval x = .slice (some ad) 1 cap)
    (hc : w.cell? (ad.add 0) = some (.int .i64 c)) (hl : bs.length + 1 ≤ 17592186044416) (hbase : base ≤ w.heap.size)
    (h : ∀ g' c' w', OwnI w' base (.slice (some ⟨g', 0, none⟩) (bs.length + 1) c') (bs ++ [c]) → (v.ownBlock = some g' ∧ w.grownBy w' (some g') ∨ w.heap.size ≤ g' ∧ w.grownBy w' none) → wpList Try.prog ops Q rest (a.put o.dst (.slice (some ⟨g', 0, none⟩) (bs.length + 1) c')) w') : wpList Try.prog ops Q (o :: rest) a w := by
  obtain ⟨i0, hi, hz0, hz1, hz2⟩ := info_parts (infoI (.inl rfl))
  have hnews : ∀ (j : Nat) (u : Value), [Value.int .i64 c][j]? = some u → w.cell? (ad.add j) = some u := by
    intro j u hu
    cases j with
    | zero => simp at hu; subst hu; exact hc
    | succ j => simp at hu
  have hgrow : ∀ (ao : Option Addr) (cp : Nat), v = .slice ao bs.length cp → cp < bs.length + 1 → wpList Try.prog ops Q (o :: rest) a w := by
    intro ao cp hv hcp
    subst hv
    refine wpList_append_grows w hgd s x 24 ho 3 i0 (.int .i64 0) 1 8 Try.underlying24 hi hz0 hz1 hz2 rfl (by omega) ao bs.length cp (ivals bs) hs (fun e => OwnI.nil hown e) (by rw [length_ivals]; omega) (fun b e j u hu => OwnI.cellsAt hown rfl b e j u hu) ad 1 cap [.int .i64 c] hx rfl hnews (ivals_all [c]) (by omega) (by unfold maxLen; omega) (by omega) ?_
    intro v' w' h1 h2
    have h3 : OwnI w' w.heap.size v' (bs ++ [c]) := ownI_app h1
    obtain ⟨g, c', rfl⟩ := ownI_shape1 h1
    exact h g c' w' (OwnI.mono h3 hbase) (.inr ⟨(World.ownsRow.lt h1 g rfl).1, h2⟩)
  rcases hown.2 with ⟨hv, hn⟩ | ⟨g, cp, cur, hv, _⟩
  · rw [← hn] at hv
    exact hgrow none bs.length hv (by omega)
  · by_cases hcp : bs.length + 1 ≤ cp
    · subst hv
      refine wpList_append_fits w hgd s x 24 ho base 3 i0 1 Try.underlying24 hi hz1 g bs.length cp (ivals bs) hs hown ad 1 cap [.int .i64 c] hx rfl hnews (ivals_all [c]) hcp ?_
      intro w' h1 h2
      exact h g cp w' (ownI_app h1) (.inl ⟨rfl, h2⟩)
    · exact hgrow (some ⟨g, 0, none⟩) cp hv (by omega)
/-- What was v1 at w0 is v now, n bytes; nothing of w0 has turned but v1's block. -/
def OverI (w0 w : World) (base : Nat) (v1 v : Value) (n : Nat) : Prop :=
  (∃ L : List Int, L.length = n ∧ OwnI w base v L) ∧ (v.ownBlock = v1.ownBlock ∨ ∀ i, v.ownBlock = some i → w0.heap.size ≤ i) ∧ w0.grownBy w v1.ownBlock
theorem OverI.start {w : World} {base : Nat} {v : Value} {bs : List Int} (h : OwnI w base v bs) : OverI w w base v v bs.length :=
  ⟨⟨bs, rfl, h⟩, .inl rfl, World.grownBy.refl _ _⟩
theorem OverI.alloc {w0 w : World} {base n : Nat} {v1 v : Value} (h : OverI w0 w base v1 v n) (o : Obj) : OverI w0 (w.alloc o) base v1 v n := by
  obtain ⟨⟨L, hl, ho⟩, h2, h3⟩ := h
  exact ⟨⟨L, hl, ho.below ((Below.refl _ _).alloc (Nat.le_refl _) _)⟩, h2, grown_alloc h3 _⟩
theorem OverI.some' {w0 w : World} {base n c : Nat} {v1 : Value} {a : Option Addr} (h : OverI w0 w base v1 (.slice a n c) n) (hn : 0 < n) : ∃ g, a = some ⟨g, 0, none⟩ := by
  obtain ⟨⟨L, hl, ho⟩, _⟩ := h
  rcases ho.2 with ⟨e, _⟩ | ⟨g, c', cur, e, _⟩
  · simp only [Value.slice.injEq] at e; omega
  · simp only [Value.slice.injEq] at e; exact ⟨g, e.1⟩
theorem OverI.cell {w0 w : World} {base g n c : Nat} {v1 : Value} (h : OverI w0 w base v1 (.slice (some ⟨g, 0, none⟩) n c) n) (k : Nat) (hk : k < n) :
    (∃ d : Int, w.cell? ⟨g, k, none⟩ = some (.int .i64 d)) ∧ w.frozen? ⟨g, k, none⟩ = false := by
  obtain ⟨⟨L, hl, ho⟩, _⟩ := h
  exact ⟨ho.cell k hk, ho.frozen k⟩
theorem OverI.store {w0 w : World} {base g n c : Nat} (h : OverI w0 w base (.slice (some ⟨g, 0, none⟩) n c) (.slice (some ⟨g, 0, none⟩) n c) n) (k : Nat) (d : Int) :
    OverI w0 (w.setCell ⟨g, k, none⟩ (.int .i64 d)) base (.slice (some ⟨g, 0, none⟩) n c) (.slice (some ⟨g, 0, none⟩) n c) n := by
  obtain ⟨⟨L, hl, ho⟩, h2, h3⟩ := h
  obtain ⟨h4, h5⟩ := ho.store k d
  exact ⟨⟨L.set k d, by rw [List.length_set]; exact hl, h4⟩, .inl rfl, grown_trans h3 h5⟩
theorem OverI.below {w w0 w1 : World} {base n : Nat} {v1 v : Value} (h : OverI w0 w1 base v1 v n) (hb : Below w.heap.size w w0) (h1 : ∀ i, v1.ownBlock = some i → w.heap.size ≤ i) : Below w.heap.size w w1 :=
  hb.grown h.2.2 hb.size h1
/-- append of one byte onto such a slice. -/
theorem pushOverI {ops : Array Oper} {rest : List Oper} {o : Oper} {a : Act} {Q : Exit → Act → World → Prop} (w0 w : World) (hgd : o.guard = none) (s x : Operand)
    (ho : o.op = .call { callee := .builtin .append, args := #[s, x], argTypes := #[24, 24] })
    (base : Nat) (v1 v : Value) (n : Nat) (hs : a.eval s = v) (H : OverI w0 w base v1 v n) (ad : Addr) (cap : Nat) (c : Int) (hx : a.eval x = .slice (some ad) 1 cap)
    (hc : w.cell? (ad.add 0) = some (.int .i64 c)) (hl : n + 1 ≤ 17592186044416) (hbase : base ≤ w.heap.size)
    (h : ∀ g' c' w', OverI w0 w' base v1 (.slice (some ⟨g', 0, none⟩) (n + 1) c') (n + 1) → wpList Try.prog ops Q rest (a.put o.dst (.slice (some ⟨g', 0, none⟩) (n + 1) c')) w') : wpList Try.prog ops Q (o :: rest) a w := by
  obtain ⟨⟨L, hL, hown⟩, h2, h3⟩ := H
  refine pushI2 w hgd s x ho base v L hs hown ad cap c hx hc (by omega) hbase ?_
  intro g' c' w' ho' hcase
  rw [hL] at ho' ⊢
  refine h g' c' w' ⟨⟨L ++ [c], by simp [hL], ho'⟩, ?_, ?_⟩
  · rcases hcase with ⟨e, k⟩ | ⟨e, k⟩
    · rcases h2 with h2 | h2
      · left; rw [← h2, e]; rfl
      · right; intro i hi; exact h2 i (by rw [e]; exact hi)
    · right; intro i hi; cases hi; exact Nat.le_trans h3.size e
  · rcases hcase with ⟨e, k⟩ | ⟨e, k⟩
    · rcases h2 with h2 | h2
      · rw [← h2, e] at h3 ⊢; exact grown_trans h3 k
      · exact grown_new h3 k (fun i hi => by cases hi; exact h2 _ e)
    · exact grown_new h3 k (fun i hi => by cases hi)
end Go.Proofs.Ytmfljllbniimmaa.Base
