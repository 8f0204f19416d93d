/-
  One more is handed out.
-/
import Derived.Test.YtcchknpgkcmneaaNcT2
namespace Go.Proofs.Ytcchknpgkcmneaa.Curs
open Go.ChangeShapes Go.WideShapes Go.ChangeAt Go.RowKit
open Go.Proofs.Ytcchknpgkcmneaa.Base Go.Proofs.Ytcchknpgkcmneaa.Nums
set_option linter.unusedVariables false
theorem infoBs : (Try.prog.info? 22).map (fun i => (i.zero, i.size, i.bytes)) = some (some (.slice none 0 0), 1, 24) := by kernel_rfl
/-- The three lists, and the entries as they were. -/
structure TQ (w : World) (base gt : Nat) (vl vw vg : Value) (xl xw xg : List Value) (es : List En) : Prop where
  tb : w.heap[gt]? = some (.cells #[vl, vw, vg] 42)
  gb : base ≤ gt
  rl : w.ownsRow base 22 1 vl xl.length xl
  rw' : w.ownsRow base 22 1 vw xw.length xw
  rg : w.ownsRow base 22 1 vg xg.length xg
  lw : ∀ i, vl.ownBlock = some i → vw.ownBlock ≠ some i
  lg : ∀ i, vl.ownBlock = some i → vg.ownBlock ≠ some i
  wg : ∀ i, vw.ownBlock = some i → vg.ownBlock ≠ some i
  en : ∀ (n : Nat) (e : En), es[n]? = some e → EnOk w base n e
theorem TK.tq {w : World} {base gt : Nat} {vl vw vg : Value} {es : List En} (h : TK w base gt vl vw vg es) : TQ w base gt vl vw vg (es.map En.l) (es.map En.h) (es.map En.g) es :=
  ⟨h.tb, h.gb, by rw [List.length_map]; exact h.rl, by rw [List.length_map]; exact h.rw', by rw [List.length_map]; exact h.rg, h.lw, h.lg, h.wg, h.en⟩
section
variable {w w' : World} {base gt g' c' : Nat} {vl vw vg u : Value} {xl xw xg : List Value} {es : List En}
theorem TQ.cells (h : TQ w base gt vl vw vg xl xw xg es) : w.cell? ⟨gt, 0, none⟩ = some vl ∧ w.cell? ⟨gt, 1, none⟩ = some vw ∧ w.cell? ⟨gt, 2, none⟩ = some vg ∧ ∀ k, w.frozen? ⟨gt, k, none⟩ = false := by
  refine ⟨?_, ?_, ?_, fun k => frozen_of_row _ _ _ _ _ h.tb⟩ <;> (rw [cell_of_row _ _ _ _ _ _ h.tb]; rfl)
theorem TQ.lt (h : TQ w base gt vl vw vg xl xw xg es) : gt < w.heap.size := block_lt_of_cell h.cells.1
theorem TQ.below (h : TQ w base gt vl vw vg xl xw xg es) (hb : Below w.heap.size w w') : TQ w' base gt vl vw vg xl xw xg es := by
  have hk : ∀ {v : Value} {n : Nat} {xs : List Value}, w.ownsRow base 22 1 v n xs → w'.ownsRow base 22 1 v n xs := fun {v n xs} q => rowV_keep q (below_grown hb) (fun i e e2 => by cases e2)
  exact ⟨by rw [hb.block gt h.lt]; exact h.tb, h.gb, hk h.rl, hk h.rw', hk h.rg, h.lw, h.lg, h.wg, fun n e he => (h.en n e he).keep (below_grown hb) (fun i j e => by cases e)⟩
theorem put_where {T : TypeId} {n : Nat} {v : Value} {xs : List Value} (hr : w.ownsRow base T 1 v n xs) (hp : Put1 w w' v g') : w.grownBy w' v.ownBlock ∧ (v.ownBlock = some g' ∨ w.heap.size ≤ g') := by
  rcases hp with ⟨e, h⟩ | ⟨e, h⟩
  · rw [e]; exact ⟨h, .inl rfl⟩
  · exact ⟨grown_any h _, .inr e⟩
end
theorem TQ.pushL {w w' : World} {base gt g' c' n0 : Nat} {vl vw vg u : Value} {xl xw xg : List Value} {es : List En} (h : TQ w base gt vl vw vg xl xw xg es) (hx : xl.length = n0) (hr : w'.ownsRow base 22 1 (.slice (some ⟨g', 0, none⟩) (n0 + 1) c') (n0 + 1) (xl ++ [u])) (hp : Put1 w w' vl g') (hb : base ≤ w.heap.size) :
    TQ (w'.setCell ⟨gt, 0, none⟩ (.slice (some ⟨g', 0, none⟩) (n0 + 1) c')) base gt (.slice (some ⟨g', 0, none⟩) (n0 + 1) c') vw vg (xl ++ [u]) xw xg es ∧ Below base w (w'.setCell ⟨gt, 0, none⟩ (.slice (some ⟨g', 0, none⟩) (n0 + 1) c')) ∧ (∀ (base' : Nat) (z : Value) (ys : List (BitVec 8)), Own w base' z ys → Own (w'.setCell ⟨gt, 0, none⟩ (.slice (some ⟨g', 0, none⟩) (n0 + 1) c')) base' z ys) ∧ w'.heap[gt]? = some (.cells #[vl, vw, vg] 42) := by
  have hg := put_where h.rl hp
  have hlt := h.lt
  have g2 : w'.grownBy (w'.setCell ⟨gt, 0, none⟩ (.slice (some ⟨g', 0, none⟩) (n0 + 1) c')) (some gt) := grown_cell (World.grownBy.refl _ _) 0 _
  have htb : w'.heap[gt]? = some (.cells #[vl, vw, vg] 42) := by
    rw [hg.1.block gt hlt (fun e => by obtain ⟨c1, t1⟩ := row_ty h.rl e.symm; exact ty_ne t1 h.tb (by decide) rfl)]; exact h.tb
  have rowk : ∀ {v : Value} {n : Nat} {zs : List Value}, w'.ownsRow base 22 1 v n zs → (w'.setCell ⟨gt, 0, none⟩ (.slice (some ⟨g', 0, none⟩) (n0 + 1) c')).ownsRow base 22 1 v n zs := fun {v n zs} q =>
    rowV_keep q g2 (fun i e e2 => by obtain ⟨c1, t1⟩ := row_ty q e; have := Option.some.inj e2; subst this; exact ty_ne t1 htb (by decide) rfl)
  have ownk : ∀ (base' : Nat) (z : Value) (ys : List (BitVec 8)), Own w base' z ys → Own (w'.setCell ⟨gt, 0, none⟩ (.slice (some ⟨g', 0, none⟩) (n0 + 1) c')) base' z ys := fun base' z ys q => by
    have q1 : Own w' base' z ys := Base.keep q hg.1 (fun i j e1 e2 e3 => by obtain ⟨c1, t1⟩ := row_ty q e1; obtain ⟨c2, t2⟩ := row_ty h.rl e2; exact ty_ne t1 t2 (by decide) e3)
    exact Base.keep q1 g2 (fun i j e1 e2 e3 => by obtain ⟨c1, t1⟩ := row_ty q1 e1; have := Option.some.inj e2; subst this; exact ty_ne t1 htb (by decide) e3)
  refine ⟨⟨heap_setCell_same _ _ _ _ _ _ htb, h.gb, by rw [List.length_append, hx]; exact (rowk hr), (rowk (rowV_keep h.rw' hg.1 (fun i e e2 => h.lw i e2 e))), (rowk (rowV_keep h.rg hg.1 (fun i e e2 => h.lg i e2 e))), (fun i e e2 => by cases e; rcases hg.2 with q | q; exact h.lw _ q e2; have := (World.ownsRow.lt h.rw' _ e2).2; exact absurd (Nat.lt_of_lt_of_le this q) (Nat.lt_irrefl _)), (fun i e e2 => by cases e; rcases hg.2 with q | q; exact h.lg _ q e2; have := (World.ownsRow.lt h.rg _ e2).2; exact absurd (Nat.lt_of_lt_of_le this q) (Nat.lt_irrefl _)), h.wg, fun n e he => ?_⟩, ?_, ownk, htb⟩
  · have q := h.en n e he
    refine ⟨ownk _ _ _ q.l, q.f, ownk _ _ _ q.h, ?_, q.k⟩
    rcases q.g with q | ⟨ys, q1, q2⟩
    · exact .inl q
    · exact .inr ⟨ys, q1, ownk _ _ _ q2⟩
  · exact ((Below.refl base w).grown hg.1 hb (fun i e => (World.ownsRow.lt h.rl i e).1)).setCell h.gb _
theorem TQ.pushW {w w' : World} {base gt g' c' n0 : Nat} {vl vw vg u : Value} {xl xw xg : List Value} {es : List En} (h : TQ w base gt vl vw vg xl xw xg es) (hx : xw.length = n0) (hr : w'.ownsRow base 22 1 (.slice (some ⟨g', 0, none⟩) (n0 + 1) c') (n0 + 1) (xw ++ [u])) (hp : Put1 w w' vw g') (hb : base ≤ w.heap.size) :
    TQ (w'.setCell ⟨gt, 1, none⟩ (.slice (some ⟨g', 0, none⟩) (n0 + 1) c')) base gt vl (.slice (some ⟨g', 0, none⟩) (n0 + 1) c') vg xl (xw ++ [u]) xg es ∧ Below base w (w'.setCell ⟨gt, 1, none⟩ (.slice (some ⟨g', 0, none⟩) (n0 + 1) c')) ∧ (∀ (base' : Nat) (z : Value) (ys : List (BitVec 8)), Own w base' z ys → Own (w'.setCell ⟨gt, 1, none⟩ (.slice (some ⟨g', 0, none⟩) (n0 + 1) c')) base' z ys) ∧ w'.heap[gt]? = some (.cells #[vl, vw, vg] 42) := by
  have hg := put_where h.rw' hp
  have hlt := h.lt
  have g2 : w'.grownBy (w'.setCell ⟨gt, 1, none⟩ (.slice (some ⟨g', 0, none⟩) (n0 + 1) c')) (some gt) := grown_cell (World.grownBy.refl _ _) 1 _
  have htb : w'.heap[gt]? = some (.cells #[vl, vw, vg] 42) := by
    rw [hg.1.block gt hlt (fun e => by obtain ⟨c1, t1⟩ := row_ty h.rw' e.symm; exact ty_ne t1 h.tb (by decide) rfl)]; exact h.tb
  have rowk : ∀ {v : Value} {n : Nat} {zs : List Value}, w'.ownsRow base 22 1 v n zs → (w'.setCell ⟨gt, 1, none⟩ (.slice (some ⟨g', 0, none⟩) (n0 + 1) c')).ownsRow base 22 1 v n zs := fun {v n zs} q =>
    rowV_keep q g2 (fun i e e2 => by obtain ⟨c1, t1⟩ := row_ty q e; have := Option.some.inj e2; subst this; exact ty_ne t1 htb (by decide) rfl)
  have ownk : ∀ (base' : Nat) (z : Value) (ys : List (BitVec 8)), Own w base' z ys → Own (w'.setCell ⟨gt, 1, none⟩ (.slice (some ⟨g', 0, none⟩) (n0 + 1) c')) base' z ys := fun base' z ys q => by
    have q1 : Own w' base' z ys := Base.keep q hg.1 (fun i j e1 e2 e3 => by obtain ⟨c1, t1⟩ := row_ty q e1; obtain ⟨c2, t2⟩ := row_ty h.rw' e2; exact ty_ne t1 t2 (by decide) e3)
    exact Base.keep q1 g2 (fun i j e1 e2 e3 => by obtain ⟨c1, t1⟩ := row_ty q1 e1; have := Option.some.inj e2; subst this; exact ty_ne t1 htb (by decide) e3)
  refine ⟨⟨heap_setCell_same _ _ _ _ _ _ htb, h.gb, (rowk (rowV_keep h.rl hg.1 (fun i e e2 => h.lw i e e2))), by rw [List.length_append, hx]; exact (rowk hr), (rowk (rowV_keep h.rg hg.1 (fun i e e2 => h.wg i e2 e))), (fun i e e2 => by cases e2; rcases hg.2 with q | q; exact h.lw _ e q; have := (World.ownsRow.lt h.rl _ e).2; exact absurd (Nat.lt_of_lt_of_le this q) (Nat.lt_irrefl _)), h.lg, (fun i e e2 => by cases e; rcases hg.2 with q | q; exact h.wg _ q e2; have := (World.ownsRow.lt h.rg _ e2).2; exact absurd (Nat.lt_of_lt_of_le this q) (Nat.lt_irrefl _)), fun n e he => ?_⟩, ?_, ownk, htb⟩
  · have q := h.en n e he
    refine ⟨ownk _ _ _ q.l, q.f, ownk _ _ _ q.h, ?_, q.k⟩
    rcases q.g with q | ⟨ys, q1, q2⟩
    · exact .inl q
    · exact .inr ⟨ys, q1, ownk _ _ _ q2⟩
  · exact ((Below.refl base w).grown hg.1 hb (fun i e => (World.ownsRow.lt h.rw' i e).1)).setCell h.gb _
theorem TQ.pushG {w w' : World} {base gt g' c' n0 : Nat} {vl vw vg u : Value} {xl xw xg : List Value} {es : List En} (h : TQ w base gt vl vw vg xl xw xg es) (hx : xg.length = n0) (hr : w'.ownsRow base 22 1 (.slice (some ⟨g', 0, none⟩) (n0 + 1) c') (n0 + 1) (xg ++ [u])) (hp : Put1 w w' vg g') (hb : base ≤ w.heap.size) :
    TQ (w'.setCell ⟨gt, 2, none⟩ (.slice (some ⟨g', 0, none⟩) (n0 + 1) c')) base gt vl vw (.slice (some ⟨g', 0, none⟩) (n0 + 1) c') xl xw (xg ++ [u]) es ∧ Below base w (w'.setCell ⟨gt, 2, none⟩ (.slice (some ⟨g', 0, none⟩) (n0 + 1) c')) ∧ (∀ (base' : Nat) (z : Value) (ys : List (BitVec 8)), Own w base' z ys → Own (w'.setCell ⟨gt, 2, none⟩ (.slice (some ⟨g', 0, none⟩) (n0 + 1) c')) base' z ys) ∧ w'.heap[gt]? = some (.cells #[vl, vw, vg] 42) := by
  have hg := put_where h.rg hp
  have hlt := h.lt
  have g2 : w'.grownBy (w'.setCell ⟨gt, 2, none⟩ (.slice (some ⟨g', 0, none⟩) (n0 + 1) c')) (some gt) := grown_cell (World.grownBy.refl _ _) 2 _
  have htb : w'.heap[gt]? = some (.cells #[vl, vw, vg] 42) := by
    rw [hg.1.block gt hlt (fun e => by obtain ⟨c1, t1⟩ := row_ty h.rg e.symm; exact ty_ne t1 h.tb (by decide) rfl)]; exact h.tb
  have rowk : ∀ {v : Value} {n : Nat} {zs : List Value}, w'.ownsRow base 22 1 v n zs → (w'.setCell ⟨gt, 2, none⟩ (.slice (some ⟨g', 0, none⟩) (n0 + 1) c')).ownsRow base 22 1 v n zs := fun {v n zs} q =>
    rowV_keep q g2 (fun i e e2 => by obtain ⟨c1, t1⟩ := row_ty q e; have := Option.some.inj e2; subst this; exact ty_ne t1 htb (by decide) rfl)
  have ownk : ∀ (base' : Nat) (z : Value) (ys : List (BitVec 8)), Own w base' z ys → Own (w'.setCell ⟨gt, 2, none⟩ (.slice (some ⟨g', 0, none⟩) (n0 + 1) c')) base' z ys := fun base' z ys q => by
    have q1 : Own w' base' z ys := Base.keep q hg.1 (fun i j e1 e2 e3 => by obtain ⟨c1, t1⟩ := row_ty q e1; obtain ⟨c2, t2⟩ := row_ty h.rg e2; exact ty_ne t1 t2 (by decide) e3)
    exact Base.keep q1 g2 (fun i j e1 e2 e3 => by obtain ⟨c1, t1⟩ := row_ty q1 e1; have := Option.some.inj e2; subst this; exact ty_ne t1 htb (by decide) e3)
  refine ⟨⟨heap_setCell_same _ _ _ _ _ _ htb, h.gb, (rowk (rowV_keep h.rl hg.1 (fun i e e2 => h.lg i e e2))), (rowk (rowV_keep h.rw' hg.1 (fun i e e2 => h.wg i e e2))), by rw [List.length_append, hx]; exact (rowk hr), h.lw, (fun i e e2 => by cases e2; rcases hg.2 with q | q; exact h.lg _ e q; have := (World.ownsRow.lt h.rl _ e).2; exact absurd (Nat.lt_of_lt_of_le this q) (Nat.lt_irrefl _)), (fun i e e2 => by cases e2; rcases hg.2 with q | q; exact h.wg _ e q; have := (World.ownsRow.lt h.rw' _ e).2; exact absurd (Nat.lt_of_lt_of_le this q) (Nat.lt_irrefl _)), fun n e he => ?_⟩, ?_, ownk, htb⟩
  · have q := h.en n e he
    refine ⟨ownk _ _ _ q.l, q.f, ownk _ _ _ q.h, ?_, q.k⟩
    rcases q.g with q | ⟨ys, q1, q2⟩
    · exact .inl q
    · exact .inr ⟨ys, q1, ownk _ _ _ q2⟩
  · exact ((Below.refl base w).grown hg.1 hb (fun i e => (World.ownsRow.lt h.rg i e).1)).setCell h.gb _
theorem append_cases {es : List En} {n : Nat} {e' e : En} (h : (es ++ [e'])[n]? = some e) : es[n]? = some e ∨ (n = es.length ∧ e = e') := by
  by_cases hl : n < es.length
  · rw [List.getElem?_append_left hl] at h; exact .inl h
  · rw [List.getElem?_append_right (by omega)] at h
    have h1 : n - es.length < 1 := by
      have := (List.getElem?_eq_some_iff.1 h).1
      simpa using this
    have h2 : n - es.length = 0 := by omega
    rw [h2] at h
    exact .inr ⟨by omega, (Option.some.inj h).symm⟩
/-- One more entry, whose blocks are its own. -/
theorem TQ.tk {w : World} {base gt B : Nat} {vl vw vg v z : Value} {es : List En} {bs : List (BitVec 8)} (h : TQ w base gt vl vw vg (es.map En.l ++ [v]) (es.map En.h ++ [z]) (es.map En.g ++ [.slice none 0 0]) es) (ha : AP es) (hv : Own w base v bs) (hf : Fu v) (hz : Own w base z bs) (hk : bs.length ≤ 1048576)
    (hB : ∀ i, z.ownBlock = some i → B ≤ i) (h1 : ∀ i, v.ownBlock = some i → i < B) (h2 : ∀ (n : Nat) (e : En), es[n]? = some e → ∀ j i, (e.sl j).ownBlock = some i → i < B) (h3 : ∀ (n : Nat) (e : En), es[n]? = some e → ∀ j i, j < 3 → v.ownBlock = some i → (e.sl j).ownBlock ≠ some i) :
    TK w base gt vl vw vg (es ++ [⟨v, z, .slice none 0 0, bs⟩]) := by
  refine ⟨h.tb, h.gb, ?_, ?_, ?_, h.lw, h.lg, h.wg, ?_, ?_⟩
  · have := h.rl; rw [List.length_append, List.length_map] at this; rw [List.map_append, List.length_append]; exact this
  · have := h.rw'; rw [List.length_append, List.length_map] at this; rw [List.map_append, List.length_append]; exact this
  · have := h.rg; rw [List.length_append, List.length_map] at this; rw [List.map_append, List.length_append]; exact this
  · intro n e he
    rcases append_cases he with q | ⟨rfl, rfl⟩
    · exact h.en n e q
    · exact ⟨hv, hf, hz, .inl rfl, hk⟩
  · intro n n' j j' e e' he he' hj hj' hne i hi hi'
    have nw : ∀ j, j < 3 → ∀ i, ((⟨v, z, .slice none 0 0, bs⟩ : En).sl j).ownBlock = some i → (j = 0 ∧ v.ownBlock = some i) ∨ (j = 1 ∧ z.ownBlock = some i) := fun j hj i hi => by
      match j, hj with
      | 0, _ => exact .inl ⟨rfl, hi⟩
      | 1, _ => exact .inr ⟨rfl, hi⟩
      | 2, _ => cases hi
    rcases append_cases he with q | ⟨rfl, rfl⟩ <;> rcases append_cases he' with q' | ⟨rfl, rfl⟩
    · exact ha n n' j j' e e' q q' hj hj' hne i hi hi'
    · rcases nw j' hj' i hi' with ⟨_, e2⟩ | ⟨_, e2⟩
      · exact h3 n e q j i hj e2 hi
      · have := hB i e2; have := h2 n e q j i hi; omega
    · rcases nw j hj i hi with ⟨_, e2⟩ | ⟨_, e2⟩
      · exact h3 n' e' q' j' i hj' e2 hi'
      · have := hB i e2; have := h2 n' e' q' j' i hi'; omega
    · rcases nw j hj i hi with ⟨a1, e1⟩ | ⟨a1, e1⟩ <;> rcases nw j' hj' i hi' with ⟨a2, e2⟩ | ⟨a2, e2⟩
      · rcases hne with hne | hne <;> omega
      · have := hB i e2; have := h1 i e1; omega
      · have := hB i e1; have := h1 i e2; omega
      · rcases hne with hne | hne <;> omega
end Go.Proofs.Ytcchknpgkcmneaa.Curs
