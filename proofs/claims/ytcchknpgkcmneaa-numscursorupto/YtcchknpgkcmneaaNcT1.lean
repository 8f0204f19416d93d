/-
  Bytes that were handed out, and what each must hold: how they lie in memory.
-/
import Derived.Test.YtcchknpgkcmneaaNcS
import Derived.Test.YtcchknpgkcmneaaOutB
import Derived.Test.YtcchknpgkcmneaaRowV
namespace Go.Proofs.Ytcchknpgkcmneaa.Curs
open Go.ChangeShapes Go.WideShapes Go.ChangeAt Go.RowKit
open Go.Proofs.Ytcchknpgkcmneaa.Base Go.Proofs.Ytcchknpgkcmneaa.Nums
set_option linter.unusedVariables false
/-- One entry: what was handed out, what it must hold, what it was grown to; the bytes. -/
structure En where
  l : Value
  h : Value
  g : Value
  bs : List (BitVec 8)
def mkL (n : Nat) : BitVec 8 := BitVec.ofNat 8 (n % 199)
def mkG (n : Nat) : BitVec 8 := BitVec.ofNat 8 (200 + n % 55)
theorem mkL_nat (n : Nat) : (mkL n).toNat = n % 199 := by unfold mkL; rw [BitVec.toNat_ofNat]; omega
theorem mkG_nat (n : Nat) : (mkG n).toNat = 200 + n % 55 := by unfold mkG; rw [BitVec.toNat_ofNat]; omega
structure EnOk (w : World) (base n : Nat) (e : En) : Prop where
  l : Own w base e.l e.bs
  f : Fu e.l
  h : Own w base e.h e.bs
  g : e.g = .slice none 0 0 ∨ ∃ xs, xs.length = e.bs.length ∧ Own w base e.g (xs ++ List.replicate 64 (mkG n))
  k : e.bs.length ≤ 1048576
def En.sl (e : En) (j : Nat) : Value := match j with | 0 => e.l | 1 => e.h | _ => e.g
/-- No two share a block. -/
def AP (es : List En) : Prop := ∀ (n n' j j' : Nat) (e e' : En), es[n]? = some e → es[n']? = some e' → j < 3 → j' < 3 → (n ≠ n' ∨ j ≠ j') → ∀ i, (e.sl j).ownBlock = some i → (e'.sl j').ownBlock ≠ some i
/-- All that was handed out. -/
structure TK (w : World) (base gt : Nat) (vl vw vg : Value) (es : List En) : Prop where
  tb : w.heap[gt]? = some (.cells #[vl, vw, vg] 42)
  gb : base ≤ gt
  rl : w.ownsRow base 22 1 vl es.length (es.map En.l)
  rw' : w.ownsRow base 22 1 vw es.length (es.map En.h)
  rg : w.ownsRow base 22 1 vg es.length (es.map En.g)
  lw : ∀ i, vl.ownBlock = some i → vw.ownBlock ≠ some i
  lg : ∀ i, vl.ownBlock = some i → vg.ownBlock ≠ some i
  wg : ∀ i, vw.ownBlock = some i → vg.ownBlock ≠ some i
  en : ∀ (n : Nat) (e : En), es[n]? = some e → EnOk w base n e
  ap : AP es
theorem row_ty {w : World} {base n sz i : Nat} {T : TypeId} {v : Value} {xs : List Value} (h : w.ownsRow base T sz v n xs) (e : v.ownBlock = some i) : ∃ cur, w.heap[i]? = some (.cells cur T (0, 0)) := by
  rcases h.2 with ⟨h1, _⟩ | ⟨g, cap, cur, h1, _, h3, _⟩
  · rw [h1] at e; cases e
  · rw [h1] at e
    have : g = i := Option.some.inj e
    subst this
    exact ⟨cur, h3⟩
theorem ty_ne {w : World} {i j : Nat} {c1 c2 : Array Value} {t1 t2 : TypeId} {f1 f2} (h1 : w.heap[i]? = some (.cells c1 t1 f1)) (h2 : w.heap[j]? = some (.cells c2 t2 f2)) (ht : t1 ≠ t2) : i ≠ j := by
  rintro rfl
  rw [h1] at h2
  simp only [Option.some.injEq, Obj.cells.injEq] at h2
  exact ht h2.2.1
theorem EnOk.own {w : World} {base n : Nat} {e : En} (h : EnOk w base n e) (j : Nat) : ∃ bs, Own w base (e.sl j) bs := by
  match j with
  | 0 => exact ⟨_, h.l⟩
  | 1 => exact ⟨_, h.h⟩
  | j + 2 =>
    rcases h.g with hg | ⟨xs, _, hg⟩
    · exact ⟨[], by show Own w base e.g []; rw [hg]; exact own_none _ _⟩
    · exact ⟨_, hg⟩
theorem EnOk.keep {w w' : World} {base n : Nat} {e : En} {r : Option Nat} (h : EnOk w base n e) (hg : w.grownBy w' r) (hr : ∀ i j, r = some i → j < 3 → (e.sl j).ownBlock ≠ some i) : EnOk w' base n e := by
  refine ⟨Base.keep h.l hg (fun i j e1 e2 e3 => hr j 0 e2 (by omega) (by rw [← e3]; exact e1)), h.f, Base.keep h.h hg (fun i j e1 e2 e3 => hr j 1 e2 (by omega) (by rw [← e3]; exact e1)), ?_, h.k⟩
  rcases h.g with q | ⟨xs, q1, q2⟩
  · exact .inl q
  · exact .inr ⟨xs, q1, Base.keep q2 hg (fun i j e1 e2 e3 => hr j 2 e2 (by omega) (by rw [← e3]; exact e1))⟩
/-- What turns lies below base, or is new: all stands. -/
theorem TK.grown {w w' : World} {base gt : Nat} {vl vw vg : Value} {es : List En} {r : Option Nat} (h : TK w base gt vl vw vg es) (hg : w.grownBy w' r) (hr : ∀ i, r = some i → i < base) : TK w' base gt vl vw vg es := by
  have hk : ∀ {v : Value} {xs : List Value}, w.ownsRow base 22 1 v es.length xs → w'.ownsRow base 22 1 v es.length xs := fun {v xs} q => rowV_keep q hg (fun i e e2 => by have := (World.ownsRow.lt q i e).1; have := hr i e2; omega)
  have hlt : gt < w.heap.size := by
    by_cases hlt : gt < w.heap.size
    · exact hlt
    · have := h.tb; rw [Array.getElem?_eq_none (by omega)] at this; cases this
  refine ⟨?_, h.gb, hk h.rl, hk h.rw', hk h.rg, h.lw, h.lg, h.wg, fun n e he => (h.en n e he).keep hg (fun i j e1 _ e2 => ?_), h.ap⟩
  · rw [hg.block gt hlt (fun e => by have := hr gt e.symm; have := h.gb; omega)]; exact h.tb
  · obtain ⟨bs, ho⟩ := (h.en n e he).own j
    have := (blk ho i e2).1
    have := hr i e1
    omega
theorem TK.below {w w' : World} {base gt : Nat} {vl vw vg : Value} {es : List En} (h : TK w base gt vl vw vg es) (hb : Below w.heap.size w w') : TK w' base gt vl vw vg es := h.grown (r := none) (below_grown hb) (fun i e => by cases e)
theorem TK.cells {w : World} {base gt : Nat} {vl vw vg : Value} {es : List En} (h : TK w base gt vl vw vg es) : w.cell? ⟨gt, 0, none⟩ = some vl ∧ w.cell? ⟨gt, 1, none⟩ = some vw ∧ w.cell? ⟨gt, 2, none⟩ = some vg ∧ ∀ k, w.frozen? ⟨gt, k, none⟩ = false := by
  refine ⟨?_, ?_, ?_, fun k => frozen_of_row _ _ _ _ _ h.tb⟩ <;> (rw [cell_of_row _ _ _ _ _ _ h.tb]; rfl)
theorem TK.lt {w : World} {base gt : Nat} {vl vw vg : Value} {es : List En} (h : TK w base gt vl vw vg es) : gt < w.heap.size := block_lt_of_cell h.cells.1
/-- All blocks lie below the memory's end. -/
theorem TK.tops {w : World} {base gt : Nat} {vl vw vg : Value} {es : List En} (h : TK w base gt vl vw vg es) : (∀ i, vl.ownBlock = some i → base ≤ i ∧ i < w.heap.size) ∧ (∀ i, vw.ownBlock = some i → base ≤ i ∧ i < w.heap.size) ∧ (∀ i, vg.ownBlock = some i → base ≤ i ∧ i < w.heap.size) ∧ ∀ (n : Nat) (e : En), es[n]? = some e → ∀ j i, (e.sl j).ownBlock = some i → base ≤ i ∧ i < w.heap.size :=
  ⟨fun i e => World.ownsRow.lt h.rl i e, fun i e => World.ownsRow.lt h.rw' i e, fun i e => World.ownsRow.lt h.rg i e, fun n e he j i e2 => by obtain ⟨bs, ho⟩ := (h.en n e he).own j; exact blk ho i e2⟩
theorem TK.low {B : Nat} {w w' : World} {base gt : Nat} {vl vw vg : Value} {es : List En} (h : TK w base gt vl vw vg es) (hb : Below B w w') (h1 : gt < B) (h2 : ∀ i, vl.ownBlock = some i → i < B) (h3 : ∀ i, vw.ownBlock = some i → i < B) (h4 : ∀ i, vg.ownBlock = some i → i < B) (h5 : ∀ (n : Nat) (e : En), es[n]? = some e → ∀ j i, (e.sl j).ownBlock = some i → i < B) : TK w' base gt vl vw vg es := by
  have hk : ∀ {v : Value} {xs : List Value} {n : Nat}, w.ownsRow base 22 1 v n xs → (∀ i, v.ownBlock = some i → i < B) → w'.ownsRow base 22 1 v n xs := fun {v xs n} q hv => by
    refine ⟨q.1, ?_⟩
    rcases q.2 with r2 | ⟨g, cap, cur, e1, e2, e3, e4⟩
    · exact .inl r2
    · have hb2 : v.ownBlock = some g := by rw [e1]; rfl
      exact .inr ⟨g, cap, cur, e1, e2, by rw [hb.block g (hv g hb2)]; exact e3, e4⟩
  refine ⟨by rw [hb.block gt h1]; exact h.tb, h.gb, hk h.rl h2, hk h.rw' h3, hk h.rg h4, h.lw, h.lg, h.wg, fun n e he => ?_, h.ap⟩
  have q := h.en n e he
  refine ⟨own_low hb q.l (h5 n e he 0), q.f, own_low hb q.h (h5 n e he 1), ?_, q.k⟩
  rcases q.g with q | ⟨xs, q1, q2⟩
  · exact .inl q
  · exact .inr ⟨xs, q1, own_low hb q2 (h5 n e he 2)⟩
theorem get_set_self {es : List En} {n : Nat} {e' : En} (h : n < es.length) : (es.set n e')[n]? = some e' := by rw [List.getElem?_set_self h]
theorem set_cases {es : List En} {n m : Nat} {e' e : En} (h : (es.set n e')[m]? = some e) : (m = n ∧ e = e' ∧ n < es.length) ∨ (m ≠ n ∧ es[m]? = some e) := by
  by_cases hmn : m = n
  · subst hmn
    by_cases hl : m < es.length
    · rw [List.getElem?_set_self hl] at h
      exact .inl ⟨rfl, (Option.some.inj h).symm, hl⟩
    · rw [List.getElem?_eq_none (by rw [List.length_set]; omega)] at h; cases h
  · rw [List.getElem?_set_ne (fun e => hmn e.symm)] at h
    exact .inr ⟨hmn, h⟩
theorem AP.set {es : List En} {n : Nat} {e e' : En} (h : AP es) (he : es[n]? = some e) (hs : ∀ j, j < 3 → ∀ i, (e'.sl j).ownBlock = some i → (e.sl j).ownBlock = some i) : AP (es.set n e') := by
  intro a b j j' x x' hx hx' hj hj' hne i hi hi'
  rcases set_cases hx with ⟨rfl, rfl, hl⟩ | ⟨h1, h2⟩ <;> rcases set_cases hx' with ⟨rfl, rfl, hl'⟩ | ⟨h1', h2'⟩
  · exact h _ _ j j' e e he he hj hj' hne i (hs j hj i hi) (hs j' hj' i hi')
  · exact h _ _ j j' e x' he h2' hj hj' hne i (hs j hj i hi) hi'
  · exact h _ _ j j' x e h2 he hj hj' hne i hi (hs j' hj' i hi')
  · exact h _ _ j j' x x' h2 h2' hj hj' hne i hi hi'
/-- An entry is grown: what it was grown to is new. -/
theorem AP.setG {es : List En} {n B : Nat} {e e' : En} (h : AP es) (he : es[n]? = some e) (h0 : e'.l = e.l) (h1 : e'.h = e.h) (hg : ∀ i, e'.g.ownBlock = some i → B ≤ i) (ht : ∀ (m : Nat) (x : En), es[m]? = some x → ∀ j i, (x.sl j).ownBlock = some i → i < B) : AP (es.set n e') := by
  have hs : ∀ j, j < 2 → e'.sl j = e.sl j := fun j hj => by
    match j, hj with
    | 0, _ => exact h0
    | 1, _ => exact h1
  intro a b j j' x x' hx hx' hj hj' hne i hi hi'
  rcases set_cases hx with ⟨rfl, rfl, hl⟩ | ⟨q1, q2⟩ <;> rcases set_cases hx' with ⟨rfl, rfl, hl'⟩ | ⟨q1', q2'⟩
  · by_cases hj2 : j = 2
    · subst hj2
      have hB := hg i hi
      have hj2' : j' < 2 := by omega
      rw [hs j' hj2'] at hi'
      have := ht _ _ he j' i hi'
      omega
    · rw [hs j (by omega)] at hi
      by_cases hj2' : j' = 2
      · subst hj2'
        have hB := hg i hi'
        have := ht _ _ he j i hi
        omega
      · rw [hs j' (by omega)] at hi'
        exact h _ _ j j' e e he he hj hj' hne i hi hi'
  · by_cases hj2 : j = 2
    · subst hj2
      have hB := hg i hi
      have := ht _ _ q2' j' i hi'
      omega
    · rw [hs j (by omega)] at hi
      exact h _ _ j j' e x' he q2' hj hj' hne i hi hi'
  · by_cases hj2' : j' = 2
    · subst hj2'
      have hB := hg i hi'
      have := ht _ _ q2 j i hi
      omega
    · rw [hs j' (by omega)] at hi'
      exact h _ _ j j' x e q2 he hj hj' hne i hi hi'
  · exact h _ _ j j' x x' q2 q2' hj hj' hne i hi hi'
theorem map_set_same {es : List En} {n : Nat} {e e' : En} (f : En → Value) (he : es[n]? = some e) (hf : f e' = f e) : (es.set n e').map f = es.map f := by
  apply List.ext_getElem?
  intro m
  rw [List.getElem?_map, List.getElem?_map]
  by_cases hmn : m = n
  · subst hmn
    have hl : m < es.length := (List.getElem?_eq_some_iff.1 he).1
    rw [List.getElem?_set_self hl, he]
    simp [hf]
  · rw [List.getElem?_set_ne (fun e => hmn e.symm)]
theorem map_set_g {es : List En} {n : Nat} {e' : En} (f : En → Value) : (es.set n e').map f = (es.map f).set n (f e') := List.map_set
/-- The same byte is written into both of an entry. -/
theorem TK.both {w : World} {base gt n i gl gh kl cl kh ch : Nat} {vl vw vg : Value} {es : List En} {e : En} (h : TK w base gt vl vw vg es) (he : es[n]? = some e) (hl : e.l = .slice (some ⟨gl, 0, none⟩) kl cl) (hh : e.h = .slice (some ⟨gh, 0, none⟩) kh ch) (c : BitVec 8) :
    TK ((w.setCell ⟨gl, i, none⟩ (.int .u8 (c.toNat : Int))).setCell ⟨gh, i, none⟩ (.int .u8 (c.toNat : Int))) base gt vl vw vg (es.set n { e with bs := e.bs.set i c }) := by
  have q := h.en n e he
  have ol := q.l
  have oh := q.h
  rw [hl] at ol
  rw [hh] at oh
  have hln : n < es.length := (List.getElem?_eq_some_iff.1 he).1
  have bl : (e.sl 0).ownBlock = some gl := by show e.l.ownBlock = _; rw [hl]; rfl
  have bh : (e.sl 1).ownBlock = some gh := by show e.h.ownBlock = _; rw [hh]; rfl
  have hne : gl ≠ gh := fun ee => h.ap n n 0 1 e e he he (by omega) (by omega) (.inr (by omega)) gl bl (by rw [ee]; exact bh)
  obtain ⟨s1, g1⟩ := ol.store i c
  have oh1 : Own (w.setCell ⟨gl, i, none⟩ (.int .u8 (c.toNat : Int))) base (.slice (some ⟨gh, 0, none⟩) kh ch) e.bs := oh.other g1 (fun e => hne e.symm)
  obtain ⟨s2, g2⟩ := oh1.store i c
  have s1' := s1.other g2 hne
  obtain ⟨cl0, tl⟩ := row_ty ol rfl
  obtain ⟨ch0, th⟩ := row_ty oh rfl
  have rowk : ∀ {v : Value} {xs : List Value} {m : Nat}, w.ownsRow base 22 1 v m xs → ((w.setCell ⟨gl, i, none⟩ (.int .u8 (c.toNat : Int))).setCell ⟨gh, i, none⟩ (.int .u8 (c.toNat : Int))).ownsRow base 22 1 v m xs := fun {v xs m} r =>
    rowV_keep (rowV_keep r g1 (fun k e1 e2 => by obtain ⟨c1, t1⟩ := row_ty r e1; have := Option.some.inj e2; subst this; exact ty_ne tl t1 (by decide) rfl)) g2 (fun k e1 e2 => by obtain ⟨c1, t1⟩ := row_ty r e1; have := Option.some.inj e2; subst this; exact ty_ne th t1 (by decide) rfl)
  refine ⟨?_, h.gb, ?_, ?_, ?_, h.lw, h.lg, h.wg, ?_, ?_⟩
  · rw [g2.block gt (by simp [World.setCell]; exact h.lt) (fun e => by have := Option.some.inj e; exact ty_ne th h.tb (by decide) this.symm), g1.block gt h.lt (fun e => by have := Option.some.inj e; exact ty_ne tl h.tb (by decide) this.symm)]
    exact h.tb
  · rw [List.length_set, map_set_same (e' := { e with bs := e.bs.set i c }) En.l he rfl]; exact rowk h.rl
  · rw [List.length_set, map_set_same (e' := { e with bs := e.bs.set i c }) En.h he rfl]; exact rowk h.rw'
  · rw [List.length_set, map_set_same (e' := { e with bs := e.bs.set i c }) En.g he rfl]; exact rowk h.rg
  · intro m x hx
    rcases set_cases hx with ⟨rfl, rfl, _⟩ | ⟨hm, hx2⟩
    · refine ⟨by show Own _ _ e.l _; rw [hl]; exact s1', q.f, by show Own _ _ e.h _; rw [hh]; exact s2, ?_, by show (e.bs.set i c).length ≤ _; rw [List.length_set]; exact q.k⟩
      rcases q.g with qg | ⟨xs, q1, q2⟩
      · exact .inl qg
      · refine .inr ⟨xs, by show xs.length = (e.bs.set i c).length; rw [List.length_set]; exact q1, ?_⟩
        have a1 := Base.keep q2 g1 (fun a b e1 e2 e3 => by have := Option.some.inj e2; subst this; exact h.ap m m 2 0 e e he he (by omega) (by omega) (.inr (by omega)) a e1 (by rw [e3]; exact bl))
        exact Base.keep a1 g2 (fun a b e1 e2 e3 => by have := Option.some.inj e2; subst this; exact h.ap m m 2 1 e e he he (by omega) (by omega) (.inr (by omega)) a e1 (by rw [e3]; exact bh))
    · have qm := h.en m x hx2
      have a1 := qm.keep g1 (fun k j e1 hj e2 => by have := Option.some.inj e1; subst this; exact h.ap m n j 0 x e hx2 he hj (by omega) (.inl hm) _ e2 bl)
      exact a1.keep g2 (fun k j e1 hj e2 => by have := Option.some.inj e1; subst this; exact h.ap m n j 1 x e hx2 he hj (by omega) (.inl hm) _ e2 bh)
  · exact h.ap.set he (fun j hj k hk => by
      match j, hj with
      | 0, _ => exact hk
      | 1, _ => exact hk
      | 2, _ => exact hk)
/-- What an entry was grown to is put down. -/
theorem TK.setG {w : World} {base gt n gG m cG B : Nat} {vl vw vg v : Value} {es : List En} {e : En} {X : List (BitVec 8)} (h : TK w base gt vl vw vg es) (he : es[n]? = some e) (hgG : vg = .slice (some ⟨gG, 0, none⟩) m cG) (hv : Own w base v (X ++ List.replicate 64 (mkG n))) (hX : X.length = e.bs.length) (hB : ∀ i, v.ownBlock = some i → B ≤ i)
    (ht : ∀ (n : Nat) (e : En), es[n]? = some e → ∀ j i, (e.sl j).ownBlock = some i → i < B) : TK (w.setCell ⟨gG, n, none⟩ v) base gt vl vw vg (es.set n { e with g := v }) := by
  have hr := h.rg
  rw [hgG] at hr
  have hm : m = es.length := by
    rcases hr.2 with ⟨e1, _⟩ | ⟨g, cap, cur, e1, _⟩
    · simp at e1
    · simp only [Value.slice.injEq] at e1; exact e1.2.1
  subst hm
  obtain ⟨s1, g1⟩ := World.ownsRow.stored hr n v
  obtain ⟨cg0, tg⟩ := row_ty hr rfl
  have bg : vg.ownBlock = some gG := by rw [hgG]; rfl
  have ownk : ∀ {u : Value} {ys : List (BitVec 8)}, Own w base u ys → Own (w.setCell ⟨gG, n, none⟩ v) base u ys := fun {u ys} o =>
    Base.keep o g1 (fun a b e1 e2 e3 => by obtain ⟨c1, t1⟩ := row_ty o e1; have := Option.some.inj e2; subst this; exact ty_ne t1 tg (by decide) e3)
  refine ⟨?_, h.gb, ?_, ?_, ?_, h.lw, h.lg, h.wg, ?_, h.ap.setG he rfl rfl hB ht⟩
  · rw [g1.block gt h.lt (fun e => by have := Option.some.inj e; exact ty_ne tg h.tb (by decide) this.symm)]; exact h.tb
  · rw [List.length_set, map_set_same (e' := { e with g := v }) En.l he rfl]; exact rowV_keep h.rl g1 (fun i e1 e2 => by have := Option.some.inj e2; subst this; exact h.lg _ e1 bg)
  · rw [List.length_set, map_set_same (e' := { e with g := v }) En.h he rfl]; exact rowV_keep h.rw' g1 (fun i e1 e2 => by have := Option.some.inj e2; subst this; exact h.wg _ e1 bg)
  · rw [List.length_set, map_set_g, hgG]; exact s1
  · intro k x hx
    rcases set_cases hx with ⟨rfl, rfl, _⟩ | ⟨hk, hx2⟩
    · have q := h.en k e he
      exact ⟨ownk q.l, q.f, ownk q.h, .inr ⟨X, hX, ownk hv⟩, q.k⟩
    · have q := h.en k x hx2
      refine ⟨ownk q.l, q.f, ownk q.h, ?_, q.k⟩
      rcases q.g with qg | ⟨xs, q1, q2⟩
      · exact .inl qg
      · exact .inr ⟨xs, q1, ownk q2⟩
end Go.Proofs.Ytcchknpgkcmneaa.Curs
