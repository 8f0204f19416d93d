/-
  Two running sums of the program's and two of the document's, side by side: what becomes of them.
-/
import Derived.Test.YtpoholpedkikhabCrcRunC
namespace Go.Proofs.Ytpoholpedkikhab.Run
open Go.ChangeShapes Go.WideShapes Go.ChangeAt Go.RowKit
open Go.Proofs.Ytpoholpedkikhab.Crc
set_option linter.unusedVariables false
def upd {α : Type} (f : Nat → α) (k : Nat) (a : α) : Nat → α := fun j => if j = k then a else f j
theorem upd_same {α : Type} (f : Nat → α) (k : Nat) (a : α) : upd f k a k = a := by simp [upd]
theorem upd_other {α : Type} (f : Nat → α) (k : Nat) (a : α) (j : Nat) (h : j ≠ k) : upd f k a j = f j := by simp [upd, h]
def ptr (g : Nat) : Value := .pointer (some ⟨g, 0, none⟩)
/-- Two pointers in a block. -/
def Row2 (w : World) (t : TypeId) (g : Nat) (p : Nat → Nat) : Prop := w.heap[g]? = some (.cells #[ptr (p 0), ptr (p 1)] t)
theorem Row2.cell {w : World} {t : TypeId} {g : Nat} {p : Nat → Nat} (h : Row2 w t g p) (k : Nat) (hk : k < 2) : w.cell? ⟨g, k, none⟩ = some (ptr (p k)) := by
  rw [cell_of_row _ _ _ _ _ _ h]
  rcases k with _ | _ | k
  · rfl
  · rfl
  · omega
theorem Row2.frozen {w : World} {t : TypeId} {g : Nat} {p : Nat → Nat} (h : Row2 w t g p) (k : Nat) : w.frozen? ⟨g, k, none⟩ = false := frozen_of_row _ _ _ _ _ h
theorem Row2.put {w : World} {t : TypeId} {g : Nat} {p : Nat → Nat} (h : Row2 w t g p) (k b : Nat) (hk : k < 2) : Row2 (w.setCell ⟨g, k, none⟩ (ptr b)) t g (upd p k b) := by
  have h' := heap_setCell_same w g k _ t (ptr b) h
  unfold Row2
  rw [h']
  rcases k with _ | _ | k
  · rfl
  · rfl
  · omega
theorem Row2.lt {w : World} {t : TypeId} {g : Nat} {p : Nat → Nat} (h : Row2 w t g p) : g < w.heap.size := block_lt_of_cell (h.cell 0 (by omega))
structure St (w : World) (base gr gq : Nat) (p q : Nat → Nat) (v : Nat → Value) (X Y : Nat → List (BitVec 8)) : Prop where
  r : Row2 w 70 gr p
  s : Row2 w 73 gq q
  runs : ∀ j, j < 2 → Runs w (p j) (sum (X j)) (X j).length
  refs : ∀ j, j < 2 → RefAt w base (q j) (v j) (Y j)
structure Apart (base gr gq : Nat) (p q : Nat → Nat) (v : Nat → Value) : Prop where
  rq : gr ≠ gq
  pp : ∀ j, j < 2 → p j ≠ gr ∧ p j ≠ gq ∧ q j ≠ gr ∧ q j ≠ gq
  pq : ∀ i, i < 2 → ∀ j, j < 2 → p i ≠ q j
  p2 : ∀ i, i < 2 → ∀ j, j < 2 → i ≠ j → p i ≠ p j
  q2 : ∀ i, i < 2 → ∀ j, j < 2 → i ≠ j → q i ≠ q j
  vb : ∀ j, j < 2 → ∀ b, (v j).ownBlock = some b → b ≠ gr ∧ b ≠ gq ∧ ∀ i, i < 2 → b ≠ p i ∧ b ≠ q i
  v2 : ∀ i, i < 2 → ∀ j, j < 2 → i ≠ j → ∀ b, (v i).ownBlock = some b → (v j).ownBlock ≠ some b
  lo : base ≤ gr ∧ base ≤ gq ∧ ∀ j, j < 2 → base ≤ p j ∧ base ≤ q j
theorem Runs.grown {w w' : World} {g n : Nat} {S : BitVec 32} {r : Option Nat} (h : Runs w g S n) (hg : w.grownBy w' r) (hr : r ≠ some g) : Runs w' g S n := by
  unfold Runs
  rw [hg.block g h.lt (fun e => hr e.symm)]; exact h
theorem RefAt.lt {w : World} {base g : Nat} {v : Value} {B : List (BitVec 8)} (h : RefAt w base g v B) : g < w.heap.size := block_lt_of_cell h.c0
theorem RefAt.grown {w w' : World} {base g : Nat} {v : Value} {B : List (BitVec 8)} {r : Option Nat} (h : RefAt w base g v B) (hg : w.grownBy w' r) (h1 : r ≠ some g) (h2 : ∀ b, v.ownBlock = some b → r ≠ some b) : RefAt w' base g v B :=
  ⟨by rw [hg.block g h.lt (fun e => h1 e.symm)]; exact h.1, Base.keep h.2 hg (fun i j e1 e2 e => h2 i e1 (by rw [e2, e]))⟩
theorem Row2.grown {w w' : World} {t : TypeId} {g : Nat} {p : Nat → Nat} {r : Option Nat} (h : Row2 w t g p) (hg : w.grownBy w' r) (hr : r ≠ some g) : Row2 w' t g p := by
  unfold Row2
  rw [hg.block g h.lt (fun e => hr e.symm)]; exact h
/-- Nothing of the state lies in the block r. -/
def Off (gr gq : Nat) (p q : Nat → Nat) (v : Nat → Value) (r : Option Nat) : Prop := r ≠ some gr ∧ r ≠ some gq ∧ ∀ j, j < 2 → r ≠ some (p j) ∧ r ≠ some (q j) ∧ ∀ b, (v j).ownBlock = some b → r ≠ some b
theorem St.keep {w w' : World} {base gr gq : Nat} {p q : Nat → Nat} {v : Nat → Value} {X Y : Nat → List (BitVec 8)} {r : Option Nat} (h : St w base gr gq p q v X Y) (hg : w.grownBy w' r) (ho : Off gr gq p q v r) : St w' base gr gq p q v X Y :=
  ⟨h.r.grown hg ho.1, h.s.grown hg ho.2.1, fun j hj => Runs.grown (h.runs j hj) hg (ho.2.2 j hj).1, fun j hj => (h.refs j hj).grown hg (ho.2.2 j hj).2.1 (ho.2.2 j hj).2.2⟩
theorem off_none (gr gq : Nat) (p q : Nat → Nat) (v : Nat → Value) : Off gr gq p q v none := ⟨by simp, by simp, fun j _ => ⟨by simp, by simp, fun b _ => by simp⟩⟩
theorem St.below {w w' : World} {base gr gq : Nat} {p q : Nat → Nat} {v : Nat → Value} {X Y : Nat → List (BitVec 8)} (h : St w base gr gq p q v X Y) (hb : Below w.heap.size w w') : St w' base gr gq p q v X Y :=
  h.keep (Crc.below_grown hb) (off_none _ _ _ _ _)
/-- The state lies below b. -/
theorem St.off {w : World} {base gr gq b : Nat} {p q : Nat → Nat} {v : Nat → Value} {X Y : Nat → List (BitVec 8)} (h : St w base gr gq p q v X Y) (hb : w.heap.size ≤ b) : Off gr gq p q v (some b) := by
  have h1 := h.r.lt
  have h2 := h.s.lt
  refine ⟨fun e => by cases e; omega, fun e => by cases e; omega, fun j hj => ⟨fun e => ?_, fun e => ?_, fun c hc e => ?_⟩⟩
  · have := (h.runs j hj).lt; cases e; omega
  · have := (h.refs j hj).lt; cases e; omega
  · have := (Base.blk (h.refs j hj).2 c hc).2; cases e; omega
/-- One of the program's sums has turned. -/
theorem St.putR {w w' : World} {base gr gq k : Nat} {p q : Nat → Nat} {v : Nat → Value} {X Y : Nat → List (BitVec 8)} {B : List (BitVec 8)} {n : Nat} (h : St w base gr gq p q v X Y) (ha : Apart base gr gq p q v) (hk : k < 2)
    (hg : w.grownBy w' (some (p k))) (hr : Runs w' (p k) (sum B) n) (hn : n = B.length) : St w' base gr gq p q v (upd X k B) Y := by
  subst hn
  refine ⟨h.r.grown hg (fun e => (ha.pp k hk).1 (Option.some.inj e)), h.s.grown hg (fun e => (ha.pp k hk).2.1 (Option.some.inj e)), fun j hj => ?_, fun j hj => ?_⟩
  · by_cases e : j = k
    · subst e; rw [upd_same]; exact hr
    · rw [upd_other _ _ _ _ e]; exact Runs.grown (h.runs j hj) hg (fun e2 => ha.p2 k hk j hj (fun x => e x.symm) (Option.some.inj e2))
  · exact (h.refs j hj).grown hg (fun e => ha.pq k hk j hj (Option.some.inj e)) (fun b hb e => ((ha.vb j hj b hb).2.2 k hk).1 (Option.some.inj e).symm)
/-- One of the document's has turned. -/
theorem St.putQ {w w' : World} {base gr gq k : Nat} {p q : Nat → Nat} {v : Nat → Value} {X Y : Nat → List (BitVec 8)} {B : List (BitVec 8)} {u : Value} (h : St w base gr gq p q v X Y) (ha : Apart base gr gq p q v) (hk : k < 2)
    (hg : Base.Kept2 w w' (some (q k)) (v k).ownBlock) (hr : RefAt w' base (q k) u B) (hu : ∀ b, u.ownBlock = some b → (v k).ownBlock = some b ∨ w.heap.size ≤ b) : St w' base gr gq p q (upd v k u) X (upd Y k B) ∧ Apart base gr gq p q (upd v k u) := by
  have row : ∀ i, i < w.heap.size → i ≠ q k → (v k).ownBlock ≠ some i → w'.heap[i]? = w.heap[i]? := fun i hi h1 h2 => hg.block i hi (fun e => h1 (Option.some.inj e)) (fun e => h2 e.symm)
  have nb : ∀ i, i = gr ∨ i = gq ∨ (∃ j, j < 2 ∧ i = p j) → i ≠ q k ∧ (v k).ownBlock ≠ some i := by
    intro i hi
    rcases hi with rfl | rfl | ⟨j, hj, rfl⟩
    · exact ⟨fun e => (ha.pp k hk).2.2.1 e.symm, fun e => (ha.vb k hk _ e).1 rfl⟩
    · exact ⟨fun e => (ha.pp k hk).2.2.2 e.symm, fun e => (ha.vb k hk _ e).2.1 rfl⟩
    · exact ⟨ha.pq j hj k hk, fun e => ((ha.vb k hk _ e).2.2 j hj).1 rfl⟩
  refine ⟨⟨?_, ?_, fun j hj => ?_, fun j hj => ?_⟩, ⟨ha.rq, ha.pp, ha.pq, ha.p2, ha.q2, fun j hj b hb => ?_, fun i hi j hj hij b hb => ?_, ha.lo⟩⟩
  · unfold Row2; rw [row gr h.r.lt (nb gr (.inl rfl)).1 (nb gr (.inl rfl)).2]; exact h.r
  · unfold Row2; rw [row gq h.s.lt (nb gq (.inr (.inl rfl))).1 (nb gq (.inr (.inl rfl))).2]; exact h.s
  · unfold Runs; rw [row (p j) (h.runs j hj).lt (nb _ (.inr (.inr ⟨j, hj, rfl⟩))).1 (nb _ (.inr (.inr ⟨j, hj, rfl⟩))).2]; exact h.runs j hj
  · by_cases e : j = k
    · subst e; rw [upd_same, upd_same]; exact hr
    · rw [upd_other _ _ _ _ e, upd_other _ _ _ _ e]
      refine ⟨?_, (h.refs j hj).2.kept2 hg (fun b hb e2 => ?_) (fun b hb e2 => ha.v2 j hj k hk e b hb e2)⟩
      · rw [row (q j) (h.refs j hj).lt (ha.q2 j hj k hk e) (fun e2 => ((ha.vb k hk _ e2).2.2 j hj).2 rfl)]; exact (h.refs j hj).1
      · exact ((ha.vb j hj b hb).2.2 k hk).2 (Option.some.inj e2).symm
  · by_cases e : j = k
    · subst e
      rw [upd_same] at hb
      rcases hu b hb with h1 | h1
      · exact ha.vb j hj b h1
      · have g1 := h.r.lt
        have g2 := h.s.lt
        refine ⟨by omega, by omega, fun i hi => ?_⟩
        have g3 := (h.runs i hi).lt
        have g4 := (h.refs i hi).lt
        exact ⟨by omega, by omega⟩
    · rw [upd_other _ _ _ _ e] at hb
      exact ha.vb j hj b hb
  · by_cases ei : i = k
    · subst ei
      rw [upd_same] at hb
      rw [upd_other _ _ _ _ (fun x => hij x.symm)]
      rcases hu b hb with h1 | h1
      · exact ha.v2 i hi j hj hij b h1
      · intro e2; have := (Base.blk (h.refs j hj).2 b e2).2; omega
    · rw [upd_other _ _ _ _ ei] at hb
      by_cases ej : j = k
      · subst ej
        rw [upd_same]
        intro e2
        rcases hu b e2 with h1 | h1
        · exact ha.v2 j hj i hi (fun x => hij x.symm) b h1 hb
        · have := (Base.blk (h.refs i hi).2 b hb).2; omega
      · rw [upd_other _ _ _ _ ej]
        exact ha.v2 i hi j hj hij b hb
theorem sum_none : sum [] = BitVec.ofNat 32 0 := by decide
/-- A new sum of the program's in the place k. -/
theorem St.newR {w w1 : World} {base gr gq k g : Nat} {p q : Nat → Nat} {v : Nat → Value} {X Y : Nat → List (BitVec 8)} (h : St w base gr gq p q v X Y) (ha : Apart base gr gq p q v) (hk : k < 2) (hb : Below w.heap.size w w1) (hg : g = w.heap.size) (hbs : base ≤ w.heap.size)
    (hr : Runs w1 g (BitVec.ofNat 32 0) 0) : St (w1.setCell ⟨gr, k, none⟩ (ptr g)) base gr gq (upd p k g) q v (upd X k []) Y ∧ Apart base gr gq (upd p k g) q v := by
  have h1 := h.below hb
  have hc : w1.grownBy (w1.setCell ⟨gr, k, none⟩ (ptr g)) (some gr) := grown_cell (World.grownBy.refl _ _) k _
  have l1 := h.r.lt
  have l2 := h.s.lt
  refine ⟨⟨h1.r.put k g hk, h1.s.grown hc (fun e => ha.rq (Option.some.inj e)), fun j hj => ?_, fun j hj => ?_⟩, ⟨ha.rq, fun j hj => ?_, fun i hi j hj => ?_, fun i hi j hj hij => ?_, ha.q2, fun j hj b hv => ?_, ha.v2, ha.lo.1, ha.lo.2.1, fun j hj => ?_⟩⟩
  · by_cases e : j = k
    · subst e
      rw [upd_same, upd_same, sum_none]
      exact Runs.grown hr hc (fun e => by have := Option.some.inj e; omega)
    · rw [upd_other _ _ _ _ e, upd_other _ _ _ _ e]
      exact Runs.grown (h1.runs j hj) hc (fun e2 => (ha.pp j hj).1 (Option.some.inj e2).symm)
  · exact (h1.refs j hj).grown hc (fun e2 => (ha.pp j hj).2.2.1 (Option.some.inj e2).symm) (fun b hv e2 => (ha.vb j hj b hv).1 (Option.some.inj e2).symm)
  · by_cases e : j = k
    · subst e; rw [upd_same]; exact ⟨by omega, by omega, (ha.pp j hj).2.2⟩
    · rw [upd_other _ _ _ _ e]; exact ha.pp j hj
  · have := (h.refs j hj).lt
    by_cases e : i = k
    · subst e; rw [upd_same]; omega
    · rw [upd_other _ _ _ _ e]; exact ha.pq i hi j hj
  · have a1 := (h.runs i hi).lt
    have a2 := (h.runs j hj).lt
    by_cases e : i = k
    · subst e; rw [upd_same, upd_other _ _ _ _ (fun x => hij x.symm)]; omega
    · rw [upd_other _ _ _ _ e]
      by_cases e2 : j = k
      · subst e2; rw [upd_same]; omega
      · rw [upd_other _ _ _ _ e2]; exact ha.p2 i hi j hj hij
  · have a1 := (Base.blk (h.refs j hj).2 b hv).2
    obtain ⟨q1, q2, q3⟩ := ha.vb j hj b hv
    refine ⟨q1, q2, fun i hi => ⟨?_, (q3 i hi).2⟩⟩
    by_cases e : i = k
    · subst e; rw [upd_same]; omega
    · rw [upd_other _ _ _ _ e]; exact (q3 i hi).1
  · by_cases e : j = k
    · subst e; rw [upd_same]; exact ⟨by omega, (ha.lo.2.2 j hj).2⟩
    · rw [upd_other _ _ _ _ e]; exact ha.lo.2.2 j hj
/-- A new sum of the document's in the place k. -/
theorem St.newQ {w w1 : World} {base gr gq k g : Nat} {p q : Nat → Nat} {v : Nat → Value} {X Y : Nat → List (BitVec 8)} (h : St w base gr gq p q v X Y) (ha : Apart base gr gq p q v) (hk : k < 2) (hb : Below w.heap.size w w1) (hg : g = w.heap.size) (hbs : base ≤ w.heap.size)
    (hr : RefAt w1 base g (.slice none 0 0) []) : St (w1.setCell ⟨gq, k, none⟩ (ptr g)) base gr gq p (upd q k g) (upd v k (.slice none 0 0)) X (upd Y k []) ∧ Apart base gr gq p (upd q k g) (upd v k (.slice none 0 0)) := by
  have h1 := h.below hb
  have hc : w1.grownBy (w1.setCell ⟨gq, k, none⟩ (ptr g)) (some gq) := grown_cell (World.grownBy.refl _ _) k _
  have l1 := h.r.lt
  have l2 := h.s.lt
  have hnone : (Value.slice none 0 0).ownBlock = none := rfl
  refine ⟨⟨h1.r.grown hc (fun e => ha.rq (Option.some.inj e).symm), h1.s.put k g hk, fun j hj => ?_, fun j hj => ?_⟩, ⟨ha.rq, fun j hj => ?_, fun i hi j hj => ?_, ha.p2, fun i hi j hj hij => ?_, fun j hj b hv => ?_, fun i hi j hj hij b hv => ?_, ha.lo.1, ha.lo.2.1, fun j hj => ?_⟩⟩
  · exact Runs.grown (h1.runs j hj) hc (fun e2 => (ha.pp j hj).2.1 (Option.some.inj e2).symm)
  · by_cases e : j = k
    · subst e
      rw [upd_same, upd_same, upd_same]
      exact hr.grown hc (fun e => by have := Option.some.inj e; omega) (fun b hb => by rw [hnone] at hb; cases hb)
    · rw [upd_other _ _ _ _ e, upd_other _ _ _ _ e, upd_other _ _ _ _ e]
      exact (h1.refs j hj).grown hc (fun e2 => (ha.pp j hj).2.2.2 (Option.some.inj e2).symm) (fun b hv e2 => (ha.vb j hj b hv).2.1 (Option.some.inj e2).symm)
  · by_cases e : j = k
    · subst e; rw [upd_same]; exact ⟨(ha.pp j hj).1, (ha.pp j hj).2.1, by omega, by omega⟩
    · rw [upd_other _ _ _ _ e]; exact ha.pp j hj
  · have := (h.runs i hi).lt
    by_cases e : j = k
    · subst e; rw [upd_same]; omega
    · rw [upd_other _ _ _ _ e]; exact ha.pq i hi j hj
  · have a1 := (h.refs i hi).lt
    have a2 := (h.refs j hj).lt
    by_cases e : i = k
    · subst e; rw [upd_same, upd_other _ _ _ _ (fun x => hij x.symm)]; omega
    · rw [upd_other _ _ _ _ e]
      by_cases e2 : j = k
      · subst e2; rw [upd_same]; omega
      · rw [upd_other _ _ _ _ e2]; exact ha.q2 i hi j hj hij
  · by_cases e : j = k
    · subst e; rw [upd_same] at hv; rw [hnone] at hv; cases hv
    · rw [upd_other _ _ _ _ e] at hv
      have a1 := (Base.blk (h.refs j hj).2 b hv).2
      obtain ⟨q1, q2, q3⟩ := ha.vb j hj b hv
      refine ⟨q1, q2, fun i hi => ⟨(q3 i hi).1, ?_⟩⟩
      by_cases e2 : i = k
      · subst e2; rw [upd_same]; omega
      · rw [upd_other _ _ _ _ e2]; exact (q3 i hi).2
  · by_cases e : i = k
    · subst e; rw [upd_same] at hv; rw [hnone] at hv; cases hv
    · rw [upd_other _ _ _ _ e] at hv
      by_cases e2 : j = k
      · subst e2; rw [upd_same, hnone]; simp
      · rw [upd_other _ _ _ _ e2]; exact ha.v2 i hi j hj hij b hv
  · by_cases e : j = k
    · subst e; rw [upd_same]; exact ⟨(ha.lo.2.2 j hj).1, by omega⟩
    · rw [upd_other _ _ _ _ e]; exact ha.lo.2.2 j hj
end Go.Proofs.Ytpoholpedkikhab.Run
