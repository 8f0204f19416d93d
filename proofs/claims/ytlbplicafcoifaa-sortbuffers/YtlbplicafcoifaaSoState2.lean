/-
  What each act leaves of the state.
-/
import Derived.Test.YtlbplicafcoifaaSoState
namespace Go.Proofs.Ytlbplicafcoifaa.So
open Go.ChangeShapes Go.WideShapes Go.ChangeAt Go.RowKit
open Go.Proofs.Ytlbplicafcoifaa.Base
set_option linter.unusedVariables false
/-- Some things have turned. -/
theorem Good.turns {lo tA tB : Nat} {s s' : St} {w w' : World} (h : Good lo tA tB s w) (X : Nat → Prop) (ht : ∀ y, ¬ X y → ∀ i, s.F y i → w'.heap[i]? = w.heap[i]?) (hF : ∀ y, ¬ X y → s'.F y = s.F y) (hP : ∀ y, ¬ X y → s'.P lo tA tB y = s.P lo tA tB y)
    (hx : ∀ x, X x → s'.P lo tA tB x w') (hf : ∀ x, X x → ∀ i, s'.F x i → ∀ y, ¬ X y → ¬ s.F y i) (hap : ∀ x y, X x → X y → x ≠ y → ∀ i, s'.F x i → ¬ s'.F y i) : Good lo tA tB s' w' := by
  refine ⟨fun y => ?_, fun y z hyz i h1 h2 => ?_⟩
  · by_cases e : X y
    · exact hx y e
    · rw [hP y e]
      exact St.P_same y (h.ok y) (ht y e)
  · by_cases e : X y
    · by_cases e2 : X z
      · exact hap y z e e2 hyz i h1 h2
      · rw [hF z e2] at h2
        exact hf y e i h1 z e2 h2
    · rw [hF y e] at h1
      by_cases e2 : X z
      · exact hf z e2 i h2 y e h1
      · rw [hF z e2] at h2
        exact h.ap y z hyz i h1 h2
/-- A list that is none of the things. -/
def Loose (s : St) (v : Value) : Prop := ∀ y i, s.F y i → v.ownBlock ≠ some i
/-- What is none of the things has turned. -/
theorem Good.beside {lo tA tB : Nat} {s : St} {w w' : World} (h : Good lo tA tB s w) (S : Nat → Prop) (ht : Turn w w' S) (hS : ∀ y i, s.F y i → ¬ S i) : Good lo tA tB s w' :=
  ⟨fun y => St.P_same y (h.ok y) (fun i hi => ht.block i (St.P_lt y (h.ok y) i hi).2 (hS y i hi)), h.ap⟩
theorem left_F (s : St) (x : Nat) (hx : x = 0 ∨ x = 1) (f : Bf) (y : Nat) (hy : y ≠ x + 2) : ({ s with l := up s.l x f } : St).F y = s.F y := by
  rcases hx with rfl | rfl
  · match y, hy with
    | 0, _ | 1, _ | 3, _ | 4, _ | 5, _ | 6, _ | j + 7, _ => rfl
    | 2, hy => exact absurd rfl hy
  · match y, hy with
    | 0, _ | 1, _ | 2, _ | 4, _ | 5, _ | 6, _ | j + 7, _ => rfl
    | 3, hy => exact absurd rfl hy
theorem right_F (s : St) (x : Nat) (hx : x = 0 ∨ x = 1) (f : Bf) (y : Nat) (hy : y ≠ x + 4) : ({ s with r := up s.r x f } : St).F y = s.F y := by
  rcases hx with rfl | rfl
  · match y, hy with
    | 0, _ | 1, _ | 2, _ | 3, _ | 5, _ | 6, _ | j + 7, _ => rfl
    | 4, hy => exact absurd rfl hy
  · match y, hy with
    | 0, _ | 1, _ | 2, _ | 3, _ | 4, _ | 6, _ | j + 7, _ => rfl
    | 5, hy => exact absurd rfl hy
theorem left_F0 (s : St) (x : Nat) (hx : x = 0 ∨ x = 1) (i : Nat) : s.F (x + 2) i = (s.l x).h.foot i := by rcases hx with rfl | rfl <;> rfl
theorem right_F0 (s : St) (x : Nat) (hx : x = 0 ∨ x = 1) (i : Nat) : s.F (x + 4) i = (s.r x).h.foot i := by rcases hx with rfl | rfl <;> rfl
theorem left_P (s : St) (lo tA tB : Nat) (x : Nat) (hx : x = 0 ∨ x = 1) (f : Bf) (y : Nat) (hy : y ≠ x + 2) (h0 : y ≠ 0) : ({ s with l := up s.l x f } : St).P lo tA tB y = s.P lo tA tB y := by
  rcases hx with rfl | rfl
  · match y, hy, h0 with
    | 1, _, _ | 3, _, _ | 4, _, _ | 5, _, _ | 6, _, _ | j + 7, _, _ => rfl
    | 0, _, h0 => exact absurd rfl h0
    | 2, hy, _ => exact absurd rfl hy
  · match y, hy, h0 with
    | 1, _, _ | 2, _, _ | 4, _, _ | 5, _, _ | 6, _, _ | j + 7, _, _ => rfl
    | 0, _, h0 => exact absurd rfl h0
    | 3, hy, _ => exact absurd rfl hy
theorem right_P (s : St) (lo tA tB : Nat) (x : Nat) (hx : x = 0 ∨ x = 1) (f : Bf) (y : Nat) (hy : y ≠ x + 4) (h0 : y ≠ 1) : ({ s with r := up s.r x f } : St).P lo tA tB y = s.P lo tA tB y := by
  rcases hx with rfl | rfl
  · match y, hy, h0 with
    | 0, _, _ | 2, _, _ | 3, _, _ | 5, _, _ | 6, _, _ | j + 7, _, _ => rfl
    | 1, _, h0 => exact absurd rfl h0
    | 4, hy, _ => exact absurd rfl hy
  · match y, hy, h0 with
    | 0, _, _ | 2, _, _ | 3, _, _ | 4, _, _ | 6, _, _ | j + 7, _, _ => rfl
    | 1, _, h0 => exact absurd rfl h0
    | 5, hy, _ => exact absurd rfl hy
/-- What Take told is none of the things any more. -/
theorem Good.loose {lo tA tB : Nat} {s : St} {w : World} (h : Good lo tA tB s w) (x : Nat) (hx : x = 0 ∨ x = 1) (v : Value) (nil : Bool) (rs : List Rec) (bud : Int) (hv : ∀ i, v.ownBlock = some i → ((s.l x).h.foot i ∨ w.heap.size ≤ i) ∧ (s.l x).h.b ≠ some i) :
    Loose { s with l := up s.l x ⟨⟨(s.l x).h.b, .slice none 0 0⟩, nil, rs, bud⟩ } v := by
  intro y i hy e
  obtain ⟨h1, h2⟩ := hv i e
  by_cases q : y = x + 2
  · subst q
    rw [left_F0 _ x hx] at hy
    simp only [up_same] at hy
    rcases hy with hy | hy
    · exact h2 hy
    · cases hy
  · rw [left_F s x hx _ y q] at hy
    rcases h1 with h1 | h1
    · rw [← left_F0 s x hx] at h1
      exact h.ap y (x + 2) q i hy h1
    · have := (St.P_lt y (h.ok y) i hy).2
      omega
theorem Loose.right {lo tA tB : Nat} {s : St} {w : World} (h : Good lo tA tB s w) {v : Value} (hv : Loose s v) (hl : ∀ i, v.ownBlock = some i → i < w.heap.size) (x : Nat) (hx : x = 0 ∨ x = 1) (f : Bf) (hf : ∀ i, f.h.foot i → (s.r x).h.foot i ∨ w.heap.size ≤ i) :
    Loose { s with r := up s.r x f } v := by
  intro y i hy e
  by_cases q : y = x + 4
  · subst q
    rw [right_F0 _ x hx] at hy
    simp only [up_same] at hy
    rcases hf i hy with q | q
    · exact hv (x + 4) i (by rw [right_F0 s x hx]; exact q) e
    · have := hl i e; omega
  · rw [right_F s x hx _ y q] at hy
    exact hv y i hy e
/-- Another buffer is laid into the array. -/
theorem Good.setl {lo tA tB : Nat} {s : St} {w : World} (h : Good lo tA tB s w) (x : Nat) (hx : x = 0 ∨ x = 1) (f : Bf) (hl : LH w lo f.h f.nil f.rs f.bud) (hf : ∀ y i, s.F y i → ¬ f.h.foot i) :
    Good lo tA tB { s with l := up s.l x f } (w.setCell ⟨s.ga, x, none⟩ f.h.ptr) := by
  have hs : ∀ i, i ≠ s.ga → (w.setCell ⟨s.ga, x, none⟩ f.h.ptr).heap[i]? = w.heap[i]? := fun i hi => Below.heap_setCell _ _ _ _ hi
  have h0 := h.ok 0
  refine h.turns (fun y => y = 0 ∨ y = x + 2) (fun y hy i hi => hs i (fun e => h.ap y 0 (fun e2 => hy (.inl e2)) i hi e.symm)) (fun y hy => left_F s x hx f y (fun e => hy (.inr e))) (fun y hy => left_P s lo tA tB x hx f y (fun e => hy (.inr e)) (fun e => hy (.inl e))) (fun y hy => ?_) (fun y hy i hi z hz hz2 => ?_) (fun y z hy hz hyz i h1 h2 => ?_)
  · rcases hy with rfl | rfl
    · refine ⟨h0.1, ?_⟩
      show (w.setCell ⟨s.ga, x, none⟩ f.h.ptr).heap[s.ga]? = _
      rw [heap_setCell_same _ _ _ _ _ _ h0.2]
      rcases hx with rfl | rfl <;> rfl
    · have q : LH (w.setCell ⟨s.ga, x, none⟩ f.h.ptr) lo f.h f.nil f.rs f.bud := hl.same (fun i hi => hs i (fun e => hf 0 i e.symm hi))
      rcases hx with rfl | rfl <;> exact q
  · rcases hy with rfl | rfl
    · exact h.ap 0 z (fun e => hz (.inl e.symm)) i hi hz2
    · rw [left_F0 _ x hx] at hi
      simp only [up_same] at hi
      exact hf z i hz2 hi
  · rcases hy with rfl | rfl
    · rcases hz with rfl | rfl
      · exact hyz rfl
      · rw [left_F0 _ x hx] at h2
        simp only [up_same] at h2
        exact hf 0 i h1 h2
    · rcases hz with rfl | rfl
      · rw [left_F0 _ x hx] at h1
        simp only [up_same] at h1
        exact hf 0 i h2 h1
      · exact hyz rfl
theorem Good.setr {lo tA tB : Nat} {s : St} {w : World} (h : Good lo tA tB s w) (x : Nat) (hx : x = 0 ∨ x = 1) (f : Bf) (hl : RH w lo f.h f.nil f.rs f.bud) (hf : ∀ y i, s.F y i → ¬ f.h.foot i) :
    Good lo tA tB { s with r := up s.r x f } (w.setCell ⟨s.gb, x, none⟩ f.h.ptr) := by
  have hs : ∀ i, i ≠ s.gb → (w.setCell ⟨s.gb, x, none⟩ f.h.ptr).heap[i]? = w.heap[i]? := fun i hi => Below.heap_setCell _ _ _ _ hi
  have h0 := h.ok 1
  refine h.turns (fun y => y = 1 ∨ y = x + 4) (fun y hy i hi => hs i (fun e => h.ap y 1 (fun e2 => hy (.inl e2)) i hi e.symm)) (fun y hy => right_F s x hx f y (fun e => hy (.inr e))) (fun y hy => right_P s lo tA tB x hx f y (fun e => hy (.inr e)) (fun e => hy (.inl e))) (fun y hy => ?_) (fun y hy i hi z hz hz2 => ?_) (fun y z hy hz hyz i h1 h2 => ?_)
  · rcases hy with rfl | rfl
    · refine ⟨h0.1, ?_⟩
      show (w.setCell ⟨s.gb, x, none⟩ f.h.ptr).heap[s.gb]? = _
      rw [heap_setCell_same _ _ _ _ _ _ h0.2]
      rcases hx with rfl | rfl <;> rfl
    · have q : RH (w.setCell ⟨s.gb, x, none⟩ f.h.ptr) lo f.h f.nil f.rs f.bud := hl.same (fun i hi => hs i (fun e => hf 1 i e.symm hi))
      rcases hx with rfl | rfl <;> exact q
  · rcases hy with rfl | rfl
    · exact h.ap 1 z (fun e => hz (.inl e.symm)) i hi hz2
    · rw [right_F0 _ x hx] at hi
      simp only [up_same] at hi
      exact hf z i hz2 hi
  · rcases hy with rfl | rfl
    · rcases hz with rfl | rfl
      · exact hyz rfl
      · rw [right_F0 _ x hx] at h2
        simp only [up_same] at h2
        exact hf 1 i h1 h2
    · rcases hz with rfl | rfl
      · rw [right_F0 _ x hx] at h1
        simp only [up_same] at h1
        exact hf 1 i h2 h1
      · exact hyz rfl
/-- A list is told: it is a thing from now on. -/
theorem Good.tell {lo tA tB : Nat} {s : St} {w w' : World} (h : Good lo tA tB s w) (t : Tl) (tv : Value) (hl : Loose s t.v) (how : t.ok w lo) (hg : w.grownBy w' s.tv.ownBlock) (hrow : w'.ownsRow lo 42 2 tv (s.ts.length + 1) (tvals (s.ts ++ [t]))) (hpl : ∀ i, tv.ownBlock = some i → s.tv.ownBlock = some i ∨ w.heap.size ≤ i) :
    Good lo tA tB { s with tv := tv, ts := s.ts ++ [t] } w' := by
  have g1 : ∀ j, j ≠ s.ts.length → (s.ts ++ [t]).getD j tl0 = s.ts.getD j tl0 := fun j hj => by
    rw [List.getD_eq_getElem?_getD, List.getD_eq_getElem?_getD]
    by_cases q : j < s.ts.length
    · rw [List.getElem?_append_left q]
    · rw [List.getElem?_eq_none (by rw [List.length_append, List.length_singleton]; omega), List.getElem?_eq_none (by omega)]
  have g2 : (s.ts ++ [t]).getD s.ts.length tl0 = t := by
    rw [List.getD_eq_getElem?_getD, List.getElem?_append_right (Nat.le_refl _)]
    simp
  have how' : t.ok w' lo := by
    unfold Tl.ok at how ⊢
    exact how.same (fun i hi => hg.block i (how.blk i hi).2 (fun e => hl 6 i e.symm hi))
  refine h.turns (fun y => y = 6 ∨ y = s.ts.length + 7) (fun y hy i hi => hg.block i (St.P_lt y (h.ok y) i hi).2 (fun e => h.ap y 6 (fun e2 => hy (.inl e2)) i hi e.symm)) (fun y hy => ?_) (fun y hy => ?_) (fun y hy => ?_) (fun y hy i hi z hz hz2 => ?_) (fun y z hy hz hyz i h1 h2 => ?_)
  · match y, hy with
    | 0, _ | 1, _ | 2, _ | 3, _ | 4, _ | 5, _ => rfl
    | 6, hy => exact absurd (.inl rfl) hy
    | j + 7, hy =>
      funext i
      show (((s.ts ++ [t]).getD j tl0).v.ownBlock = some i) = _
      rw [g1 j (fun e => hy (.inr (by rw [e])))]
      rfl
  · match y, hy with
    | 0, _ | 1, _ | 2, _ | 3, _ | 4, _ | 5, _ => rfl
    | 6, hy => exact absurd (.inl rfl) hy
    | j + 7, hy =>
      funext v
      show (((s.ts ++ [t]).getD j tl0).ok v lo) = _
      rw [g1 j (fun e => hy (.inr (by rw [e])))]
      rfl
  · rcases hy with rfl | rfl
    · show w'.ownsRow lo _ 2 tv (s.ts ++ [t]).length (tvals (s.ts ++ [t]))
      rw [List.length_append, List.length_singleton]
      exact hrow
    · show ((s.ts ++ [t]).getD s.ts.length tl0).ok w' lo
      rw [g2]
      exact how'
  · rcases hy with rfl | rfl
    · rcases hpl i hi with q | q
      · exact h.ap 6 z (fun e => hz (.inl e.symm)) i q hz2
      · have := (St.P_lt z (h.ok z) i hz2).2; omega
    · have e : ((s.ts ++ [t]).getD s.ts.length tl0).v.ownBlock = some i := hi
      rw [g2] at e
      exact hl z i hz2 e
  · have q : ∀ i, tv.ownBlock = some i → ((s.ts ++ [t]).getD s.ts.length tl0).v.ownBlock = some i → False := fun i e1 e2 => by
      rw [g2] at e2
      rcases hpl i e1 with q | q
      · exact hl 6 i q e2
      · unfold Tl.ok at how
        have := (how.blk i e2).2
        omega
    rcases hy with rfl | rfl
    · rcases hz with rfl | rfl
      · exact hyz rfl
      · exact q i h1 h2
    · rcases hz with rfl | rfl
      · exact q i h2 h1
      · exact hyz rfl
/-- The told lists hold their marks yet. -/
theorem Good.whole {lo tA tB : Nat} {s : St} {w w' : World} (h : Good lo tA tB s w) (hk : KT w w' s.ts.length s.ts) (ho : ∀ j, j < s.ts.length → (s.ts.getD j tl0).ok w' lo) : Good lo tA tB s w' := by
  refine h.turns (fun y => ∃ j, j < s.ts.length ∧ y = j + 7) (fun y hy i hi => hk.block i (St.P_lt y (h.ok y) i hi).2 (fun j hj e => h.ap y (j + 7) (fun e2 => hy ⟨j, hj, e2⟩) i hi e)) (fun _ _ => rfl) (fun _ _ => rfl) (fun y hy => ?_) (fun y hy i hi z hz hz2 => ?_) (fun y z hy hz hyz i h1 h2 => h.ap y z hyz i h1 h2)
  · obtain ⟨j, hj, rfl⟩ := hy
    exact ho j hj
  · exact h.ap y z (fun e => hz (e ▸ hy)) i hi hz2
end Go.Proofs.Ytlbplicafcoifaa.So
