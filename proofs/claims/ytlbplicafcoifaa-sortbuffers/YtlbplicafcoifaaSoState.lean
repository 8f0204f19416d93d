/-
  Two buffers on each side, and the lists that were told: all apart, and what an act leaves of it.
-/
import Derived.Test.YtlbplicafcoifaaSoHalf
namespace Go.Proofs.Ytlbplicafcoifaa.So
open Go.ChangeShapes Go.WideShapes Go.ChangeAt Go.RowKit
open Go.Proofs.Ytlbplicafcoifaa.Base
set_option linter.unusedVariables false
/-- A buffer, and what it holds. -/
structure Bf where
  h : Hb
  nil : Bool
  rs : List Rec
  bud : Int
/-- All that an act may reach. -/
structure St where
  ga : Nat
  gb : Nat
  l : Nat → Bf
  r : Nat → Bf
  tv : Value
  ts : List Tl
def up {α : Type} (f : Nat → α) (x : Nat) (v : α) : Nat → α := fun y => if y = x then v else f y
theorem up_same {α : Type} (f : Nat → α) (x : Nat) (v : α) : up f x v x = v := by unfold up; simp
theorem up_other {α : Type} (f : Nat → α) (x y : Nat) (v : α) (h : y ≠ x) : up f x v y = f y := by unfold up; simp [h]
def tvals (ts : List Tl) : List Value := ts.flatMap fun t => [t.v, .int .i64 t.mark]
/-- The blocks of each thing. -/
def St.F (s : St) : Nat → Nat → Prop
  | 0, i => s.ga = i
  | 1, i => s.gb = i
  | 2, i => (s.l 0).h.foot i
  | 3, i => (s.l 1).h.foot i
  | 4, i => (s.r 0).h.foot i
  | 5, i => (s.r 1).h.foot i
  | 6, i => s.tv.ownBlock = some i
  | j + 7, i => (s.ts.getD j tl0).v.ownBlock = some i
/-- What each thing is. -/
def St.P (s : St) (lo tA tB : Nat) : Nat → World → Prop
  | 0, w => lo ≤ s.ga ∧ w.heap[s.ga]? = some (.cells #[(s.l 0).h.ptr, (s.l 1).h.ptr] tA)
  | 1, w => lo ≤ s.gb ∧ w.heap[s.gb]? = some (.cells #[(s.r 0).h.ptr, (s.r 1).h.ptr] tB)
  | 2, w => LH w lo (s.l 0).h (s.l 0).nil (s.l 0).rs (s.l 0).bud
  | 3, w => LH w lo (s.l 1).h (s.l 1).nil (s.l 1).rs (s.l 1).bud
  | 4, w => RH w lo (s.r 0).h (s.r 0).nil (s.r 0).rs (s.r 0).bud
  | 5, w => RH w lo (s.r 1).h (s.r 1).nil (s.r 1).rs (s.r 1).bud
  | 6, w => w.ownsRow lo 42 2 s.tv s.ts.length (tvals s.ts)
  | j + 7, w => (s.ts.getD j tl0).ok w lo
theorem row_same {w w' : World} {base ty sz n : Nat} {v : Value} {xs : List Value} (h : w.ownsRow base ty sz v n xs) (hb : ∀ i, v.ownBlock = some i → w'.heap[i]? = w.heap[i]?) : w'.ownsRow base ty sz v n xs := by
  obtain ⟨h1, h2⟩ := h
  refine ⟨h1, ?_⟩
  rcases h2 with h2 | ⟨g, cap, cur, e1, e2, e3, e4⟩
  · exact .inl h2
  · exact .inr ⟨g, cap, cur, e1, e2, (hb g (by rw [e1]; rfl)).trans e3, e4⟩
theorem row_blk {w : World} {base ty sz n : Nat} {v : Value} {xs : List Value} (h : w.ownsRow base ty sz v n xs) : ∀ i, v.ownBlock = some i → base ≤ i ∧ i < w.heap.size := by
  intro i hi
  rcases h.2 with ⟨h2, _⟩ | ⟨g, cap, cur, e1, e2, e3, e4⟩
  · rw [h2] at hi; cases hi
  · rw [e1] at hi
    obtain rfl : g = i := Option.some.inj hi
    exact ⟨e2, lt_row e3⟩
theorem St.P_same {s : St} {lo tA tB : Nat} {w w' : World} (y : Nat) (h : s.P lo tA tB y w) (e : ∀ i, s.F y i → w'.heap[i]? = w.heap[i]?) : s.P lo tA tB y w' := by
  match y with
  | 0 => exact ⟨h.1, (e _ rfl).trans h.2⟩
  | 1 => exact ⟨h.1, (e _ rfl).trans h.2⟩
  | 2 => exact LH.same h e
  | 3 => exact LH.same h e
  | 4 => exact RH.same h e
  | 5 => exact RH.same h e
  | 6 => exact row_same h e
  | j + 7 => exact OwnR.same h e
theorem St.P_lt {s : St} {lo tA tB : Nat} {w : World} (y : Nat) (h : s.P lo tA tB y w) (i : Nat) (hi : s.F y i) : lo ≤ i ∧ i < w.heap.size := by
  match y with
  | 0 => obtain rfl : s.ga = i := hi; exact ⟨h.1, lt_row h.2⟩
  | 1 => obtain rfl : s.gb = i := hi; exact ⟨h.1, lt_row h.2⟩
  | 2 => exact LH.lt h i hi
  | 3 => exact LH.lt h i hi
  | 4 => exact RH.lt h i hi
  | 5 => exact RH.lt h i hi
  | 6 => exact row_blk h i hi
  | j + 7 => exact OwnR.blk h i hi
/-- All stand, apart from each other. -/
structure Good (lo tA tB : Nat) (s : St) (w : World) : Prop where
  ok : ∀ y, s.P lo tA tB y w
  ap : ∀ x y, x ≠ y → ∀ i, s.F x i → ¬ s.F y i
theorem Good.below {lo tA tB : Nat} {s : St} {w w' : World} (h : Good lo tA tB s w) (hb : Below w.heap.size w w') : Good lo tA tB s w' :=
  ⟨fun y => St.P_same y (h.ok y) (fun i hi => hb.block i (St.P_lt y (h.ok y) i hi).2), h.ap⟩
/-- One thing has turned. -/
theorem Good.turn {lo tA tB : Nat} {s s' : St} {w w' : World} (h : Good lo tA tB s w) (x : Nat) (ht : Turn w w' (s.F x)) (hF : ∀ y, y ≠ x → s'.F y = s.F y) (hP : ∀ y, y ≠ x → s'.P lo tA tB y = s.P lo tA tB y)
    (hx : s'.P lo tA tB x w') (hf : ∀ i, s'.F x i → s.F x i ∨ w.heap.size ≤ i) : Good lo tA tB s' w' := by
  refine ⟨fun y => ?_, fun y z hyz i h1 h2 => ?_⟩
  · by_cases e : y = x
    · subst e; exact hx
    · rw [hP y e]
      exact St.P_same y (h.ok y) (fun i hi => ht.block i (St.P_lt y (h.ok y) i hi).2 (fun q => h.ap y x e i hi q))
  · by_cases e : y = x
    · subst e
      rw [hF z (fun e => hyz e.symm)] at h2
      rcases hf i h1 with q | q
      · exact h.ap y z hyz i q h2
      · have := (St.P_lt z (h.ok z) i h2).2; omega
    · rw [hF y e] at h1
      by_cases e2 : z = x
      · subst e2
        rcases hf i h2 with q | q
        · exact h.ap y z hyz i h1 q
        · have := (St.P_lt y (h.ok y) i h1).2; omega
      · rw [hF z e2] at h2
        exact h.ap y z hyz i h1 h2
/-- A pointer stays where its buffer stays. -/
theorem ptr_eq {h h' : Hb} (e : h'.b = h.b) : h'.ptr = h.ptr := by unfold Hb.ptr; rw [e]
theorem Good.left {lo tA tB : Nat} {s : St} {w w' : World} (h : Good lo tA tB s w) (x : Nat) (hx : x = 0 ∨ x = 1) (f : Bf) (ht : Turn w w' (s.l x).h.foot) (hb : f.h.b = (s.l x).h.b) (hl : LH w' lo f.h f.nil f.rs f.bud) (hf : ∀ i, f.h.foot i → (s.l x).h.foot i ∨ w.heap.size ≤ i) :
    Good lo tA tB { s with l := up s.l x f } w' := by
  rcases hx with rfl | rfl
  · refine h.turn 2 ht (fun y hy => ?_) (fun y hy => ?_) hl hf
    · match y, hy with
      | 0, _ | 1, _ | 3, _ | 4, _ | 5, _ | 6, _ | j + 7, _ => rfl
      | 2, hy => exact absurd rfl hy
    · match y, hy with
      | 0, _ => funext v; show (_ ∧ v.heap[s.ga]? = some (.cells #[f.h.ptr, (s.l 1).h.ptr] tA)) = _; rw [ptr_eq hb]; rfl
      | 1, _ | 3, _ | 4, _ | 5, _ | 6, _ | j + 7, _ => rfl
      | 2, hy => exact absurd rfl hy
  · refine h.turn 3 ht (fun y hy => ?_) (fun y hy => ?_) hl hf
    · match y, hy with
      | 0, _ | 1, _ | 2, _ | 4, _ | 5, _ | 6, _ | j + 7, _ => rfl
      | 3, hy => exact absurd rfl hy
    · match y, hy with
      | 0, _ => funext v; show (_ ∧ v.heap[s.ga]? = some (.cells #[(s.l 0).h.ptr, f.h.ptr] tA)) = _; rw [ptr_eq hb]; rfl
      | 1, _ | 2, _ | 4, _ | 5, _ | 6, _ | j + 7, _ => rfl
      | 3, hy => exact absurd rfl hy
theorem Good.right {lo tA tB : Nat} {s : St} {w w' : World} (h : Good lo tA tB s w) (x : Nat) (hx : x = 0 ∨ x = 1) (f : Bf) (ht : Turn w w' (s.r x).h.foot) (hb : f.h.b = (s.r x).h.b) (hl : RH w' lo f.h f.nil f.rs f.bud) (hf : ∀ i, f.h.foot i → (s.r x).h.foot i ∨ w.heap.size ≤ i) :
    Good lo tA tB { s with r := up s.r x f } w' := by
  rcases hx with rfl | rfl
  · refine h.turn 4 ht (fun y hy => ?_) (fun y hy => ?_) hl hf
    · match y, hy with
      | 0, _ | 1, _ | 2, _ | 3, _ | 5, _ | 6, _ | j + 7, _ => rfl
      | 4, hy => exact absurd rfl hy
    · match y, hy with
      | 1, _ => funext v; show (_ ∧ v.heap[s.gb]? = some (.cells #[f.h.ptr, (s.r 1).h.ptr] tB)) = _; rw [ptr_eq hb]; rfl
      | 0, _ | 2, _ | 3, _ | 5, _ | 6, _ | j + 7, _ => rfl
      | 4, hy => exact absurd rfl hy
  · refine h.turn 5 ht (fun y hy => ?_) (fun y hy => ?_) hl hf
    · match y, hy with
      | 0, _ | 1, _ | 2, _ | 3, _ | 4, _ | 6, _ | j + 7, _ => rfl
      | 5, hy => exact absurd rfl hy
    · match y, hy with
      | 1, _ => funext v; show (_ ∧ v.heap[s.gb]? = some (.cells #[(s.r 0).h.ptr, f.h.ptr] tB)) = _; rw [ptr_eq hb]; rfl
      | 0, _ | 2, _ | 3, _ | 4, _ | 6, _ | j + 7, _ => rfl
      | 5, hy => exact absurd rfl hy
end Go.Proofs.Ytlbplicafcoifaa.So
