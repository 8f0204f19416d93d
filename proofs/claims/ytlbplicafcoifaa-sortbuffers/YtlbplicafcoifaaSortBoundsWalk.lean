/-
  SortBounds: records are added one by one, with a Take whenever there is no room.
-/
import Derived.Test.YtlbplicafcoifaaSoAdd
import Derived.Test.YtlbplicafcoifaaSoTake
import Derived.Test.YtlbplicafcoifaaSortMergesWalk
namespace Go.Proofs.Ytlbplicafcoifaa.So
open Go.ChangeShapes Go.WideShapes Go.ChangeAt Go.RowKit
open Go.Proofs.Ytlbplicafcoifaa.Base
set_option linter.unusedVariables false
def sumC (P : List Rec) : Int := (P.map costR).sum
theorem sumC_nil : sumC [] = 0 := rfl
theorem sumC_snoc (P : List Rec) (r : Rec) : sumC (P ++ [r]) = sumC P + costR r := by
  unfold sumC; rw [List.map_append, List.sum_append]; simp
/-- Sizes within reach. -/
def Fit (rs : List Rec) : Prop := ∀ r ∈ rs, r.k.size ≤ 140737488355328 ∧ r.v.size ≤ 140737488355328
theorem Fit.getD {rs : List Rec} (h : Fit rs) (j : Nat) : (rs.getD j rec0).k.size ≤ 140737488355328 ∧ (rs.getD j rec0).v.size ≤ 140737488355328 := by
  rw [List.getD_eq_getElem?_getD]
  cases hq : rs[j]? with
  | none => exact ⟨by decide, by decide⟩
  | some r => exact h r (List.mem_of_getElem? hq)
theorem Fit.fine {rs : List Rec} (h : Fit rs) : Fine rs := fun r hr => by have := h r hr; exact ⟨by omega, by omega⟩
theorem fine_take {rs D P : List Rec} {i : Nat} (h : Fine rs) (e : D ++ P = rs.take i) : Fine D ∧ Fine P := by
  have h1 : ∀ r ∈ D ++ P, r ∈ rs := fun r hr => by rw [e] at hr; exact List.mem_of_mem_take hr
  exact ⟨fun r hr => h r (h1 r (List.mem_append_left _ hr)), fun r hr => h r (h1 r (List.mem_append_right _ hr))⟩
/-- What holds between the rounds: D has been taken, P lies in the buffer. -/
structure BI (w0 wr : World) (b base : Nat) (most : Int) (va v : Value) (D P : List Rec) : Prop where
  all : OwnR wr base va (isort D)
  buf : BF wr b v (sumC P) most
  lst : OwnR wr base v P
  apart : ∀ j, v.ownBlock = some j → va.ownBlock ≠ some j
  bel : Below w0.heap.size w0 wr
  low : w0.heap.size ≤ b ∧ b < base ∧ w0.heap.size ≤ base ∧ base ≤ wr.heap.size
  sum : 0 ≤ sumC P ∧ sumC P ≤ 562949953425567
theorem BI.below {w0 wr w' : World} {b base : Nat} {most : Int} {va v : Value} {D P : List Rec} (h : BI w0 wr b base most va v D P) (hb : Below wr.heap.size wr w') : BI w0 w' b base most va v D P :=
  ⟨h.all.below hb, h.buf.below hb, h.lst.below hb, h.apart, below_trans h.bel hb, ⟨h.low.1, h.low.2.1, h.low.2.2.1, Nat.le_trans h.low.2.2.2 hb.size⟩, h.sum⟩
/-- The world behind a call that turns the buffer's blocks alone. -/
theorem BI.turn {w0 wr w' : World} {b base : Nat} {most : Int} {va v : Value} {D P : List Rec} (h : BI w0 wr b base most va v D P) (hk : Kept2 wr w' (some b) v.ownBlock) : OwnR w' base va (isort D) ∧ Below w0.heap.size w0 w' ∧ base ≤ w'.heap.size := by
  refine ⟨h.all.same (fun i e => hk.block i (h.all.blk i e).2 (fun e2 => by have h1 := (h.all.blk i e).1; have h2 := Option.some.inj e2; have h3 := h.low.2.1; omega) (fun e2 => h.apart i e2.symm e)), ?_, Nat.le_trans h.low.2.2.2 hk.size⟩
  exact Kept2.below h.bel hk (fun i e => by have h2 := Option.some.inj e; have h3 := h.low.1; omega) (fun i e => by have h1 := (h.lst.blk i e).1; have h3 := h.low.2.2.1; omega)
theorem BI.added {w0 wr w' : World} {b base g c : Nat} {most : Int} {va v : Value} {D P : List Rec} {x : Rec} (h : BI w0 wr b base most va v D P) (hbf : BF w' b (.slice (some ⟨g, 0, none⟩) (P.length + 1) c) (sumC P + costR x) most) (ho : OwnR w' base (.slice (some ⟨g, 0, none⟩) (P.length + 1) c) (P ++ [x])) (hk : Kept2 wr w' (some b) v.ownBlock) (hloc : v.ownBlock = some g ∨ wr.heap.size ≤ g)
    (hc : 0 ≤ costR x ∧ costR x ≤ 281474976710688) (hs : P.length = 0 ∨ sumC P + costR x ≤ most) (hm : most ≤ 4255) : BI w0 w' b base most va (.slice (some ⟨g, 0, none⟩) (P.length + 1) c) D (P ++ [x]) := by
  obtain ⟨h1, h2, h3⟩ := h.turn hk
  refine ⟨h1, by rw [sumC_snoc]; exact hbf, ho, ?_, h2, ⟨h.low.1, h.low.2.1, h.low.2.2.1, h3⟩, ?_⟩
  · intro j e e2
    have e3 : g = j := Option.some.inj e
    subst e3
    rcases hloc with q | q
    · exact h.apart g q e2
    · have := (h.all.blk g e2).2; omega
  · rw [sumC_snoc]
    have h4 := h.sum
    rcases hs with q | q
    · have : P = [] := List.length_eq_zero_iff.1 q
      subst this
      rw [sumC_nil]
      omega
    · omega
/-- What was taken is merged. -/
theorem BI.taken {w0 wr w6 w7 : World} {b base : Nat} {most : Int} {va v v7 : Value} {D P : List Rec} (h : BI w0 wr b base most va v D P) (hk : Kept2 wr w6 (some b) v.ownBlock) (hbf : BF w6 b (.slice none 0 0) 0 most) (hb : Below w6.heap.size w6 w7) (ho : OwnR w7 w6.heap.size v7 (isort (D ++ P))) : BI w0 w7 b base most v7 (.slice none 0 0) (D ++ P) [] := by
  obtain ⟨h1, h2, h3⟩ := h.turn hk
  exact ⟨ho.base h3, hbf.below hb, own_nil _ _, (fun j e => by cases e), below_trans h2 hb, ⟨h.low.1, h.low.2.1, h.low.2.2.1, Nat.le_trans h3 hb.size⟩, ⟨by rw [sumC_nil]; omega, by rw [sumC_nil]; omega⟩⟩
theorem costR_bound (r : Rec) (hk : r.k.size ≤ 140737488355328) (hv : r.v.size ≤ 140737488355328) : 0 ≤ costR r ∧ costR r ≤ 281474976710688 := by
  unfold costR; exact ⟨by omega, by omega⟩
end Go.Proofs.Ytlbplicafcoifaa.So
