/-
  Sources of which one is broken.
-/
import Derived.Test.YtiepinhkmcjmkaaMeTidyC
import Derived.Test.YtiepinhkmcjmkaaMeBrk
import Derived.Test.YtiepinhkmcjmkaaMeFedU
import Derived.Laws.StructEq
namespace Go.Proofs.Ytiepinhkmcjmkaa.Me
open Go.ChangeShapes Go.WideShapes Go.ChangeAt Go.RowKit
open Go.Proofs.Ytiepinhkmcjmkaa.Base
set_option linter.unusedVariables false
/-- The sources as they are broken: the first i of them. -/
def brkS (us : List Src) (wh k : Nat) (j : Nat) : Src := if j = wh then ⟨(us.getD j src0).a, (us.getD j src0).c, (us.getD j src0).ts.take k, 77⟩ else us.getD j src0
def brkL (us : List Src) (wh k i : Nat) : List Src := (List.range i).map (brkS us wh k)
theorem length_brk (us : List Src) (wh k i : Nat) : (brkL us wh k i).length = i := by unfold brkL; simp
theorem getD_brk (us : List Src) (wh k i j : Nat) (h : j < i) : (brkL us wh k i).getD j src0 = brkS us wh k j := by
  unfold brkL
  rw [List.getD_eq_getElem?_getD, List.getElem?_map, List.getElem?_range h]
  rfl
theorem brk_succ (us : List Src) (wh k i : Nat) : brkL us wh k (i + 1) = brkL us wh k i ++ [brkS us wh k i] := by
  unfold brkL
  rw [List.range_succ, List.map_append]
  rfl
theorem brk_of (us : List Src) (wh k : Nat) (hw : wh < us.length) (hk : k ≤ (us.getD wh src0).ts.length) : Brk (plays us) (plays (brkL us wh k us.length)) us.length wh k := by
  refine ⟨hw, fun j hj e => ?_, ?_, ?_, hk⟩
  · unfold plays
    rw [getD_brk _ _ _ _ _ hj]
    unfold brkS
    rw [if_neg e]
    exact ⟨rfl, rfl⟩
  · unfold plays
    rw [getD_brk _ _ _ _ _ hw]
    unfold brkS
    rw [if_pos rfl]
    rfl
  · unfold plays
    rw [getD_brk _ _ _ _ _ hw]
    unfold brkS
    rw [if_pos rfl]
    rfl
/-- The row of broken sources: a row of the call's own. -/
def OwnQ (w : World) (base : Nat) (v : Value) (ss : List Src) : Prop := w.ownsRow base 49 2 v ss.length (srcv ss)
theorem OwnQ.below {w w' : World} {base : Nat} {v : Value} {ss : List Src} (h : OwnQ w base v ss) (hb : Below w.heap.size w w') : OwnQ w' base v ss := row_same h (fun i hi => hb.block i (row_blk h i hi).2)
theorem OwnQ.rdq {w : World} {base : Nat} {a : Option Addr} {n c : Nat} {ss : List Src} (h : OwnQ w base (.slice a n c) ss) : RdQ w a ss := fun hp => by
  rcases h.2 with ⟨h1, h2⟩ | ⟨g, cap, cur, h1, h2, h3, h4, h5, h6, h7⟩
  · omega
  · simp only [Value.slice.injEq] at h1
    obtain ⟨rfl, _, rfl⟩ := h1
    refine ⟨g, 0, rfl, lt_row h3, fun j hj => ?_⟩
    obtain ⟨x, y⟩ := srcv_get ss j hj
    rw [← h7] at x y
    rw [List.getElem?_take_of_lt (by omega), Array.getElem?_toList] at x y
    rw [Nat.zero_add]
    exact ⟨by rw [cell_of_row _ _ _ _ _ _ h3]; exact x, by rw [cell_of_row _ _ _ _ _ _ h3]; exact y⟩
theorem OwnQ.slice {w : World} {base n : Nat} {v : Value} {L : List Src} (h : OwnQ w base v L) (hl : L.length = n) : ∃ a c, v = .slice a n c ∧ n ≤ c := by
  subst hl
  rcases h.2 with ⟨h1, h2⟩ | ⟨g, cap, cur, h1, h2, h3, h4, _⟩
  · exact ⟨none, 0, by rw [h1, h2], by omega⟩
  · exact ⟨_, _, h1, h4⟩
theorem rem_in (x : Int) (n : Nat) (hn : 0 < n) : -(n : Int) < x.tmod (n : Int) ∧ x.tmod (n : Int) < (n : Int) := by
  have h1 := Int.tmod_lt_of_pos x (b := (n : Int)) (by omega)
  have h2 := Int.lt_tmod_of_pos x (b := (n : Int)) (by omega)
  exact ⟨h2, h1⟩
end Go.Proofs.Ytiepinhkmcjmkaa.Me
