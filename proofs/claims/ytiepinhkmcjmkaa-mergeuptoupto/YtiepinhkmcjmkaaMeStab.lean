/-
  stable: are these the things of all sources, sorted stably?
-/
import Derived.Test.YtiepinhkmcjmkaaMeTidy
import Derived.Deep.OwnRows
import Derived.Laws.StructEq
namespace Go.Proofs.Ytiepinhkmcjmkaa.Me
open Go.ChangeShapes Go.WideShapes Go.ChangeAt Go.RowKit
open Go.Proofs.Ytiepinhkmcjmkaa.Base
set_option linter.unusedVariables false
/-- What stable asks of a list. -/
structure Stb (us : List Src) (L : List Th) : Prop where
  len : L.length = sumN (lens (plays us)) us.length
  mon : ∀ i, 0 < i → i < L.length → lt1 (L.getD (i - 1) th0) (L.getD i th0)
  nm : ∀ i, i < L.length → ∃ x : Nat, (L.getD i th0).name = (x : Int) ∧ x < L.length
  inj : ∀ i j, i < j → j < L.length → (L.getD i th0).name ≠ (L.getD j th0).name
  find : ∀ j i, j < us.length → i < (plays us j).ts.length → ∃ k, k < L.length ∧ L.getD k th0 = thAt (plays us) j i
theorem getD_mem {L : List Th} {i : Nat} (h : i < L.length) : L.getD i th0 ∈ L := by
  rw [List.getD_eq_getElem?_getD, List.getElem?_eq_getElem h]
  exact List.getElem_mem h
theorem stb_of {us : List Src} (ht : Tidy (plays us) us.length) {L : List Th} {e : Int} (r : Runs (plays us) us.length L e) : e = 0 ∧ Stb us L := by
  obtain ⟨h1, h2, h3, h4⟩ := r.tidy ht
  have hp : ∀ i j, i < j → j < L.length → lt1 (L.getD i th0) (L.getD j th0) := fun i j hij hj => by
    have q := List.pairwise_iff_getElem.1 h2 i j (by omega) hj hij
    rw [List.getD_eq_getElem?_getD, List.getElem?_eq_getElem (by omega), List.getD_eq_getElem?_getD, List.getElem?_eq_getElem hj]
    exact q
  have hnm : ∀ i, i < L.length → ∃ j k, j < us.length ∧ k < (plays us j).ts.length ∧ L.getD i th0 = thAt (plays us) j k ∧ (L.getD i th0).name = ((sumN (lens (plays us)) j + k : Nat) : Int) := fun i hi => by
    obtain ⟨j, k, a1, _, a3, a4⟩ := (h3 _).1 (getD_mem hi)
    exact ⟨j, k, a1, a3, a4, by rw [a4]; exact ht.nm j k a1 a3⟩
  refine ⟨h1, h4, fun i h0 hi => hp (i - 1) i (by omega) hi, fun i hi => ?_, fun i j hij hj e => ?_, fun j i hj hi => ?_⟩
  · obtain ⟨j, k, a1, a2, a3, a4⟩ := hnm i hi
    refine ⟨_, a4, ?_⟩
    have q := sum_off (plays us) (j := j) (k := us.length) a1
    omega
  · obtain ⟨j1, k1, a1, a2, a3, a4⟩ := hnm i (by omega)
    obtain ⟨j2, k2, b1, b2, b3, b4⟩ := hnm j hj
    rw [a4, b4] at e
    have e2 : sumN (lens (plays us)) j1 + k1 = sumN (lens (plays us)) j2 + k2 := by omega
    have hj12 : j1 = j2 := by
      rcases Nat.lt_trichotomy j1 j2 with q | q | q
      · have := sum_off (plays us) q; omega
      · exact q
      · have := sum_off (plays us) q; omega
    subst hj12
    have hk12 : k1 = k2 := by omega
    subst hk12
    have q := hp i j hij hj
    rw [a3, b3] at q
    unfold lt1 at q
    omega
  · have q := (h3 (thAt (plays us) j i)).2 ⟨j, i, hj, Nat.zero_le _, hi, rfl⟩
    obtain ⟨k, hk, he⟩ := List.getElem_of_mem q
    exact ⟨k, hk, by rw [List.getD_eq_getElem?_getD, List.getElem?_eq_getElem hk, ← he]; rfl⟩
/-- A block of bools. -/
def BA (w : World) (g n : Nat) (F : Nat → Bool) : Prop := ∃ cur : Array Value, w.heap[g]? = some (.cells cur 4) ∧ cur.size = n ∧ ∀ x, x < n → cur[x]? = some (.bool (F x))
theorem BA.cell {w : World} {g n : Nat} {F : Nat → Bool} (h : BA w g n F) (x : Nat) (hx : x < n) : w.cell? ⟨g, x, none⟩ = some (.bool (F x)) ∧ w.frozen? ⟨g, x, none⟩ = false := by
  obtain ⟨cur, h1, h2, h3⟩ := h
  exact ⟨by rw [cell_of_row _ _ _ _ _ _ h1]; exact h3 x hx, frozen_of_row _ _ _ _ _ h1⟩
theorem BA.below {w w' : World} {g n : Nat} {F : Nat → Bool} (h : BA w g n F) (hb : Below w.heap.size w w') : BA w' g n F := by
  obtain ⟨cur, h1, h2⟩ := h
  exact ⟨cur, (hb.block g (lt_row h1)).trans h1, h2⟩
theorem BA.set {w : World} {g n : Nat} {F : Nat → Bool} (h : BA w g n F) (x : Nat) (hx : x < n) : BA (w.setCell ⟨g, x, none⟩ (.bool true)) g n (fun y => if y = x then true else F y) := by
  obtain ⟨cur, h1, h2, h3⟩ := h
  refine ⟨cur.setIfInBounds x (.bool true), heap_setCell_same _ _ _ _ _ _ h1, by simp [h2], fun y hy => ?_⟩
  show _ = some (Value.bool (if y = x then true else F y))
  rw [Array.getElem?_setIfInBounds]
  by_cases e : x = y
  · rw [if_pos e, if_pos (by omega), if_pos e.symm]
  · rw [if_neg e, if_neg (fun q => e q.symm)]; exact h3 y hy
theorem infoB : (Try.prog.info? 4).map (fun i => (i.zero, i.size, i.bytes)) = some (some (.bool false), 1, 1) := by kernel_rfl
theorem make_bools (n : Nat) (hn : n ≤ 140737488355328) (W : World) : (Instr.makeSlice 77 (.int .i64 (n : Int)) (.int .i64 (n : Int))).run Try.prog W = .ok (.slice (some ⟨W.heap.size, 0, none⟩) n n) (W.alloc (.cells (madeCells #[.bool false] n) 4)) :=
  run_make_row' 77 4 (.bool false) 1 Try.underlying77 infoB rfl .i64 .i64 n (by omega) (by omega) W
theorem ba_new (W : World) (n : Nat) : BA (W.alloc (.cells (madeCells #[.bool false] n) 4)) W.heap.size n (fun _ => false) := by
  refine ⟨_, heap_alloc_new _ _, size_madeCells _ _, fun x hx => ?_⟩
  unfold madeCells
  rw [Array.getElem?_map, Array.getElem?_range, if_pos hx]
  show some ((#[Value.bool false] : Array Value)[x % 1]!) = _
  rw [Nat.mod_one]
  rfl
end Go.Proofs.Ytiepinhkmcjmkaa.Me
