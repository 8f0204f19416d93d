/-
  A block of records in memory.
-/
import Derived.Test.YtlbplicafcoifaaSoMath
namespace Go.Proofs.Ytlbplicafcoifaa.So
open Go.ChangeShapes Go.WideShapes Go.ChangeAt Go.RowKit
open Go.Proofs.Ytlbplicafcoifaa.Base
set_option linter.unusedVariables false
/-- The first n records of the block g. -/
def RA (w : World) (g n : Nat) (F : Nat → Rec) : Prop := ∃ (cur : Array Value) (t : TypeId), w.heap[g]? = some (.cells cur t) ∧ ∀ j, j < n → cur[j * 3]? = some (.int .i64 (F j).p) ∧ cur[j * 3 + 1]? = some (.string (F j).k) ∧ cur[j * 3 + 2]? = some (.string (F j).v)
def setR (F : Nat → Rec) (i : Nat) (r : Rec) : Nat → Rec := fun j => if j = i then r else F j
theorem RA.lt {w : World} {g n : Nat} {F : Nat → Rec} (h : RA w g n F) : g < w.heap.size := by
  obtain ⟨cur, t, h1, _⟩ := h
  exact lt_row h1
theorem RA.cells {w : World} {g n : Nat} {F : Nat → Rec} (h : RA w g n F) (j : Nat) (hj : j < n) : w.cell? ⟨g, j * 3, none⟩ = some (.int .i64 (F j).p) ∧ w.cell? ⟨g, j * 3 + 1, none⟩ = some (.string (F j).k) ∧ w.cell? ⟨g, j * 3 + 2, none⟩ = some (.string (F j).v) := by
  obtain ⟨cur, t, h1, h2⟩ := h
  obtain ⟨a, b, c⟩ := h2 j hj
  refine ⟨?_, ?_, ?_⟩
  · rw [cell_of_row _ _ _ _ _ _ h1]; exact a
  · rw [cell_of_row _ _ _ _ _ _ h1]; exact b
  · rw [cell_of_row _ _ _ _ _ _ h1]; exact c
theorem RA.frozen {w : World} {g n : Nat} {F : Nat → Rec} (h : RA w g n F) (k : Nat) : w.frozen? ⟨g, k, none⟩ = false := by
  obtain ⟨cur, t, h1, _⟩ := h
  exact frozen_of_row _ _ _ _ _ h1
theorem RA.congr {w : World} {g n : Nat} {F G : Nat → Rec} (h : RA w g n F) (e : ∀ j, j < n → F j = G j) : RA w g n G := by
  obtain ⟨cur, t, h1, h2⟩ := h
  exact ⟨cur, t, h1, fun j hj => by rw [← e j hj]; exact h2 j hj⟩
theorem RA.less {w : World} {g n m : Nat} {F : Nat → Rec} (h : RA w g n F) (e : m ≤ n) : RA w g m F := by
  obtain ⟨cur, t, h1, h2⟩ := h
  exact ⟨cur, t, h1, fun j hj => h2 j (by omega)⟩
theorem RA.same {w w' : World} {g n : Nat} {F : Nat → Rec} (h : RA w g n F) (e : w'.heap[g]? = w.heap[g]?) : RA w' g n F := by
  obtain ⟨cur, t, h1, h2⟩ := h
  exact ⟨cur, t, by rw [e]; exact h1, h2⟩
theorem RA.grown {w w' : World} {g n : Nat} {F : Nat → Rec} {q : Option Nat} (h : RA w g n F) (hg : w.grownBy w' q) (hq : q ≠ some g) : RA w' g n F :=
  h.same (hg.block g h.lt (fun e => hq e.symm))
theorem RA.below {w w' : World} {g n : Nat} {F : Nat → Rec} {b : Nat} (h : RA w g n F) (hg : Below b w w') (hq : g < b) : RA w' g n F :=
  h.same (hg.block g hq)
/-- A record is written. -/
theorem RA.set {w : World} {g n : Nat} {F : Nat → Rec} (h : RA w g n F) (i : Nat) (hi : i < n) (r : Rec) :
    RA (((w.setCell ⟨g, i * 3, none⟩ (.int .i64 r.p)).setCell ⟨g, i * 3 + 1, none⟩ (.string r.k)).setCell ⟨g, i * 3 + 2, none⟩ (.string r.v)) g n (setR F i r) := by
  obtain ⟨cur, t, h1, h2⟩ := h
  refine ⟨((cur.setIfInBounds (i * 3) (.int .i64 r.p)).setIfInBounds (i * 3 + 1) (.string r.k)).setIfInBounds (i * 3 + 2) (.string r.v), t, by rw [heap_setCell_same _ _ _ _ _ _ (by rw [heap_setCell_same _ _ _ _ _ _ (by rw [heap_setCell_same _ _ _ _ _ _ h1])])], fun j hj => ?_⟩
  obtain ⟨a, b, c⟩ := h2 j hj
  obtain ⟨a', b', c'⟩ := h2 i hi
  have hs : i * 3 + 2 < cur.size := by
    by_cases q : i * 3 + 2 < cur.size
    · exact q
    · rw [Array.getElem?_eq_none (by omega)] at c'; cases c'
  by_cases e : j = i
  · subst e
    have es : setR F j r j = r := if_pos rfl
    rw [es]
    refine ⟨?_, ?_, ?_⟩
    · simp only [Array.getElem?_setIfInBounds, Array.size_setIfInBounds]
      rw [if_neg (by omega), if_neg (by omega), if_pos trivial, if_pos (by omega)]
    · simp only [Array.getElem?_setIfInBounds, Array.size_setIfInBounds]
      rw [if_neg (by omega), if_pos trivial, if_pos (by omega)]
    · simp only [Array.getElem?_setIfInBounds, Array.size_setIfInBounds]
      rw [if_pos trivial, if_pos (by omega)]
  · have es : setR F i r j = F j := if_neg e
    rw [es]
    refine ⟨?_, ?_, ?_⟩
    · simp only [Array.getElem?_setIfInBounds, Array.size_setIfInBounds]
      rw [if_neg (by omega), if_neg (by omega), if_neg (by omega)]; exact a
    · simp only [Array.getElem?_setIfInBounds, Array.size_setIfInBounds]
      rw [if_neg (by omega), if_neg (by omega), if_neg (by omega)]; exact b
    · simp only [Array.getElem?_setIfInBounds, Array.size_setIfInBounds]
      rw [if_neg (by omega), if_neg (by omega), if_neg (by omega)]; exact c
theorem grown_rec {w0 w : World} {g : Nat} (h : w0.grownBy w (some g)) (i : Nat) (a b c : Value) : w0.grownBy (((w.setCell ⟨g, i * 3, none⟩ a).setCell ⟨g, i * 3 + 1, none⟩ b).setCell ⟨g, i * 3 + 2, none⟩ c) (some g) :=
  grown_cell (grown_cell (grown_cell h _ _) _ _) _ _
/-- The block keeps its type and its size. -/
def Shp (w w' : World) (g : Nat) : Prop := ∀ (cur : Array Value) (t : TypeId), w.heap[g]? = some (.cells cur t) → ∃ cur' : Array Value, w'.heap[g]? = some (.cells cur' t) ∧ cur'.size = cur.size
theorem Shp.refl (w : World) (g : Nat) : Shp w w g := fun cur t h => ⟨cur, h, rfl⟩
theorem Shp.same {w w1 w2 : World} {g : Nat} (h : Shp w w1 g) (e : w2.heap[g]? = w1.heap[g]?) : Shp w w2 g := fun cur t h0 => by
  obtain ⟨c, h1, h2⟩ := h cur t h0
  exact ⟨c, by rw [e]; exact h1, h2⟩
theorem Shp.trans {w w1 w2 : World} {g : Nat} (h : Shp w w1 g) (k : Shp w1 w2 g) : Shp w w2 g := fun cur t h0 => by
  obtain ⟨c, h1, h2⟩ := h cur t h0
  obtain ⟨d, h3, h4⟩ := k c t h1
  exact ⟨d, h3, h4.trans h2⟩
theorem Shp.cell (w : World) (g k : Nat) (v : Value) : Shp w (w.setCell ⟨g, k, none⟩ v) g := fun cur t h0 => ⟨cur.setIfInBounds k v, by rw [heap_setCell_same _ _ _ _ _ _ h0], by simp⟩
theorem Shp.set {w0 w : World} {g : Nat} (h : Shp w0 w g) (k : Nat) (v : Value) : Shp w0 (w.setCell ⟨g, k, none⟩ v) g := h.trans (Shp.cell w g k v)
/-- The records from a to b. -/
def seg (F : Nat → Rec) (a b : Nat) : List Rec := (List.range (b - a)).map fun j => F (a + j)
theorem length_seg (F : Nat → Rec) (a b : Nat) : (seg F a b).length = b - a := by unfold seg; simp
theorem seg_cons (F : Nat → Rec) (a b : Nat) (h : a < b) : seg F a b = F a :: seg F (a + 1) b := by
  unfold seg
  obtain ⟨n, hn⟩ : ∃ n, b - a = n + 1 := ⟨b - a - 1, by omega⟩
  rw [hn, show b - (a + 1) = n by omega, List.range_succ_eq_map, List.map_cons, List.map_map]
  congr 1
  apply List.map_congr_left
  intro j _
  show F (a + (j + 1)) = F (a + 1 + j)
  congr 1
  omega
theorem seg_nil (F : Nat → Rec) (a b : Nat) (h : b ≤ a) : seg F a b = [] := by
  unfold seg; rw [show b - a = 0 by omega]; rfl
theorem seg_append (F : Nat → Rec) (a b c : Nat) (h1 : a ≤ b) (h2 : b ≤ c) : seg F a b ++ seg F b c = seg F a c := by
  unfold seg
  have e : c - a = (b - a) + (c - b) := by omega
  rw [e, List.range_add, List.map_append, List.map_map]
  congr 1
  apply List.map_congr_left
  intro j _
  show F (b + j) = F (a + (b - a + j))
  congr 1
  omega
theorem seg_get (F : Nat → Rec) (a b j : Nat) (h : j < b - a) : (seg F a b)[j]? = some (F (a + j)) := by
  unfold seg; rw [List.getElem?_map, List.getElem?_range h]; rfl
theorem seg_congr (F G : Nat → Rec) (a b : Nat) (h : ∀ j, a ≤ j → j < b → F j = G j) : seg F a b = seg G a b := by
  unfold seg
  apply List.map_congr_left
  intro j hj
  exact h _ (by omega) (by have := List.mem_range.1 hj; omega)
def rec0 : Rec := ⟨0, ⟨#[]⟩, ⟨#[]⟩⟩
/-- The first i of M, written from f on. -/
def putF (G : Nat → Rec) (f : Nat) (M : List Rec) (i : Nat) : Nat → Rec := fun j => if f ≤ j ∧ j < f + i then M.getD (j - f) rec0 else G j
theorem putF_zero (G : Nat → Rec) (f : Nat) (M : List Rec) : putF G f M 0 = G := by
  funext j; unfold putF; rw [if_neg (by omega)]
theorem putF_next (G : Nat → Rec) (f : Nat) (M : List Rec) (i : Nat) (r : Rec) (h : M[i]? = some r) : setR (putF G f M i) (f + i) r = putF G f M (i + 1) := by
  funext j
  unfold setR putF
  by_cases e : j = f + i
  · subst e
    rw [if_pos rfl, if_pos (by omega), show f + i - f = i by omega, List.getD_eq_getElem?_getD, h]
    rfl
  · rw [if_neg e]
    by_cases e2 : f ≤ j ∧ j < f + i
    · rw [if_pos e2, if_pos (by omega)]
    · rw [if_neg e2, if_neg (by omega)]
theorem seg_putF (G : Nat → Rec) (f : Nat) (M : List Rec) : seg (putF G f M M.length) f (f + M.length) = M := by
  apply List.ext_getElem?
  intro j
  by_cases h : j < M.length
  · rw [seg_get _ _ _ _ (by omega)]
    unfold putF
    rw [if_pos (by omega), show f + j - f = j by omega, List.getD_eq_getElem?_getD, List.getElem?_eq_getElem h]
    rfl
  · rw [List.getElem?_eq_none (by rw [length_seg]; omega), List.getElem?_eq_none (by omega)]
/-- The right one ends: a step of merging. -/
theorem mrg_left (F : Nat → Rec) (a m b e : Nat) (ha : a < m) (h : e ≤ b ∨ le (F a) (F b) = true) : mrg (seg F a m) (seg F b e) = F a :: mrg (seg F (a + 1) m) (seg F b e) := by
  rw [seg_cons F a m ha]
  by_cases hb : b < e
  · have hl : le (F a) (F b) = true := by
      rcases h with h | h
      · omega
      · exact h
    rw [seg_cons F b e hb, mrg_cons, if_pos hl]
  · rw [seg_nil F b e (by omega), mrg_nil, mrg_nil]
theorem mrg_right (F : Nat → Rec) (a m b e : Nat) (hb : b < e) (h : m ≤ a ∨ le (F a) (F b) = false) : mrg (seg F a m) (seg F b e) = F b :: mrg (seg F a m) (seg F (b + 1) e) := by
  rw [seg_cons F b e hb]
  by_cases ha : a < m
  · have hl : le (F a) (F b) = false := by
      rcases h with h | h
      · omega
      · exact h
    rw [seg_cons F a m ha, mrg_cons, if_neg (by rw [hl]; simp)]
  · rw [seg_nil F a m (by omega), nil_mrg, nil_mrg]
end Go.Proofs.Ytlbplicafcoifaa.So
