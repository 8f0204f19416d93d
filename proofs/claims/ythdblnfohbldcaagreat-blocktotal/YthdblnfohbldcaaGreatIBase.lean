/-
  Rows of ints: how a slice of them reads, and rows of the call's own.
-/
import Derived.Test.YthdblnfohbldcaaGreatBase
import Derived.Deep.OwnRows
namespace Go.Proofs.YthdblnfohbldcaaGreat.Base
open Go.ChangeShapes Go.WideShapes Go.ChangeAt Go.RowKit
set_option linter.unusedVariables false
def VI (n : Int) : Value := .int .i64 n
def ivals (xs : List Int) : List Value := xs.map VI
theorem length_ivals (xs : List Int) : (ivals xs).length = xs.length := by simp [ivals]
theorem getD_ivals (xs : List Int) (i : Nat) (h : i < xs.length) : (ivals xs)[i]? = some (.int .i64 (xs.getD i 0)) := by
  rw [ivals, List.getElem?_map, List.getElem?_eq_getElem h, List.getD_eq_getElem?_getD, List.getElem?_eq_getElem h]; rfl
theorem ivals_set (xs : List Int) (k : Nat) (c : Int) : (ivals xs).set k (.int .i64 c) = ivals (xs.set k c) := by
  simp [ivals, VI, List.map_set]
/-- The slice 'a, len' reads as the ints 'xs'. -/
def RdI (w : World) (a : Option Addr) (len : Nat) (xs : List Int) : Prop :=
  xs.length = len ∧ len ≤ 17592186044416 ∧ (0 < len → ∃ b off, a = some ⟨b, off, none⟩ ∧ b < w.heap.size ∧ ∀ i, i < len → w.cell? ⟨b, off + i, none⟩ = some (.int .i64 (xs.getD i 0)))
theorem rdi_zero (w : World) (a : Option Addr) : RdI w a 0 [] := ⟨rfl, by omega, fun h => absurd h (by omega)⟩
theorem RdI.below {w w' : World} {a : Option Addr} {len : Nat} {xs : List Int} (h : RdI w a len xs) (hb : Below w.heap.size w w') : RdI w' a len xs := by
  obtain ⟨h1, h2, h3⟩ := h
  refine ⟨h1, h2, fun hp => ?_⟩
  obtain ⟨b, off, rfl, hlt, hc⟩ := h3 hp
  refine ⟨b, off, rfl, Nat.lt_of_lt_of_le hlt hb.size, fun i hi => ?_⟩
  rw [hb.cell (p := ⟨b, off + i, none⟩) hlt]
  exact hc i hi
theorem rdi_row {w : World} {x : Addr} {l c : Nat} {zs : List Int} (hl : l ≤ c) (hz : zs.length = c) (hcell : ∀ i, i < zs.length → w.cell? (x.add i) = some (.int .i64 (zs.getD i 0)))
    (hc : c ≤ 17592186044416) : ∃ xs, RdI w (some x) l xs := by
  refine ⟨zs.take l, by simp; omega, by omega, fun hp => ?_⟩
  obtain ⟨b, off, spot⟩ := x
  have h0 := hcell 0 (by omega)
  have hspot : spot = none := by simpa [Addr.add] using World.cell?_spot h0
  subst hspot
  refine ⟨b, off, rfl, ?_, fun i hi => ?_⟩
  · have := block_lt_of_cell h0
    simpa [Addr.add] using this
  · have h := hcell i (by omega)
    rw [show (⟨b, off, none⟩ : Addr).add i = ⟨b, off + i, none⟩ by simp [Addr.add]] at h
    rw [h, List.getD_eq_getElem?_getD, List.getD_eq_getElem?_getD, List.getElem?_take, if_pos hi]
/-- The block g is a row of the ints 'xs'. -/
def RowI (t : TypeId) (w : World) (g : Nat) (xs : List Int) : Prop := w.heap[g]? = some (.cells (ivals xs).toArray t)
theorem RowI.cell {t : TypeId} {w : World} {g : Nat} {xs : List Int} (h : RowI t w g xs) (k : Nat) (hk : k < xs.length) : w.cell? ⟨g, k, none⟩ = some (.int .i64 (xs.getD k 0)) := by
  rw [cell_of_row _ _ _ _ _ _ h, List.getElem?_toArray, getD_ivals xs k hk]
theorem RowI.frozen {t : TypeId} {w : World} {g : Nat} {xs : List Int} (h : RowI t w g xs) (k : Nat) : w.frozen? ⟨g, k, none⟩ = false := frozen_of_row _ _ _ _ _ h
theorem RowI.lt {t : TypeId} {w : World} {g : Nat} {xs : List Int} (h : RowI t w g xs) : g < w.heap.size := by
  by_cases hg : g < w.heap.size
  · exact hg
  · unfold RowI at h
    rw [Array.getElem?_eq_none (by omega)] at h
    cases h
theorem RowI.store {t : TypeId} {w : World} {g : Nat} {xs : List Int} (h : RowI t w g xs) (k : Nat) (d : Int) : RowI t (w.setCell ⟨g, k, none⟩ (.int .i64 d)) g (xs.set k d) := by
  unfold RowI
  rw [heap_setCell_same _ _ _ _ _ _ h, ← ivals_set, List.setIfInBounds_toArray]
theorem RowI.grown {t : TypeId} {w w' : World} {g : Nat} {xs : List Int} {r : Option Nat} (h : RowI t w g xs) (hg : w.grownBy w' r) (hr : r ≠ some g) : RowI t w' g xs := by
  unfold RowI
  rw [hg.block g h.lt (fun e => hr e.symm)]
  exact h
theorem RowI.below {t : TypeId} {w w' : World} {g : Nat} {xs : List Int} (h : RowI t w g xs) (hb : Below w.heap.size w w') : RowI t w' g xs := h.grown (below_grown hb) (by simp)
theorem RowI.rd {t : TypeId} {w : World} {g : Nat} {xs : List Int} (h : RowI t w g xs) (n : Nat) (hn : n ≤ xs.length) (hl : n ≤ 17592186044416) : RdI w (some ⟨g, 0, none⟩) n (xs.take n) := by
  refine ⟨by rw [List.length_take]; omega, hl, fun hp => ⟨g, 0, rfl, h.lt, fun i hi => ?_⟩⟩
  rw [Nat.zero_add, h.cell i (by omega), List.getD_eq_getElem?_getD, List.getD_eq_getElem?_getD, List.getElem?_take, if_pos hi]
theorem infoI {t : TypeId} (h : t = 3 ∨ t = 2) : (Tryz.prog.info? t).map (fun i => (i.zero, i.size, i.bytes)) = some (some (.int .i64 0), 1, 8) := by
  rcases h with rfl | rfl <;> kernel_rfl
theorem madei (n : Nat) : madeCells #[Value.int .i64 0] n = (ivals (List.replicate n 0)).toArray := by
  apply Array.ext
  · rw [size_madeCells]; simp [ivals]
  · intro k h1 h2
    simp [madeCells, ivals, VI, Nat.mod_one]
theorem make_row_int (n : Nat) (m : Int) (hm : m = (n : Int)) (h : n ≤ 17592186044416) : ∀ W, (Instr.makeSlice 55 (.int .i64 m) (.int .i64 m)).run Tryz.prog W = .ok (.slice (some ⟨W.heap.size, 0, none⟩) n n) (W.alloc (.cells (ivals (List.replicate n 0)).toArray 3)) := by
  intro W
  subst hm
  rw [← madei]
  exact run_make_row' 55 3 (.int .i64 0) 8 Tryz.underlying55 (infoI (.inl rfl)) rfl .i64 .i64 n (by omega) (by omega) W
theorem make_row_i64 (n : Nat) (m : Int) (hm : m = (n : Int)) (h : n ≤ 17592186044416) : ∀ W, (Instr.makeSlice 98 (.int .i64 m) (.int .i64 m)).run Tryz.prog W = .ok (.slice (some ⟨W.heap.size, 0, none⟩) n n) (W.alloc (.cells (ivals (List.replicate n 0)).toArray 2)) := by
  intro W
  subst hm
  rw [← madei]
  exact run_make_row' 98 2 (.int .i64 0) 8 Tryz.underlying98 (infoI (.inr rfl)) rfl .i64 .i64 n (by omega) (by omega) W
theorem rowi_new (t : TypeId) (w : World) (xs : List Int) : RowI t (w.alloc (.cells (ivals xs).toArray t)) w.heap.size xs := heap_alloc_new _ _
/-- The first k of zs are laid, the rest are zeros. -/
def laidTo (zs : List Int) (k : Nat) : List Int := zs.take k ++ List.replicate (zs.length - k) 0
theorem laidTo_len (zs : List Int) (k : Nat) (h : k ≤ zs.length) : (laidTo zs k).length = zs.length := by
  unfold laidTo; rw [List.length_append, List.length_take, List.length_replicate]; omega
theorem laidTo_zero (zs : List Int) : laidTo zs 0 = List.replicate zs.length 0 := by unfold laidTo; simp
theorem laidTo_all (zs : List Int) : laidTo zs zs.length = zs := by unfold laidTo; simp
theorem laidTo_set (zs : List Int) (k : Nat) (h : k < zs.length) (c d : Int) : ((laidTo zs k).set k c).set k d = (laidTo zs k).set k d := List.set_set c
theorem laidTo_succ (zs : List Int) (k : Nat) (h : k < zs.length) : (laidTo zs k).set k (zs.getD k 0) = laidTo zs (k + 1) := by
  unfold laidTo
  have hl : (zs.take k).length = k := by rw [List.length_take]; omega
  rw [List.set_append_right _ _ (by omega), hl, Nat.sub_self, show zs.length - k = (zs.length - (k + 1)) + 1 by omega, List.replicate_succ, List.set_cons_zero,
    List.take_succ_eq_append_getElem h, List.append_assoc, List.getD_eq_getElem?_getD, List.getElem?_eq_getElem h]
  rfl
end Go.Proofs.YthdblnfohbldcaaGreat.Base
