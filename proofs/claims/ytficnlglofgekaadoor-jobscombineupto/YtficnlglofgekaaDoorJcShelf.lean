/-
  The library's Sort and Compact of int64s, at this program's numbers.
-/
import Derived.Test.YtficnlglofgekaaDoorJcRise
import Derived.Shelf.SortM.Plain
import Derived.Shelf.SortM.SortNone
import Derived.Shelf.SlicesG.CompactI
import Derived.Sort.OwnSortedInts
namespace Go.Proofs.YtficnlglofgekaaDoor.Jb
open Go.Shelf Go.RowKit Go.Sort
open Go.Proofs.YtficnlglofgekaaDoor.Base
set_option linter.unusedVariables false
def laysSlM5_f42_ren : Go.Shelf.Ren := ⟨fun | 5 => 42 | 8 => 52 | 7 => 51 | 19 => 69 | 20 => 70 | 10 => 60 | 11 => 61 | 12 => 62 | 13 => 63 | 14 => 64 | 15 => 65 | 16 => 66 | 17 => 67 | 18 => 68 | 30 => 84 | 31 => 85 | 32 => 86 | 33 => 87 | 34 => 88 | 35 => 89 | 40 => 98 | n => n, fun | 23 => 47 | 25 => 2 | 3 => 3 | 32 => 66 | 22 => 47 | 0 => 0 | 44 => 91 | 46 => 72 | 4 => 4 | 36 => 83 | 35 => 82 | 41 => 88 | 5 => 5 | 9 => 9 | 53 => 104 | 57 => 108 | 63 => 118 | 64 => 119 | n => n, fun | n => n⟩
theorem laysSlM5_f42 : Go.Proofs.SlLaysM.n5 Tryd.prog laysSlM5_f42_ren := {
  mixed := by kernel_rfl
  f5 := ⟨Tryd.f42.name, by decide, Tryd.func42.trans (congrArg some (by kernel_rfl))⟩
  f7 := ⟨Tryd.f51.name, by decide, Tryd.func51.trans (congrArg some (by kernel_rfl))⟩
  f8 := Tryd.func52.trans (congrArg some (by kernel_rfl))
  f10 := ⟨Tryd.f60.name, by decide, Tryd.func60.trans (congrArg some (by kernel_rfl))⟩
  f11 := ⟨Tryd.f61.name, by decide, Tryd.func61.trans (congrArg some (by kernel_rfl))⟩
  f12 := ⟨Tryd.f62.name, by decide, Tryd.func62.trans (congrArg some (by kernel_rfl))⟩
  f13 := ⟨Tryd.f63.name, by decide, Tryd.func63.trans (congrArg some (by kernel_rfl))⟩
  f14 := ⟨Tryd.f64.name, by decide, Tryd.func64.trans (congrArg some (by kernel_rfl))⟩
  f15 := ⟨Tryd.f65.name, by decide, Tryd.func65.trans (congrArg some (by kernel_rfl))⟩
  f16 := ⟨Tryd.f66.name, by decide, Tryd.func66.trans (congrArg some (by kernel_rfl))⟩
  f17 := ⟨Tryd.f67.name, by decide, Tryd.func67.trans (congrArg some (by kernel_rfl))⟩
  f18 := ⟨Tryd.f68.name, by decide, Tryd.func68.trans (congrArg some (by kernel_rfl))⟩
  f19 := Tryd.func69.trans (congrArg some (by kernel_rfl))
  f20 := Tryd.func70.trans (congrArg some (by kernel_rfl))
  f30 := ⟨Tryd.f84.name, by decide, Tryd.func84.trans (congrArg some (by kernel_rfl))⟩
  f31 := Tryd.func85.trans (congrArg some (by kernel_rfl))
  f32 := Tryd.func86.trans (congrArg some (by kernel_rfl))
  f33 := ⟨Tryd.f87.name, by decide, Tryd.func87.trans (congrArg some (by kernel_rfl))⟩
  f34 := ⟨Tryd.f88.name, by decide, Tryd.func88.trans (congrArg some (by kernel_rfl))⟩
  f35 := ⟨Tryd.f89.name, by decide, Tryd.func89.trans (congrArg some (by kernel_rfl))⟩
  f40 := ⟨Tryd.f98.name, by decide, Tryd.func98.trans (congrArg some (by kernel_rfl))⟩
  t0 := Tryd.underlying0
  a0 := Tryd.isAgg0
  z0 := Tryd.sizeOf0
  v0 := Tryd.zeroValue0
  t3 := Tryd.underlying3
  a3 := Tryd.isAgg3
  z3 := Tryd.sizeOf3
  v3 := Tryd.zeroValue3
  t4 := Tryd.underlying4
  a4 := Tryd.isAgg4
  z4 := Tryd.sizeOf4
  v4 := Tryd.zeroValue4
  t5 := Tryd.underlying5
  a5 := Tryd.isAgg5
  z5 := Tryd.sizeOf5
  v5 := Tryd.zeroValue5
  t9 := Tryd.underlying9
  a9 := Tryd.isAgg9
  z9 := Tryd.sizeOf9
  v9 := Tryd.zeroValue9
  t22 := Tryd.underlying47
  a22 := Tryd.isAgg47
  z22 := Tryd.sizeOf47
  v22 := Tryd.zeroValue47
  t23 := Tryd.underlying47
  a23 := Tryd.isAgg47
  z23 := Tryd.sizeOf47
  v23 := Tryd.zeroValue47
  t25 := Tryd.underlying2
  a25 := Tryd.isAgg2
  z25 := Tryd.sizeOf2
  v25 := Tryd.zeroValue2
  t32 := Tryd.underlying66
  a32 := Tryd.isAgg66
  z32 := Tryd.sizeOf66
  v32 := Tryd.zeroValue66
  t35 := Tryd.underlying82
  a35 := Tryd.isAgg82
  z35 := Tryd.sizeOf82
  v35 := Tryd.zeroValue82
  t36 := Tryd.underlying83
  a36 := Tryd.isAgg83
  z36 := Tryd.sizeOf83
  v36 := Tryd.zeroValue83
  t41 := Tryd.underlying88
  a41 := Tryd.isAgg88
  z41 := Tryd.sizeOf88
  v41 := Tryd.zeroValue88
  t44 := Tryd.underlying91
  a44 := Tryd.isAgg91
  z44 := Tryd.sizeOf91
  v44 := Tryd.zeroValue91
  t46 := Tryd.underlying72
  a46 := Tryd.isAgg72
  z46 := Tryd.sizeOf72
  v46 := Tryd.zeroValue72
  t53 := Tryd.underlying104
  a53 := Tryd.isAgg104
  z53 := Tryd.sizeOf104
  v53 := Tryd.zeroValue104
  t57 := Tryd.underlying108
  a57 := Tryd.isAgg108
  z57 := Tryd.sizeOf108
  v57 := Tryd.zeroValue108
  t63 := Tryd.underlying118
  a63 := Tryd.isAgg118
  z63 := Tryd.sizeOf118
  v63 := Tryd.zeroValue118
  t64 := Tryd.underlying119
  a64 := Tryd.isAgg119
  z64 := Tryd.sizeOf119
  v64 := Tryd.zeroValue119 }
def laysSlN43_f43_ren : Go.Shelf.Ren := ⟨fun | 43 => 43 | n => n, fun | 22 => 47 | 23 => 2 | 3 => 3 | 4 => 4 | 0 => 0 | n => n, fun | n => n⟩
theorem laysSlN43_f43 : Go.Proofs.SlLaysN.n43 Tryd.prog laysSlN43_f43_ren := {
  mixed := by kernel_rfl
  f43 := ⟨Tryd.f43.name, by decide, Tryd.func43.trans (congrArg some (by kernel_rfl))⟩
  t0 := Tryd.underlying0
  a0 := Tryd.isAgg0
  z0 := Tryd.sizeOf0
  v0 := Tryd.zeroValue0
  t3 := Tryd.underlying3
  a3 := Tryd.isAgg3
  z3 := Tryd.sizeOf3
  v3 := Tryd.zeroValue3
  t4 := Tryd.underlying4
  a4 := Tryd.isAgg4
  z4 := Tryd.sizeOf4
  v4 := Tryd.zeroValue4
  t22 := Tryd.underlying47
  a22 := Tryd.isAgg47
  z22 := Tryd.sizeOf47
  v22 := Tryd.zeroValue47
  t23 := Tryd.underlying2
  a23 := Tryd.isAgg2
  z23 := Tryd.sizeOf2
  v23 := Tryd.zeroValue2
  i23 := by kernel_rfl }

theorem OwnJ.row {w : World} {base g n c : Nat} {xs : List Int} (h : OwnJ w base (.slice (some ⟨g, 0, none⟩) n c) xs) : n = xs.length ∧ base ≤ g ∧ n ≤ c ∧ c ≤ maxLen ∧ ∃ cur : Array Value, w.heap[g]? = some (.cells cur 2 (0, 0)) ∧ cur.size = c ∧ cur.toList.take n = jvals xs := by
  rcases h.2 with ⟨h1, h2⟩ | ⟨g', cap', cur, h1, h2, h3, h4, h5, h6, h7⟩
  · cases h1
  · simp only [Value.slice.injEq, Option.some.injEq, Addr.mk.injEq] at h1
    obtain ⟨⟨rfl, _⟩, rfl, rfl⟩ := h1
    exact ⟨rfl, h2, h4, h5, cur, h3, by rw [h6]; omega, by rw [← h7]; congr 1; omega⟩
theorem OwnJ.holds {w : World} {base g n c : Nat} {xs : List Int} (h : OwnJ w base (.slice (some ⟨g, 0, none⟩) n c) xs) : Holds (Value.int .i64) w g 0 xs.toArray := by
  obtain ⟨h1, _, _, _, cur, h3, _, h5⟩ := h.row
  exact holds_of_blockI h3 (by rw [← h1]; exact h5)
theorem sort64_any (g n c base : Nat) (xs : List Int) (w : World) (h : OwnJ w base (.slice (some ⟨g, 0, none⟩) n c) xs) (hl : n ≤ 8796093022208) :
    Calls Tryd.prog 42 #[.slice (some ⟨g, 0, none⟩) n c] w fun e w' => e = .returned (.tuple #[]) ∧ OwnJ w' base (.slice (some ⟨g, 0, none⟩) n c) (xs.mergeSort fun x y => decide (x ≤ y)) ∧ w.grownBy w' (some g) := by
  have hH := h.holds
  obtain ⟨rfl, h2, h3, h4, cur, h5, h6, h7⟩ := h.row
  refine (AnyM.slices_Sort_int laysSlM5_f42 g 0 c xs w hH (Array.getElem?_eq_some_iff.1 h5).1 (by omega)).mono ?_
  rintro e w' ⟨rfl, q, os, rfl⟩
  refine ⟨rfl, ?_, grownBy_sortedI _⟩
  have hlen : (xs.mergeSort fun x y => decide (x ≤ y)).length = xs.length := by rw [List.length_mergeSort]
  have hb := heap_sortedI (n := q) (os := os) (xs.mergeSort fun x y => decide (x ≤ y)).toArray h5
  have hc := take_putCellsI cur (xs.mergeSort fun x y => decide (x ≤ y)) (by omega)
  refine ⟨by rw [jvals_len]; omega, .inr ⟨g, c, _, by rw [hlen], h2, hb, by rw [hlen]; exact h3, h4, by simp [putCells]; exact h6, ?_⟩⟩
  rw [Nat.mul_one, hc]; rfl
theorem compact64_any (g n c base : Nat) (xs : List Int) (w : World) (h : OwnJ w base (.slice (some ⟨g, 0, none⟩) n c) xs) (hl : n ≤ 8796093022208) :
    Calls Tryd.prog 43 #[.slice (some ⟨g, 0, none⟩) n c] w fun e w' => e = .returned (.slice (some ⟨g, 0, none⟩) (Lib.compact xs).length c) ∧ OwnJ w' base (.slice (some ⟨g, 0, none⟩) (Lib.compact xs).length c) (Lib.compact xs) ∧ w.grownBy w' (some g) := by
  have hH := h.holds
  obtain ⟨rfl, h2, h3, h4, cur, h5, h6, h7⟩ := h.row
  refine (AnyG.slices_Compact_int laysSlN43_f43 g 0 c xs w hH (by omega) h3).mono ?_
  rintro e w' ⟨rfl, q, rfl⟩
  have hcl : (Lib.compact xs).length ≤ xs.length := by
    unfold Lib.compact Lib.compactUpTo
    rw [List.length_map]
    have := List.length_filter_le (Lib.keeps xs.toArray) (List.range xs.length)
    rw [List.length_range] at this
    exact this
  have hRl : (List.replicate (xs.length - (Lib.compact xs).length) (0 : Int)).length = xs.length - (Lib.compact xs).length := List.length_replicate
  generalize List.replicate (xs.length - (Lib.compact xs).length) (0 : Int) = R at hRl ⊢
  have hb := heap_sortedI (n := q) (os := #[]) (Lib.compact xs ++ R).toArray h5
  have hg := grownBy_sortedI (w := w) (g := g) (n := q) (os := #[]) (Lib.compact xs ++ R).toArray
  rw [grow_empty] at hb hg
  have hlen : (Lib.compact xs ++ R).length = xs.length := by rw [List.length_append]; omega
  have hc := take_putCellsI cur (Lib.compact xs ++ R) (by omega)
  rw [hlen] at hc
  refine ⟨rfl, ⟨by rw [jvals_len]; omega, .inr ⟨g, c, _, rfl, h2, hb, by omega, h4, by simp [putCells]; exact h6, ?_⟩⟩, hg⟩
  rw [Nat.mul_one]
  have e2 : ∀ (l : List Value), l.take (Lib.compact xs).length = (l.take xs.length).take (Lib.compact xs).length := fun l => by rw [List.take_take]; congr 1; omega
  rw [e2, hc, List.map_append, List.take_append_of_le_length (by simp), List.take_of_length_le (by simp)]
  rfl
/-- Sorted, and neighbours that are alike left out: rising, each once. -/
theorem compact_rise (xs : List Int) : Lib.compact (xs.mergeSort fun x y => decide (x ≤ y)) = riseL xs := by
  have hs : (xs.mergeSort fun x y => decide (x ≤ y)).Pairwise (fun x y => (decide (x ≤ y)) = true) := List.pairwise_mergeSort (fun a b c h1 h2 => by simp at *; omega) (fun a b => by simp; omega) xs
  have hp := List.mergeSort_perm xs (fun x y => decide (x ≤ y))
  generalize (xs.mergeSort fun x y => decide (x ≤ y)) = zs at hs hp
  have hle : ∀ i j, i ≤ j → j < zs.length → zs.toArray[i]! ≤ zs.toArray[j]! := by
    intro i j hij hj
    by_cases e : i = j
    · subst e; exact Int.le_refl _
    · have h := List.pairwise_iff_getElem.1 hs i j (by omega) hj (by omega)
      rw [getElem!_pos zs.toArray i (by simp; omega), getElem!_pos zs.toArray j (by simpa using hj)]
      simpa using h
  apply riseL_uniq
  · unfold Up Lib.compact Lib.compactUpTo
    rw [List.pairwise_map]
    have hr : ((List.range zs.length).filter (Lib.keeps zs.toArray)).Pairwise (· < ·) := List.Pairwise.filter _ List.pairwise_lt_range
    refine List.Pairwise.imp_of_mem ?_ hr
    intro i j hi hj hij
    have hj2 := List.mem_filter.1 hj
    have hjl : j < zs.length := by simpa using hj2.1
    have hk : zs.toArray[j]! ≠ zs.toArray[j - 1]! := by
      have h := hj2.2
      unfold Lib.keeps at h
      have h' := of_decide_eq_true h
      rcases h' with h' | h'
      · omega
      · exact h'
    have h1 := hle i (j - 1) (by omega) (by omega)
    have h2 := hle (j - 1) j (by omega) hjl
    omega
  · intro z
    rw [← hp.mem_iff]
    unfold Lib.compact Lib.compactUpTo
    constructor
    · intro h
      obtain ⟨j, hj, rfl⟩ := List.mem_map.1 h
      have hjl : j < zs.length := by simpa using (List.mem_filter.1 hj).1
      rw [getElem!_pos zs.toArray j (by simpa using hjl)]
      simp
    · intro h
      obtain ⟨j, hj, rfl⟩ := List.mem_iff_getElem.1 h
      have key : ∀ k, k < zs.length → ∃ i, i ∈ (List.range zs.length).filter (Lib.keeps zs.toArray) ∧ zs.toArray[i]! = zs.toArray[k]! := by
        intro k
        induction k with
        | zero => intro hk; exact ⟨0, List.mem_filter.2 ⟨by simpa using hk, by unfold Lib.keeps; simp⟩, rfl⟩
        | succ k ih =>
          intro hk
          by_cases e : zs.toArray[k + 1]! = zs.toArray[k]!
          · obtain ⟨i, h1, h2⟩ := ih (by omega)
            exact ⟨i, h1, by rw [h2, e]⟩
          · exact ⟨k + 1, List.mem_filter.2 ⟨by simpa using hk, by unfold Lib.keeps; exact decide_eq_true (.inr (by simpa using e))⟩, rfl⟩
      obtain ⟨i, h1, h2⟩ := key j hj
      rw [getElem!_pos zs.toArray j (by simpa using hj)] at h2
      exact List.mem_map.2 ⟨i, h1, by rw [h2]; simp⟩
end Go.Proofs.YtficnlglofgekaaDoor.Jb
