/-
  slices.SortFunc of the infos of four blobs, by their names.
-/
import Derived.Test.YtdcjhjpbkpiddaaStNames
import Derived.Shelf.SlSortCmp.SmallK
import Derived.Shelf.SlSortCmp.Xorshift
import Derived.Shelf.Small.Strs
namespace Go.Proofs.Ytdcjhjpbkpiddaa.St
open Go.Shelf Go.RowKit Go.Lib Go.Sort
open Go.Proofs.Ytdcjhjpbkpiddaa.Base
def sortRen : Ren := ⟨fun | 6 => 31 | 15 => 43 | 14 => 42 | 28 => 61 | 29 => 62 | 20 => 53 | 21 => 54 | 22 => 55 | 23 => 56 | 24 => 57 | 25 => 58 | 26 => 59 | 27 => 60 | 46 => 71 | 47 => 72 | 48 => 73 | 49 => 74 | 50 => 75 | 57 => 76 | n => n, fun | 22 => 42 | 24 => 45 | 25 => 74 | 3 => 3 | 39 => 80 | 0 => 0 | 53 => 50 | 55 => 99 | 4 => 4 | 46 => 91 | 45 => 90 | 50 => 95 | 5 => 5 | 9 => 9 | 66 => 104 | 70 => 108 | 76 => 110 | 77 => 111 | n => n, fun n => n⟩
theorem sortLays : SlLaysF0.n6 Try.prog sortRen where
  mixed := by kernel_rfl
  f6 := ⟨Try.f31.name, by kernel_rfl, Try.func31.trans (congrArg some (by kernel_rfl))⟩
  f14 := ⟨Try.f42.name, by kernel_rfl, Try.func42.trans (congrArg some (by kernel_rfl))⟩
  f15 := Try.func43.trans (congrArg some (by kernel_rfl))
  f20 := ⟨Try.f53.name, by kernel_rfl, Try.func53.trans (congrArg some (by kernel_rfl))⟩
  f21 := ⟨Try.f54.name, by kernel_rfl, Try.func54.trans (congrArg some (by kernel_rfl))⟩
  f22 := ⟨Try.f55.name, by kernel_rfl, Try.func55.trans (congrArg some (by kernel_rfl))⟩
  f23 := ⟨Try.f56.name, by kernel_rfl, Try.func56.trans (congrArg some (by kernel_rfl))⟩
  f24 := ⟨Try.f57.name, by kernel_rfl, Try.func57.trans (congrArg some (by kernel_rfl))⟩
  f25 := ⟨Try.f58.name, by kernel_rfl, Try.func58.trans (congrArg some (by kernel_rfl))⟩
  f26 := ⟨Try.f59.name, by kernel_rfl, Try.func59.trans (congrArg some (by kernel_rfl))⟩
  f27 := ⟨Try.f60.name, by kernel_rfl, Try.func60.trans (congrArg some (by kernel_rfl))⟩
  f28 := Try.func61.trans (congrArg some (by kernel_rfl))
  f29 := Try.func62.trans (congrArg some (by kernel_rfl))
  f46 := ⟨Try.f71.name, by kernel_rfl, Try.func71.trans (congrArg some (by kernel_rfl))⟩
  f47 := Try.func72.trans (congrArg some (by kernel_rfl))
  f48 := Try.func73.trans (congrArg some (by kernel_rfl))
  f49 := ⟨Try.f74.name, by kernel_rfl, Try.func74.trans (congrArg some (by kernel_rfl))⟩
  f50 := ⟨Try.f75.name, by kernel_rfl, Try.func75.trans (congrArg some (by kernel_rfl))⟩
  f57 := ⟨Try.f76.name, by kernel_rfl, Try.func76.trans (congrArg some (by kernel_rfl))⟩
  t0 := Try.underlying0
  a0 := Try.isAgg0
  z0 := Try.sizeOf0
  v0 := Try.zeroValue0
  t3 := Try.underlying3
  a3 := Try.isAgg3
  z3 := Try.sizeOf3
  v3 := Try.zeroValue3
  t4 := Try.underlying4
  a4 := Try.isAgg4
  z4 := Try.sizeOf4
  v4 := Try.zeroValue4
  t5 := Try.underlying5
  a5 := Try.isAgg5
  z5 := Try.sizeOf5
  v5 := Try.zeroValue5
  t9 := Try.underlying9
  a9 := Try.isAgg9
  z9 := Try.sizeOf9
  v9 := Try.zeroValue9
  t22 := Try.underlying42
  a22 := Try.isAgg42
  z22 := Try.sizeOf42
  v22 := Try.zeroValue42
  t25 := Try.underlying74
  a25 := Try.isAgg74
  z25 := Try.sizeOf74
  v25 := Try.zeroValue74
  t39 := Try.underlying80
  a39 := Try.isAgg80
  z39 := Try.sizeOf80
  v39 := Try.zeroValue80
  t45 := Try.underlying90
  a45 := Try.isAgg90
  z45 := Try.sizeOf90
  v45 := Try.zeroValue90
  t46 := Try.underlying91
  a46 := Try.isAgg91
  z46 := Try.sizeOf91
  v46 := Try.zeroValue91
  t50 := Try.underlying95
  a50 := Try.isAgg95
  z50 := Try.sizeOf95
  v50 := Try.zeroValue95
  t53 := Try.underlying50
  a53 := Try.isAgg50
  z53 := Try.sizeOf50
  v53 := Try.zeroValue50
  t55 := Try.underlying99
  a55 := Try.isAgg99
  z55 := Try.sizeOf99
  v55 := Try.zeroValue99
  t66 := Try.underlying104
  a66 := Try.isAgg104
  z66 := Try.sizeOf104
  v66 := Try.zeroValue104
  t70 := Try.underlying108
  a70 := Try.isAgg108
  z70 := Try.sizeOf108
  v70 := Try.zeroValue108
  t76 := Try.underlying110
  a76 := Try.isAgg110
  z76 := Try.sizeOf110
  v76 := Try.zeroValue110
  t77 := Try.underlying111
  a77 := Try.isAgg111
  z77 := Try.sizeOf111
  v77 := Try.zeroValue111
def cmpRen : Ren := ⟨fun | 106 => 33 | 213 => 44 | 265 => 63 | n => n, fun | 3 => 3 | 9 => 9 | n => n, fun n => n⟩
theorem cmpLays : Lays.n106 Try.prog cmpRen where
  mixed := by kernel_rfl
  f106 := Try.func33.trans (congrArg some (by kernel_rfl))
  f213 := Try.func44.trans (congrArg some (by kernel_rfl))
  f265 := Try.func63.trans (congrArg some (by kernel_rfl))
  t3 := Try.underlying3
  a3 := Try.isAgg3
  z3 := Try.sizeOf3
  v3 := Try.zeroValue3
  t9 := Try.underlying9
  a9 := Try.isAgg9
  z9 := Try.sizeOf9
  v9 := Try.zeroValue9
theorem compare_any (a b : ByteArray) (w : World) : Calls Try.prog 33 #[.string a, .string b] w fun e w' => e = .returned (.int .i64 (Lib.compareBytes a.data.toList b.data.toList)) ∧ w' = w := Any.strings_Compare cmpLays a b w
/-- The line of a blob in a list. -/
def encI (st sz : Fin 4 → Int) (k : Fin 4) : List Value := [.string (nameOf k.val), .int .i64 (st k), .int .i64 (sz k)]
def cfI (j k : Fin 4) : Int := Lib.compareBytes (nameOf j.val).data.toList (nameOf k.val).data.toList
theorem cfI_lt : ∀ j k : Fin 4, ltOf cfI j k = decide (j.val < k.val) := by decide
theorem swoI : SWO (ltOf cfI) where
  irrefl := by intro x; rw [cfI_lt]; simp
  trans := by intro x y z; simp only [cfI_lt, decide_eq_true_eq]; omega
  ntrans := by intro x y z; simp only [cfI_lt, decide_eq_false_iff_not]; omega
set_option maxHeartbeats 1000000 in
set_option maxRecDepth 100000 in
theorem list1_any (a b : ByteArray) (a1 a2 b1 b2 : Int) (W : World) : Calls Try.prog 32 #[.agg #[.string a, .int .i64 a1, .int .i64 a2], .agg #[.string b, .int .i64 b1, .int .i64 b2]] W fun e w' => e = .returned (.int .i64 (Lib.compareBytes a.data.toList b.data.toList)) ∧ ∃ q os', w' = grow (W.drewN q) os' := by
  have hcon := fun W' => compare_any a b W'
  generalize Lib.compareBytes a.data.toList b.data.toList = r at hcon ⊢
  go_enter Try.func32, Try.ntmps32
  go_wp2_with (go_at_call 33; refine (hcon _).mono ?_; rintro e w' ⟨rfl, rfl⟩)
  go_ret
  exact ⟨rfl, 0, _, by rw [alloc_eq_grow, alloc_eq_grow, grow_grow]; rfl⟩
theorem cmpLaysI (st sz : Fin 4 → Int) (blk off size : Nat) (w : World) : CmpLays Try.prog 32 #[] (encI st sz) 3 cfI blk off size w :=
  fun _ _ _ _ _ _ => list1_any _ _ _ _ _ _ _
theorem hlenI (n : Nat) (W : World) (h : n ≤ 12) : Calls Try.prog 43 #[.int .u64 n] W fun e w' => (∃ l : Int, e = .returned (.int .i64 l)) ∧ w' = W :=
  (Any.bits_Len (SlLaysF0.n15.bits (P := Try.prog) (ρ := sortRen) { sortLays with }) n W (by omega) (by omega)).mono fun _ _ ⟨he, hw⟩ => ⟨⟨_, he⟩, hw⟩
/-- The four in their order. -/
def four4 : Array (Fin 4) := #[0, 1, 2, 3]
theorem sorted_four (d d' : Array (Fin 4)) (hp : d.toList.Perm four4.toList) (h1 : PermIn 0 d.size d d') (h2 : SortedIn (ltOf cfI) 0 d.size d') : d' = four4 := by
  have hs : d.size = 4 := by have := hp.length_eq; simpa [four4] using this
  obtain ⟨hs', _, hq⟩ := h1
  rw [hs] at hs' hq h2
  have he : ∀ x : Array (Fin 4), x.size = 4 → x.extract 0 4 = x := fun x hx => by
    have h : x.extract 0 x.size = x := by simp
    rw [hx] at h
    exact h
  rw [he d hs, he d' hs'] at hq
  have hpp := hq.trans hp
  have hlt : ∀ i j, i < j → j < 4 → (d'[i]!).val ≤ (d'[j]!).val := fun i j hij hj => by
    have := h2 i j (Nat.zero_le _) hij hj
    rw [cfI_lt] at this
    simpa using this
  have hnd : d'.toList.Nodup := hpp.nodup_iff.2 (by decide)
  obtain ⟨l⟩ := d'
  simp only at hs' hlt hnd hpp
  match l, hs' with
  | [a, b, c, e], _ =>
    have hab := hlt 0 1 (by omega) (by omega)
    have hbc := hlt 1 2 (by omega) (by omega)
    have hce := hlt 2 3 (by omega) (by omega)
    simp at hab hbc hce hnd
    have n1 : a.val ≠ b.val := fun h => hnd.1.1 (Fin.ext h)
    have n2 : b.val ≠ c.val := fun h => hnd.2.1.1 (Fin.ext h)
    have n3 : c.val ≠ e.val := fun h => hnd.2.2 (Fin.ext h)
    have ea : a = 0 := Fin.ext (by have := e.isLt; show a.val = 0; omega)
    have eb : b = 1 := Fin.ext (by have := e.isLt; show b.val = 1; omega)
    have ec : c = 2 := Fin.ext (by have := e.isLt; show c.val = 2; omega)
    have ee : e = 3 := Fin.ext (by have := e.isLt; show e.val = 3; omega)
    subst ea eb ec ee
    rfl
theorem sort_any (st sz : Fin 4 → Int) (blk off cap : Nat) (d : Array (Fin 4)) (w : World) (hH : HoldsK (encI st sz) 3 w blk off d) (hblk : blk < w.heap.size) (hp : d.toList.Perm four4.toList) :
    Calls Try.prog 31 #[.slice (some ⟨blk, off, none⟩) 4 cap, .func (.func 32) #[] #[]] w fun e w' => e = .returned (.tuple #[]) ∧ ∃ n os, w' = sortWorldK (encI st sz) 3 w blk off n four4 os := by
  have hs : d.size = 4 := by have := hp.length_eq; simpa [four4] using this
  have eg : ∀ args w, (callFunc 32 args).run Try.prog w = .ok (.enter 32 args) w := enter_of Try.func32 (by kernel_rfl) (by kernel_rfl)
  have h := AnyQ.slices_SortFunc_small_sorted sortLays 3 Try.isAgg45 Try.sizeOf45 (encI st sz) (fun _ => rfl) (fun x v hv => by simp [encI] at hv; rcases hv with rfl | rfl | rfl <;> rfl) cfI 32 #[] swoI blk off cap d w eg (cmpLaysI st sz blk off d.size w) hH hblk (by omega) hlenI
  rw [show Value.slice (some ⟨blk, off, none⟩) 4 cap = .slice (some ⟨blk, off, none⟩) d.size cap by rw [hs]]
  refine h.mono ?_
  rintro e w' ⟨he, d', n, os, h1, h2, hw⟩
  exact ⟨he, n, os, by rw [hw, sorted_four d d' hp h1 h2]⟩
end Go.Proofs.Ytdcjhjpbkpiddaa.St
