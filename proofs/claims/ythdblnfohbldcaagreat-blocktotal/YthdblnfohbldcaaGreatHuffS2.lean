/-
  ordered: the symbols with a count, in order.
-/
import Derived.Test.YthdblnfohbldcaaGreatHuffS1
import Derived.Test.YthdblnfohbldcaaGreatHuffQ1
import Derived.OwnWalk
namespace Go.Proofs.YthdblnfohbldcaaGreat.Pm
open Go.ChangeShapes Go.WideShapes Go.ChangeAt Go.RowKit
open Go.Proofs.YthdblnfohbldcaaGreat.Base
open Go.Shelf Go.Sort
set_option linter.unusedVariables false
/-- The symbols below k with a count. -/
def symsTo (cs : List Int) (k : Nat) : List Nat := (List.range k).filter fun s => decide (0 < cs.getD s 0)
theorem symsTo_zero (cs : List Int) : symsTo cs 0 = [] := rfl
theorem symsTo_add (cs : List Int) (k : Nat) (h : 0 < cs.getD k 0) : symsTo cs (k + 1) = symsTo cs k ++ [k] := by
  unfold symsTo; rw [List.range_succ, List.filter_append, List.filter_cons, if_pos (decide_eq_true h), List.filter_nil]
theorem symsTo_skip (cs : List Int) (k : Nat) (h : ¬ 0 < cs.getD k 0) : symsTo cs (k + 1) = symsTo cs k := by
  unfold symsTo; rw [List.range_succ, List.filter_append, List.filter_cons, if_neg (by rw [decide_eq_false h]; decide), List.filter_nil, List.append_nil]
theorem symsTo_lt (cs : List Int) (k : Nat) : ∀ s ∈ symsTo cs k, s < k := by
  intro s h; unfold symsTo at h; rw [List.mem_filter, List.mem_range] at h; exact h.1
theorem symsTo_len (cs : List Int) (k : Nat) : (symsTo cs k).length ≤ k := by
  have := List.length_filter_le (fun s => decide (0 < cs.getD s 0)) (List.range k)
  rw [List.length_range] at this; exact this
/-- x comes ahead of y. -/
def aheadOf (cs : List Int) (x y : Nat) : Prop := cs.getD x 0 < cs.getD y 0 ∨ cs.getD x 0 = cs.getD y 0 ∧ y < x
/-- The symbols with a count, in their order. -/
def Ordered (cs : List Int) (os : List Nat) : Prop := os.Perm (symsTo cs cs.length) ∧ os.Pairwise (aheadOf cs)
def nvals (xs : List Nat) : List Int := xs.map fun (n : Nat) => (n : Int)
theorem cf_neg (cs : List Int) (x y : Nat) : cfI cs x y < 0 ↔ aheadOf cs x y := by
  unfold cfI sgn aheadOf
  generalize cs.getD x 0 = X
  generalize cs.getD y 0 = Y
  by_cases h1 : X < Y
  · rw [if_pos h1, if_neg (by omega)]
    exact ⟨fun _ => .inl h1, fun _ => by omega⟩
  · by_cases h2 : Y < X
    · rw [if_neg h1, if_pos h2, if_neg (by omega)]
      exact ⟨fun h => by omega, fun h => by omega⟩
    · rw [if_neg h1, if_neg h2, if_pos rfl]
      by_cases h3 : (y : Int) < (x : Int)
      · rw [if_pos h3]
        exact ⟨fun _ => .inr ⟨by omega, by omega⟩, fun _ => by omega⟩
      · rw [if_neg h3]
        constructor
        · intro h; split at h <;> omega
        · intro h; omega
def cfF (cs : List Int) (m : Nat) (x y : Fin (m + 1)) : Int := cfI cs x.val y.val
theorem lt_iff (cs : List Int) (m : Nat) (x y : Fin (m + 1)) : ltOf (cfF cs m) x y = true ↔ aheadOf cs x.val y.val := by
  unfold ltOf; rw [decide_eq_true_iff]; exact cf_neg cs _ _
theorem lt_not (cs : List Int) (m : Nat) (x y : Fin (m + 1)) : ltOf (cfF cs m) x y = false ↔ ¬ aheadOf cs x.val y.val := by
  rw [← lt_iff]; simp
theorem swoF (cs : List Int) (m : Nat) : SWO (ltOf (cfF cs m)) where
  irrefl x := by rw [lt_not]; unfold aheadOf; omega
  trans x y z h1 h2 := by rw [lt_iff] at *; unfold aheadOf at *; omega
  ntrans x y z h1 h2 := by rw [lt_not] at *; unfold aheadOf at *; omega
theorem totF (cs : List Int) (m : Nat) (x y : Fin (m + 1)) (h1 : ltOf (cfF cs m) x y = false) (h2 : ltOf (cfF cs m) y x = false) : x = y := by
  rw [lt_not] at *
  unfold aheadOf at *
  apply Fin.ext
  omega
/-- What sorting makes of the symbols. -/
def sorted (cs : List Int) (m : Nat) (xs : List Nat) : List (Fin (m + 1)) := (xs.map (Fin.ofNat (m + 1))).mergeSort fun x y => !ltOf (cfF cs m) y x
theorem sorted_ok (cs : List Int) (m : Nat) (hm : cs.length = m + 1) (k : Nat) (hk : k ≤ cs.length) (hnd : (symsTo cs k).Nodup) : ((sorted cs m (symsTo cs k)).map (·.val)).Perm (symsTo cs k) ∧ ((sorted cs m (symsTo cs k)).map (·.val)).Pairwise (aheadOf cs) := by
  have hp : (sorted cs m (symsTo cs k)).Perm ((symsTo cs k).map (Fin.ofNat (m + 1))) := List.mergeSort_perm _ _
  have e : ((symsTo cs k).map (Fin.ofNat (m + 1))).map (·.val) = symsTo cs k := by
    rw [List.map_map]
    conv => rhs; rw [← List.map_id (symsTo cs k)]
    apply List.map_congr_left
    intro s hs
    have := symsTo_lt cs k s hs
    simp [Fin.ofNat]
    omega
  have hp2 : ((sorted cs m (symsTo cs k)).map (·.val)).Perm (symsTo cs k) := by
    have := hp.map (·.val)
    rwa [e] at this
  refine ⟨hp2, ?_⟩
  have hs : (sorted cs m (symsTo cs k)).Pairwise fun a b => (!ltOf (cfF cs m) b a) = true := by
    refine List.pairwise_mergeSort ?_ ?_ _
    · intro a b c h1 h2
      simp only [Bool.not_eq_true', lt_not] at *
      unfold aheadOf at *; omega
    · intro a b
      rw [Bool.or_eq_true]
      simp only [Bool.not_eq_true', lt_not]
      unfold aheadOf; omega
  have hn : ((sorted cs m (symsTo cs k)).map (·.val)).Nodup := hp2.nodup_iff.2 hnd
  rw [List.pairwise_map]
  rw [List.Nodup, List.pairwise_map] at hn
  refine (hs.and hn).imp ?_
  intro a b ⟨h1, h2⟩
  simp only [Bool.not_eq_true', lt_not] at h1
  unfold aheadOf at *
  omega
theorem symsTo_nodup (cs : List Int) (k : Nat) : (symsTo cs k).Nodup := List.nodup_range.filter _
theorem infoInt : (Tryz.prog.info? 3).map (fun i => (i.zero, i.size, i.bytes)) = some (some (.int .i64 0), 1, 8) := by kernel_rfl
/-- An own row of ints. -/
def OwnI (w : World) (base : Nat) (v : Value) (xs : List Int) : Prop := w.ownsRow base 3 1 v xs.length (ivals xs)
theorem nvals_len (xs : List Nat) : (nvals xs).length = xs.length := by simp [nvals]
theorem ivals_one' (xs : List Int) : ∀ v ∈ ivals xs, v.oneCell' = true := by
  intro v hv
  simp only [ivals, List.mem_map] at hv
  obtain ⟨x, _, rfl⟩ := hv
  rfl
theorem sizeI : ∀ W, (Go.sizeOf 3).run Tryz.prog W = .ok 1 W := Tryz.sizeOf3
theorem OwnI.rd {w : World} {base : Nat} {a : Option Addr} {n c : Nat} {xs : List Int} (h : OwnI w base (.slice a n c) xs) (hl : xs.length ≤ 17592186044416) : RdI w a n xs := by
  rcases h.2 with ⟨h1, h2⟩ | ⟨g, cap, cur, h1, h2, h3, h4, h5, h6, h7⟩
  · simp only [Value.slice.injEq] at h1
    obtain ⟨rfl, rfl, rfl⟩ := h1
    exact ⟨h2, by omega, fun h => absurd h (by omega)⟩
  · have hc := World.ownsRow.cells h (g := g) (by rw [h1]; rfl)
    have hlt := (World.ownsRow.lt h g (by rw [h1]; rfl)).2
    simp only [Value.slice.injEq] at h1
    obtain ⟨rfl, rfl, rfl⟩ := h1
    refine ⟨rfl, hl, fun hp => ⟨g, 0, rfl, hlt, fun i hi => ?_⟩⟩
    have := hc i _ (getD_ivals xs i hi)
    rwa [Addr.add_mid] at this
def encF (m : Nat) (x : Fin (m + 1)) : Value := .int .i64 ((x.val : Nat) : Int)
/-- In every world that the sort passes through the comparison is as it should be. -/
theorem cmpF (bx b off len cap g m : Nat) (cs : List Int) (w : World) (hl : len = m + 1) (hb : w.cell? ⟨bx, 0, none⟩ = some (.slice (some ⟨b, off, none⟩) len cap)) (hc : ∀ i, i < len → w.cell? ⟨b, off + i, none⟩ = some (.int .i64 (cs.getD i 0)))
    (h1 : bx < w.heap.size) (h2 : b < w.heap.size) (h3 : bx ≠ g) (h4 : b ≠ g) (n : Nat) : CmpLays1 Tryz.prog 165 #[.pointer (some ⟨bx, 0, none⟩)] (encF m) (cfF cs m) g 0 n w := by
  intro q os dk _ x y
  have hcell : ∀ B o, B < w.heap.size → B ≠ g → (sortWorld (encF m) w g 0 q dk os).cell? ⟨B, o, none⟩ = w.cell? ⟨B, o, none⟩ := fun B o hB hn => by
    unfold sortWorld
    rw [cell?_grow _ _ _ (by simpa using hB), cell?_putRow_other _ _ _ _ _ _ (.inl hn)]
    rfl
  exact closure_any bx b off len cap cs x.val y.val _ (by have := x.isLt; omega) (by have := y.isLt; omega) (by rw [hcell _ _ h1 h3]; exact hb) (by rw [hcell _ _ h2 h4]; exact hc _ (by have := x.isLt; omega)) (by rw [hcell _ _ h2 h4]; exact hc _ (by have := y.isLt; omega))
theorem grown_grow (w : World) (os : Array Obj) : w.grownBy (grow w os) none := ⟨rfl, rfl, rfl, by simp, fun k hk _ => heap_grow_old w os hk⟩
theorem encF_of (m : Nat) (s : Nat) (h : s < m + 1) : encF m (Fin.ofNat (m + 1) s) = .int .i64 (s : Int) := by
  unfold encF; simp [Fin.ofNat, Nat.mod_eq_of_lt h]
/-- What the sort leaves. -/
theorem sort_leaves {w : World} {base g n cap m q : Nat} {xs : List Nat} {cs : List Int} {os : Array Obj} (hx : ∀ s ∈ xs, s < m + 1) (h : OwnI w base (.slice (some ⟨g, 0, none⟩) n cap) (nvals xs)) (ys : List (Fin (m + 1))) (hy : ys.length = xs.length)
    (hH : Holds (encF m) w g 0 (xs.map (Fin.ofNat (m + 1))).toArray) :
    OwnI (sortWorld (encF m) w g 0 q ys.toArray os) base (.slice (some ⟨g, 0, none⟩) n cap) (nvals (ys.map (·.val))) ∧ w.grownBy (sortWorld (encF m) w g 0 q ys.toArray os) (some g) := by
  have e0 : sortWorld (encF m) w g 0 q ys.toArray os = grow ((w.drewN q).setCells g 0 (ivals (nvals (ys.map (·.val))))) os := by
    unfold sortWorld
    rw [Lib.sorted_world (encF m) w g 0 q _ ys os hH (by simpa using hy)]
    have : ys.map (encF m) = ivals (nvals (ys.map (·.val))) := by
      simp only [ivals, nvals, List.map_map]; rfl
    rw [this]
  have hlen : (nvals (ys.map (·.val))).length = (nvals xs).length := by simp [nvals, hy]
  rw [e0]
  have hg1 : w.grownBy ((w.drewN q).setCells g 0 (ivals (nvals (ys.map (·.val))))) (some g) := grown_setCells _ 0 _ ⟨rfl, rfl, rfl, Nat.le_refl _, fun _ _ _ => rfl⟩
  have hg2 := grown_grow ((w.drewN q).setCells g 0 (ivals (nvals (ys.map (·.val))))) os
  refine ⟨?_, ⟨hg2.os.trans hg1.os, hg2.tape.trans hg1.tape, hg2.output.trans hg1.output, Nat.le_trans hg1.size hg2.size, fun i hi hne => (hg2.block i (Nat.lt_of_lt_of_le hi hg1.size) (by simp)).trans (hg1.block i hi hne)⟩⟩
  rcases h.2 with ⟨h1, h2⟩ | ⟨g', cap', cur, h1, h2, h3, h4, h5, h6, h7⟩
  · cases h1
  · simp only [Value.slice.injEq, Option.some.injEq, Addr.mk.injEq, and_true] at h1
    obtain ⟨rfl, hn, rfl⟩ := h1
    have hgl : g < w.heap.size := (Array.getElem?_eq_some_iff.1 h3).1
    have hcl : cur.toList.length = cap := by rw [Array.length_toList, h6, Nat.mul_one]
    have hcell : ((w.drewN q).setCells g 0 (ivals (nvals (ys.map (·.val))))).heap[g]? = some (.cells (cur.toList.take 0 ++ ivals (nvals (ys.map (·.val))) ++ cur.toList.drop (0 + (ivals (nvals (ys.map (·.val)))).length)).toArray 3) := by
      refine setCells_cells _ cur.toList 0 (w.drewN q) ?_ ?_
      · show w.heap[g]? = _
        rw [h3]
      · rw [length_ivals, hlen, hcl]; omega
    rw [List.take_zero, List.nil_append, Nat.zero_add, length_ivals, hlen] at hcell
    refine ⟨by rw [length_ivals, Nat.mul_one], .inr ⟨g, cap, _, by rw [hlen, ← hn], h2, (hg2.block g (Nat.lt_of_lt_of_le hgl hg1.size) (by simp)).trans hcell, by rw [hlen]; exact h4, h5, ?_, ?_⟩⟩
    · rw [List.size_toArray, List.length_append, length_ivals, hlen, List.length_drop, hcl]; omega
    · rw [List.toList_toArray, hlen, Nat.mul_one, ← hlen, ← length_ivals, List.take_left]
theorem new_one (w : World) (x : Value) (t : TypeId) (j : Nat) (u : Value) (h : [x][j]? = some u) : (w.alloc (.cells #[x] t)).cell? ((⟨w.heap.size, 0, none⟩ : Addr).add j) = some u := by
  cases j with
  | zero =>
    have e : x = u := by simpa using h
    subst e; simp [Addr.add]
  | succ j => simp at h
theorem own_addI {w : World} {base : Nat} {v : Value} {xs : List Nat} {k : Nat} (h : w.ownsRow base 3 1 v (xs.length + 1) (ivals (nvals xs) ++ [.int .i64 (k : Int)])) : OwnI w base v (nvals (xs ++ [k])) := by
  unfold OwnI
  rw [nvals_len, List.length_append]
  have e : ivals (nvals (xs ++ [k])) = ivals (nvals xs) ++ [.int .i64 (k : Int)] := by simp [ivals, nvals, VI]
  rw [e]
  exact h
theorem own_holds {w : World} {base g n cap m : Nat} {xs : List Nat} (hx : ∀ s ∈ xs, s < m + 1) (h : OwnI w base (.slice (some ⟨g, 0, none⟩) n cap) (nvals xs)) : Holds (encF m) w g 0 (xs.map (Fin.ofNat (m + 1))).toArray := by
  intro j hj
  have hj' : j < xs.length := by simpa using hj
  have hc := World.ownsRow.cells h (g := g) rfl j _ (getD_ivals (nvals xs) j (by rw [nvals_len]; exact hj'))
  rw [Addr.add_mid] at hc
  refine ⟨?_, ?_⟩
  · rw [hc]
    have e1 : (nvals xs).getD j 0 = ((xs[j] : Nat) : Int) := by
      rw [List.getD_eq_getElem?_getD, nvals, List.getElem?_map, List.getElem?_eq_getElem hj']; rfl
    have e2 : (xs.map (Fin.ofNat (m + 1))).toArray[j]! = Fin.ofNat (m + 1) xs[j] := by
      rw [getElem!_pos _ j (by simpa using hj')]; simp
    rw [e1, e2, encF_of m _ (hx _ (List.getElem_mem hj'))]
  · rcases h.2 with ⟨h1, h2⟩ | ⟨g', cap', cur, h1, h2, h3, _⟩
    · cases h1
    · simp only [Value.slice.injEq, Option.some.injEq, Addr.mk.injEq, and_true] at h1
      obtain ⟨rfl, _⟩ := h1
      exact frozen_of_row _ _ _ _ _ h3
set_option maxHeartbeats 2000000 in
set_option maxRecDepth 100000 in
theorem ordered_any (a : Option Addr) (len cap : Nat) (cs : List Int) (w : World) (hr : RdI w a len cs) (hn : len ≤ 256) (h0 : a = none → len = 0) :
    Calls Tryz.prog 136 #[.slice a len cap] w fun e w' => ∃ a' n c os, e = .returned (.slice a' n c) ∧ RdI w' a' n (nvals os) ∧ Ordered cs os ∧ Below w.heap.size w w' := by
  obtain ⟨i0, hi, hz0, hz1, hz2⟩ := info_of infoInt
  have HL := hide hr.1
  have HC := hide hr.2.2
  clear hr
  have hzc : (Value.int .i64 0).cells.size = 1 := rfl
  have hbx : (w.alloc (.cells #[.slice a len cap] 98)).cell? ⟨w.heap.size, 0, none⟩ = some (.slice a len cap) := by simp
  have HB0 : Hid (Below w.heap.size w (w.alloc (.cells #[.slice a len cap] 98))) := (Below.refl _ _).alloc (Nat.le_refl _) _
  go_enter Tryz.func136, Tryz.ntmps136
  go_wp2_with fail
  obtain ⟨bx, hbxe⟩ : ∃ bx, w.heap.size = bx := ⟨_, rfl⟩
  have HBX := hide hbxe
  have HB1 : Hid (Below bx w (w.alloc (.cells #[.slice a len cap] 98))) := by rw [← hbxe]; exact HB0.out
  have HC0 : Hid ((w.alloc (.cells #[.slice a len cap] 98)).cell? ⟨bx, 0, none⟩ = some (.slice a len cap)) := by rw [← hbxe]; exact hbx
  have HS0 : Hid (bx + 1 ≤ (w.alloc (.cells #[.slice a len cap] 98)).heap.size) := by show _ ≤ _; rw [← hbxe]; simp
  rw [hbxe]
  clear hbx HB0 hbxe
  go_loopw [3, 8] (fun r i wr => ∃ k : Nat, k ≤ len ∧ i = .int .i64 (k : Int) ∧ Hid (OwnI wr (bx + 1) r (nvals (symsTo cs k))) ∧ Hid (wr.cell? ⟨bx, 0, none⟩ = some (.slice a len cap)) ∧ Hid (bx + 1 ≤ wr.heap.size) ∧ Hid (Below bx w wr)) (fun _ i _ => len - (intOf i).toNat)
  case atStart => exact ⟨0, Nat.zero_le _, rfl, World.ownsRow_nil _ _ _ _, HC0, HS0, HB1⟩
  case round =>
    clear HC0 HS0 HB1
    obtain ⟨k, hk, rfl, HO, HX, HS, HB⟩ := hrel
    by_cases hlt : k < len
    · obtain ⟨b1, o1, rfl, hb1, hc1⟩ := HC.out (by omega)
      have g1 := hc1 k hlt
      rw [← HB.out.cell (p := ⟨b1, o1 + k, none⟩) (by show b1 < bx; rw [← HBX.out]; exact hb1)] at g1
      have HAD := hide (fun h => symsTo_add cs k h)
      have HSK := hide (fun h => symsTo_skip cs k h)
      have hki : (k : Int) < (len : Int) := by omega
      have HSL := hide (symsTo_len cs k)
      generalize cs.getD k 0 = x at g1 HAD HSK
      clear hc1
      by_cases hx : 0 < x
      · have HN := hide (HAD.out hx)
        have HOR : Hid (wr.ownsRow (bx + 1) 3 1 u3 (symsTo cs k).length (ivals (nvals (symsTo cs k)))) := by have := HO.out; unfold OwnI at this; rwa [nvals_len] at this
        have hs : bx + 1 ≤ wr.heap.size := HS.out
        generalize symsTo cs k = xs at HOR HN HSL
        go_wp2_with (first
          | (refine wpList_append_own _ rfl (.tmp 15) (.tmp 17) 55 rfl (bx + 1) 3 i0 (.int .i64 0) 1 8 Tryz.underlying55 hi hz0 hz1 hz2 hzc (by omega) u3 xs.length (ivals (nvals xs)) rfl (HOR.out.alloc _) ⟨wr.heap.size, 0, none⟩ 1 1 [.int .i64 (k : Int)] rfl rfl (fun j u h => new_one wr _ _ j u h) (by intro u hu; simp at hu; subst hu; rfl) (by have := HSL.out; unfold maxLen; omega) (by have := HSL.out; omega) (by simp; omega) ?_
             intro v9 w9 hown9 hg9 _))
        have HO9 : Hid (OwnI w9 (bx + 1) v9 (nvals (symsTo cs (k + 1)))) := by rw [HN.out]; exact own_addI hown9
        have hnb : ∀ i, u3.ownBlock = some i → bx + 1 ≤ i := fun i e => (World.ownsRow.lt HOR.out i e).1
        have HX9 : Hid (w9.cell? ⟨bx, 0, none⟩ = some (.slice (some ⟨b1, o1, none⟩) len cap)) := by
          refine hg9.cell ?_ (fun e => by have := hnb bx e.symm; omega)
          exact (World.cell?_alloc_lt _ _ _ (by show bx < _; omega)).trans HX.out
        have HS9 : Hid (bx + 1 ≤ w9.heap.size) := by have := hg9.size; simp at this; show _ ≤ _; omega
        have HB9 : Hid (Below bx w w9) := (HB.out.alloc (by omega) _).grown hg9 (by simp; omega) (fun i e => by have := hnb i e; omega)
        exact ⟨⟨k + 1, by omega, by go_num, HO9, HX9, HS9, HB9⟩, by simp [intOf]; omega⟩
      · have HN := hide (HSK.out hx)
        go_wp2_with fail
        go_roundw
        case rel => exact ⟨k + 1, by omega, by go_num, by rw [HN.out]; exact HO, HX, HS, HB⟩
        case measure => simp [intOf]; omega
    · obtain rfl : k = len := by omega
      have hki : ¬ (k : Int) < (k : Int) := by omega
      have HSL := hide (symsTo_len cs k)
      have HXL := hide (symsTo_lt cs k)
      have HND := hide (symsTo_nodup cs k)
      by_cases hem : symsTo cs k = []
      · have HO0 := hide HO.out
        rw [hem] at HO0
        obtain ⟨p, c, hu3⟩ : ∃ p c, u3 = .slice p 0 c := by
          rcases HO0.out.2 with ⟨h1, h2⟩ | ⟨g, cap', cur, h1, _⟩
          · exact ⟨none, 0, h1⟩
          · exact ⟨_, _, h1⟩
        subst hu3
        have hS := fun W => AnyF.slices_SortFunc_none (P := Tryz.prog) (ρ := sortRen) { sortLays with } p c (.func (.func 165) #[] #[.pointer (some ⟨bx, 0, none⟩)]) W
        change ∀ W, Calls Tryz.prog 164 _ _ _ at hS
        have HSO := hide hS
        have HOK : Hid (Ordered cs []) := ⟨by rw [HL.out, hem], by simp⟩
        clear hS hem HO
        go_wp2_with (go_at_call 164; refine (HSO.out _).mono ?_; rintro e w' ⟨rfl, rfl⟩)
        go_ret
        exact ⟨_, _, _, [], rfl, rdi_zero _ _, HOK.out, by rw [HBX.out]; exact HB.out⟩
      · have hpos : 0 < (symsTo cs k).length := List.length_pos_iff.2 hem
        obtain ⟨m, hm⟩ : ∃ m, k = m + 1 := ⟨k - 1, by have := HSL.out; omega⟩
        obtain ⟨g, c, hu3⟩ : ∃ g c, u3 = .slice (some ⟨g, 0, none⟩) (symsTo cs k).length c := by
          rcases HO.out.2 with ⟨h1, h2⟩ | ⟨g, cap', cur, h1, _⟩
          · rw [nvals_len] at h2; omega
          · rw [nvals_len] at h1; exact ⟨g, cap', h1⟩
        have HOW := hide HO.out
        rw [hu3] at HOW
        obtain ⟨b1, o1, ha1, hb1, hc1⟩ := HC.out (by omega)
        have hgb : bx + 1 ≤ g ∧ g < wr.heap.size := World.ownsRow.lt HOW.out g rfl
        have hx : ∀ s ∈ symsTo cs k, s < m + 1 := fun s hs => by have := HXL.out s hs; omega
        have hH := own_holds hx HOW.out
        have HXX := hide HX.out
        rw [ha1] at HXX
        have hcl : ∀ i, i < k → wr.cell? ⟨b1, o1 + i, none⟩ = some (.int .i64 (cs.getD i 0)) := fun i hi => by
          rw [HB.out.cell (p := ⟨b1, o1 + i, none⟩) (by show b1 < bx; rw [← HBX.out]; exact hb1)]; exact hc1 i hi
        have hbl : b1 < wr.heap.size := by have := HS.out; have := HBX.out; omega
        have eg : ∀ args w, (callFunc 165 args).run Tryz.prog w = .ok (.enter 165 args) w := enters_of Tryz.func165 (by kernel_rfl) rfl
        have hS := Any.slices_SortFunc_total sortLays (encF m) (fun _ => rfl) (cfF cs m) (swoF cs m) 165 #[.pointer (some ⟨bx, 0, none⟩)] g 0 c ((symsTo cs k).map (Fin.ofNat (m + 1))).toArray wr eg
          (cmpF bx b1 o1 k cap g m cs wr hm HXX.out hcl (by have := HS.out; omega) hbl (by omega) (by have := HBX.out; omega) _) hH hgb.2 (by have := HSL.out; simp; omega) (totF cs m)
        change Calls Tryz.prog 164 _ _ _ at hS
        have esz : ((symsTo cs k).map (Fin.ofNat (m + 1))).toArray.size = (symsTo cs k).length := by simp
        rw [esz] at hS
        have HSO := hide hS
        have HOK := hide (sorted_ok cs m (by rw [HL.out, hm]) k (by rw [HL.out]; exact Nat.le_refl _) HND.out)
        have HLV := hide (fun q os => sort_leaves (q := q) (cs := cs) (os := os) hx HOW.out (sorted cs m (symsTo cs k)) (by unfold sorted; rw [List.length_mergeSort, List.length_map]) hH)
        have HSE : Hid ((((symsTo cs k).map (Fin.ofNat (m + 1))).toArray.toList.mergeSort fun x y => !ltOf (cfF cs m) y x).toArray = (sorted cs m (symsTo cs k)).toArray) := rfl
        rw [HSE.out] at HSO
        subst hu3
        have HLS : Hid (((sorted cs m (symsTo cs k)).map (·.val)).length = (symsTo cs k).length) := HOK.out.1.length_eq
        have HLB : Hid ((symsTo cs k).length ≤ k) := HSL.out
        clear hS hH hx eg hcl hem hpos esz HO HSE hm hc1 ha1 hb1 hbl
        generalize (symsTo cs k).length = N at HSO HLV HLS HOW HLB
        have HPE : Hid (Ordered cs ((sorted cs m (symsTo cs k)).map (·.val))) := ⟨by rw [HL.out]; exact HOK.out.1, HOK.out.2⟩
        generalize sorted cs m (symsTo cs k) = SS at HSO HLV HLS HPE HOK
        go_wp2_with (go_at_call 164; refine HSO.out.mono ?_; rintro e w' ⟨rfl, q, os, rfl⟩)
        obtain ⟨L1, L2⟩ := HLV.out q os
        have HR1 := hide (L1.rd (by rw [nvals_len, HLS.out]; have := HLB.out; omega))
        have HB2 := hide <| HB.out.grown L2 (by omega) (fun i e => by cases e; omega)
        clear L1 L2 HSO HLV
        go_ret
        exact ⟨_, _, _, _, rfl, HR1.out, HPE.out, by rw [HBX.out]; exact HB2.out⟩
end Go.Proofs.YthdblnfohbldcaaGreat.Pm
