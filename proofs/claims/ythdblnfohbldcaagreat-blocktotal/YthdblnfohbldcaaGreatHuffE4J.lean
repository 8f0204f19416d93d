/-
  ordered: the symbols with a count, the rarer ones first; its comparison.
-/
import Derived.Test.YthdblnfohbldcaaGreatHuffS0J
import Derived.Test.YthdblnfohbldcaaGreatPaStrsJ
import Derived.Deep.RegionHeld
import Derived.Lib.RowBridge
import Derived.OwnWalk
import Derived.Test.YthdblnfohbldcaaGreatBlModJ
import Derived.WalkArith
namespace Go.Proofs.YthdblnfohbldcaaGreat.Pm
open Go.ChangeShapes Go.WideShapes Go.ChangeAt Go.RowKit
open Go.Proofs.YthdblnfohbldcaaGreat.Base
open Go.Shelf Go.Sort
set_option linter.unusedVariables false
def sgn (a b : Int) : Int := if a < b then -1 else if b < a then 1 else 0
theorem nan64_any (a : Int) (w : World) : Calls Tryz.prog 174 #[.int .i64 a] w fun e w' => e = .returned (.bool false) ∧ w' = w := by
  go_enter Tryz.func174, Tryz.ntmps174
  go_wp2
  go_ret
  exact ⟨rfl, rfl⟩
theorem nanI_any (a : Int) (w : World) : Calls Tryz.prog 144 #[.int .i64 a] w fun e w' => e = .returned (.bool false) ∧ w' = w := by
  go_enter Tryz.func144, Tryz.ntmps144
  go_wp2
  go_ret
  exact ⟨rfl, rfl⟩
theorem cmp64_any (a b : Int) (w : World) : Calls Tryz.prog 167 #[.int .i64 a, .int .i64 b] w fun e w' => e = .returned (.int .i64 (sgn a b)) ∧ w' = w := by
  go_enter Tryz.func167, Tryz.ntmps167
  go_wp2_with fail
  refine (nan64_any _ _).mono ?_
  rintro e w1 ⟨rfl, rfl⟩
  go_wp2_with fail
  refine (nan64_any _ _).mono ?_
  rintro e w1 ⟨rfl, rfl⟩
  by_cases h1 : a < b
  · go_wp2
    go_ret
    exact ⟨ret_int (by unfold sgn; rw [if_pos (by omega)]), rfl⟩
  · by_cases h2 : b < a
    · go_wp2
      go_ret
      exact ⟨ret_int (by unfold sgn; rw [if_neg (by omega), if_pos (by omega)]), rfl⟩
    · go_wp2
      go_ret
      exact ⟨ret_int (by unfold sgn; rw [if_neg (by omega), if_neg (by omega)]), rfl⟩
theorem cmpI_any (a b : Int) (w : World) : Calls Tryz.prog 106 #[.int .i64 a, .int .i64 b] w fun e w' => e = .returned (.int .i64 (sgn a b)) ∧ w' = w := by
  go_enter Tryz.func106, Tryz.ntmps106
  go_wp2_with fail
  refine (nanI_any _ _).mono ?_
  rintro e w1 ⟨rfl, rfl⟩
  go_wp2_with fail
  refine (nanI_any _ _).mono ?_
  rintro e w1 ⟨rfl, rfl⟩
  by_cases h1 : a < b
  · go_wp2
    go_ret
    exact ⟨ret_int (by unfold sgn; rw [if_pos (by omega)]), rfl⟩
  · by_cases h2 : b < a
    · go_wp2
      go_ret
      exact ⟨ret_int (by unfold sgn; rw [if_neg (by omega), if_pos (by omega)]), rfl⟩
    · go_wp2
      go_ret
      exact ⟨ret_int (by unfold sgn; rw [if_neg (by omega), if_neg (by omega)]), rfl⟩
set_option maxHeartbeats 1000000 in
theorem or_any (b : Nat) (c d : Int) (w : World) (h0 : w.cell? ⟨b, 0, none⟩ = some (.int .i64 c)) (h1 : w.cell? ⟨b, 1, none⟩ = some (.int .i64 d)) :
    Calls Tryz.prog 166 #[.slice (some ⟨b, 0, none⟩) 2 2] w fun e w' => e = .returned (.int .i64 (if c = 0 then d else c)) ∧ w' = w := by
  by_cases hc : c = 0
  · have hc1 : (c != 0) = false := by rw [bne_eq_false_iff_eq]; exact hc
    rw [if_pos hc]
    by_cases hd : d = 0
    · have hd1 : (d != 0) = false := by rw [bne_eq_false_iff_eq]; exact hd
      have HD := hide hd
      clear hc hd
      go_enter Tryz.func166, Tryz.ntmps166
      go_wp2
      refine wp_loop_rounds 3 ?_
      rw [rounds_succ]
      go_wp2
      rw [rounds_succ]
      go_wp2
      rw [rounds_succ]
      go_wp2
      go_ret
      exact ⟨ret_int HD.out.symm, rfl⟩
    · have hd1 : (d != 0) = true := by rw [bne_iff_ne]; exact hd
      clear hc hd
      go_enter Tryz.func166, Tryz.ntmps166
      go_wp2
      refine wp_loop_rounds 3 ?_
      rw [rounds_succ]
      go_wp2
      rw [rounds_succ]
      go_wp2
      go_ret
      exact ⟨rfl, rfl⟩
  · have hc1 : (c != 0) = true := by rw [bne_iff_ne]; exact hc
    rw [if_neg hc]
    clear hc
    go_enter Tryz.func166, Tryz.ntmps166
    go_wp2
    refine wp_loop_rounds 3 ?_
    rw [rounds_succ]
    go_wp2
    go_ret
    exact ⟨rfl, rfl⟩
/-- The comparison of two symbols. -/
def cfI (cs : List Int) (x y : Nat) : Int := if sgn (cs.getD x 0) (cs.getD y 0) = 0 then sgn (y : Int) (x : Int) else sgn (cs.getD x 0) (cs.getD y 0)
set_option maxHeartbeats 1000000 in
theorem closure_any (bx : Nat) (b off len cap : Nat) (cs : List Int) (x y : Nat) (w : World) (hx : x < len) (hy : y < len) (hb : w.cell? ⟨bx, 0, none⟩ = some (.slice (some ⟨b, off, none⟩) len cap))
    (h1 : w.cell? ⟨b, off + x, none⟩ = some (.int .i64 (cs.getD x 0))) (h2 : w.cell? ⟨b, off + y, none⟩ = some (.int .i64 (cs.getD y 0))) :
    Calls Tryz.prog 165 #[.int .i64 (x : Int), .int .i64 (y : Int), .pointer (some ⟨bx, 0, none⟩)] w fun e w' => e = .returned (.int .i64 (cfI cs x y)) ∧ ∃ q os', w' = grow (w.drewN q) os' := by
  have HCF : Hid (cfI cs x y = if sgn (cs.getD x 0) (cs.getD y 0) = 0 then sgn (y : Int) (x : Int) else sgn (cs.getD x 0) (cs.getD y 0)) := rfl
  generalize cs.getD x 0 = X at h1 HCF
  generalize cs.getD y 0 = Y at h2 HCF
  have H1 := hide (fun W => cmp64_any X Y W)
  have H2 := hide (fun W => cmpI_any (y : Int) (x : Int) W)
  generalize sgn X Y = S1 at H1 HCF
  generalize sgn (y : Int) (x : Int) = S2 at H2 HCF
  have HO := hide (fun b W h0 h1 => or_any b S1 S2 W h0 h1)
  generalize (if S1 = 0 then S2 else S1) = R at HO HCF
  have hxi : (x : Int) < (len : Int) := by omega
  have hyi : (y : Int) < (len : Int) := by omega
  go_enter Tryz.func165, Tryz.ntmps165
  go_wp2_with fail
  go_region_held (fun V => V.cell? ⟨bx, 0, none⟩ = some (.slice (some ⟨b, off, none⟩) len cap) ∧ V.cell? ⟨b, off + x, none⟩ = some (.int .i64 X) ∧ V.cell? ⟨b, off + y, none⟩ = some (.int .i64 Y)) (go_keep) (first
    | (go_at_call 167; refine (H1.out _).mono ?_; rintro e w1 ⟨rfl, rfl⟩)
    | (go_at_call 106; refine (H2.out _).mono ?_; rintro e w1 ⟨rfl, rfl⟩)
    | (go_at_call 166; refine (HO.out _ _ (by simp) (by simp)).mono ?_; rintro e w1 ⟨rfl, rfl⟩))
  all_goals
    go_wp2_with fail
    go_ret
    exact ⟨ret_int HCF.out.symm, 1, _, by rw [alloc_eq_grow, drew_grow]; rfl⟩
end Go.Proofs.YthdblnfohbldcaaGreat.Pm
/-
  ordered: the symbols with a count, in order.
-/
namespace Go.Proofs.YthdblnfohbldcaaGreat.Pm
open Go.ChangeShapes Go.WideShapes Go.ChangeAt Go.RowKit
open Go.Proofs.YthdblnfohbldcaaGreat.Base
open Go.Shelf Go.Sort
set_option linter.unusedVariables false
/-- The symbols below k with a count. -/
def symsTo (cs : List Int) (k : Nat) : List Nat := (List.range k).filter fun s => decide (0 < cs.getD s 0)
theorem symsTo_zero (cs : List Int) : symsTo cs 0 = [] := rfl
theorem symsTo_add (cs : List Int) (k : Nat) (h : 0 < cs.getD k 0) : symsTo cs (k + 1) = symsTo cs k ++ [k] := by
  unfold symsTo; rw [List.range_succ, List.filter_append, List.filter_cons, if_pos (decide_eq_true h), List.filter_nil]
theorem symsTo_skip (cs : List Int) (k : Nat) (h : ¬ 0 < cs.getD k 0) : symsTo cs (k + 1) = symsTo cs k := by
  unfold symsTo; rw [List.range_succ, List.filter_append, List.filter_cons, if_neg (by rw [decide_eq_false h]; decide), List.filter_nil, List.append_nil]
theorem symsTo_lt (cs : List Int) (k : Nat) : ∀ s ∈ symsTo cs k, s < k := by
  intro s h; unfold symsTo at h; rw [List.mem_filter, List.mem_range] at h; exact h.1
theorem symsTo_len (cs : List Int) (k : Nat) : (symsTo cs k).length ≤ k := by
  have := List.length_filter_le (fun s => decide (0 < cs.getD s 0)) (List.range k)
  rw [List.length_range] at this; exact this
/-- x comes ahead of y. -/
def aheadOf (cs : List Int) (x y : Nat) : Prop := cs.getD x 0 < cs.getD y 0 ∨ cs.getD x 0 = cs.getD y 0 ∧ y < x
/-- The symbols with a count, in their order. -/
def Ordered (cs : List Int) (os : List Nat) : Prop := os.Perm (symsTo cs cs.length) ∧ os.Pairwise (aheadOf cs)
def nvals (xs : List Nat) : List Int := xs.map fun (n : Nat) => (n : Int)
theorem cf_neg (cs : List Int) (x y : Nat) : cfI cs x y < 0 ↔ aheadOf cs x y := by
  unfold cfI sgn aheadOf
  generalize cs.getD x 0 = X
  generalize cs.getD y 0 = Y
  by_cases h1 : X < Y
  · rw [if_pos h1, if_neg (by omega)]
    exact ⟨fun _ => .inl h1, fun _ => by omega⟩
  · by_cases h2 : Y < X
    · rw [if_neg h1, if_pos h2, if_neg (by omega)]
      exact ⟨fun h => by omega, fun h => by omega⟩
    · rw [if_neg h1, if_neg h2, if_pos rfl]
      by_cases h3 : (y : Int) < (x : Int)
      · rw [if_pos h3]
        exact ⟨fun _ => .inr ⟨by omega, by omega⟩, fun _ => by omega⟩
      · rw [if_neg h3]
        constructor
        · intro h; split at h <;> omega
        · intro h; omega
def cfF (cs : List Int) (m : Nat) (x y : Fin (m + 1)) : Int := cfI cs x.val y.val
theorem lt_iff (cs : List Int) (m : Nat) (x y : Fin (m + 1)) : ltOf (cfF cs m) x y = true ↔ aheadOf cs x.val y.val := by
  unfold ltOf; rw [decide_eq_true_iff]; exact cf_neg cs _ _
theorem lt_not (cs : List Int) (m : Nat) (x y : Fin (m + 1)) : ltOf (cfF cs m) x y = false ↔ ¬ aheadOf cs x.val y.val := by
  rw [← lt_iff]; simp
theorem swoF (cs : List Int) (m : Nat) : SWO (ltOf (cfF cs m)) where
  irrefl x := by rw [lt_not]; unfold aheadOf; omega
  trans x y z h1 h2 := by rw [lt_iff] at *; unfold aheadOf at *; omega
  ntrans x y z h1 h2 := by rw [lt_not] at *; unfold aheadOf at *; omega
theorem totF (cs : List Int) (m : Nat) (x y : Fin (m + 1)) (h1 : ltOf (cfF cs m) x y = false) (h2 : ltOf (cfF cs m) y x = false) : x = y := by
  rw [lt_not] at *
  unfold aheadOf at *
  apply Fin.ext
  omega
/-- What sorting makes of the symbols. -/
def sorted (cs : List Int) (m : Nat) (xs : List Nat) : List (Fin (m + 1)) := (xs.map (Fin.ofNat (m + 1))).mergeSort fun x y => !ltOf (cfF cs m) y x
theorem sorted_ok (cs : List Int) (m : Nat) (hm : cs.length = m + 1) (k : Nat) (hk : k ≤ cs.length) (hnd : (symsTo cs k).Nodup) : ((sorted cs m (symsTo cs k)).map (·.val)).Perm (symsTo cs k) ∧ ((sorted cs m (symsTo cs k)).map (·.val)).Pairwise (aheadOf cs) := by
  have hp : (sorted cs m (symsTo cs k)).Perm ((symsTo cs k).map (Fin.ofNat (m + 1))) := List.mergeSort_perm _ _
  have e : ((symsTo cs k).map (Fin.ofNat (m + 1))).map (·.val) = symsTo cs k := by
    rw [List.map_map]
    conv => rhs; rw [← List.map_id (symsTo cs k)]
    apply List.map_congr_left
    intro s hs
    have := symsTo_lt cs k s hs
    simp [Fin.ofNat]
    omega
  have hp2 : ((sorted cs m (symsTo cs k)).map (·.val)).Perm (symsTo cs k) := by
    have := hp.map (·.val)
    rwa [e] at this
  refine ⟨hp2, ?_⟩
  have hs : (sorted cs m (symsTo cs k)).Pairwise fun a b => (!ltOf (cfF cs m) b a) = true := by
    refine List.pairwise_mergeSort ?_ ?_ _
    · intro a b c h1 h2
      simp only [Bool.not_eq_true', lt_not] at *
      unfold aheadOf at *; omega
    · intro a b
      rw [Bool.or_eq_true]
      simp only [Bool.not_eq_true', lt_not]
      unfold aheadOf; omega
  have hn : ((sorted cs m (symsTo cs k)).map (·.val)).Nodup := hp2.nodup_iff.2 hnd
  rw [List.pairwise_map]
  rw [List.Nodup, List.pairwise_map] at hn
  refine (hs.and hn).imp ?_
  intro a b ⟨h1, h2⟩
  simp only [Bool.not_eq_true', lt_not] at h1
  unfold aheadOf at *
  omega
theorem symsTo_nodup (cs : List Int) (k : Nat) : (symsTo cs k).Nodup := List.nodup_range.filter _
theorem infoInt : (Tryz.prog.info? 3).map (fun i => (i.zero, i.size, i.bytes)) = some (some (.int .i64 0), 1, 8) := by kernel_rfl
/-- An own row of ints. -/
def OwnI (w : World) (base : Nat) (v : Value) (xs : List Int) : Prop := w.ownsRow base 3 1 v xs.length (ivals xs)
theorem nvals_len (xs : List Nat) : (nvals xs).length = xs.length := by simp [nvals]
theorem ivals_one' (xs : List Int) : ∀ v ∈ ivals xs, v.oneCell' = true := by
  intro v hv
  simp only [ivals, List.mem_map] at hv
  obtain ⟨x, _, rfl⟩ := hv
  rfl
theorem sizeI : ∀ W, (Go.sizeOf 3).run Tryz.prog W = .ok 1 W := Tryz.sizeOf3
theorem OwnI.rd {w : World} {base : Nat} {a : Option Addr} {n c : Nat} {xs : List Int} (h : OwnI w base (.slice a n c) xs) (hl : xs.length ≤ 17592186044416) : RdI w a n xs := by
  rcases h.2 with ⟨h1, h2⟩ | ⟨g, cap, cur, h1, h2, h3, h4, h5, h6, h7⟩
  · simp only [Value.slice.injEq] at h1
    obtain ⟨rfl, rfl, rfl⟩ := h1
    exact ⟨h2, by omega, fun h => absurd h (by omega)⟩
  · have hc := World.ownsRow.cells h (g := g) (by rw [h1]; rfl)
    have hlt := (World.ownsRow.lt h g (by rw [h1]; rfl)).2
    simp only [Value.slice.injEq] at h1
    obtain ⟨rfl, rfl, rfl⟩ := h1
    refine ⟨rfl, hl, fun hp => ⟨g, 0, rfl, hlt, fun i hi => ?_⟩⟩
    have := hc i _ (getD_ivals xs i hi)
    rwa [Addr.add_mid] at this
def encF (m : Nat) (x : Fin (m + 1)) : Value := .int .i64 ((x.val : Nat) : Int)
/-- In every world that the sort passes through the comparison is as it should be. -/
theorem cmpF (bx b off len cap g m : Nat) (cs : List Int) (w : World) (hl : len = m + 1) (hb : w.cell? ⟨bx, 0, none⟩ = some (.slice (some ⟨b, off, none⟩) len cap)) (hc : ∀ i, i < len → w.cell? ⟨b, off + i, none⟩ = some (.int .i64 (cs.getD i 0)))
    (h1 : bx < w.heap.size) (h2 : b < w.heap.size) (h3 : bx ≠ g) (h4 : b ≠ g) (n : Nat) : CmpLays1 Tryz.prog 165 #[.pointer (some ⟨bx, 0, none⟩)] (encF m) (cfF cs m) g 0 n w := by
  intro q os dk _ x y
  have hcell : ∀ B o, B < w.heap.size → B ≠ g → (sortWorld (encF m) w g 0 q dk os).cell? ⟨B, o, none⟩ = w.cell? ⟨B, o, none⟩ := fun B o hB hn => by
    unfold sortWorld
    rw [cell?_grow _ _ _ (by simpa using hB), cell?_putRow_other _ _ _ _ _ _ (.inl hn)]
    rfl
  exact closure_any bx b off len cap cs x.val y.val _ (by have := x.isLt; omega) (by have := y.isLt; omega) (by rw [hcell _ _ h1 h3]; exact hb) (by rw [hcell _ _ h2 h4]; exact hc _ (by have := x.isLt; omega)) (by rw [hcell _ _ h2 h4]; exact hc _ (by have := y.isLt; omega))
theorem grown_grow (w : World) (os : Array Obj) : w.grownBy (grow w os) none := ⟨rfl, rfl, rfl, by simp, fun k hk _ => heap_grow_old w os hk⟩
theorem encF_of (m : Nat) (s : Nat) (h : s < m + 1) : encF m (Fin.ofNat (m + 1) s) = .int .i64 (s : Int) := by
  unfold encF; simp [Fin.ofNat, Nat.mod_eq_of_lt h]
/-- What the sort leaves. -/
theorem sort_leaves {w : World} {base g n cap m q : Nat} {xs : List Nat} {cs : List Int} {os : Array Obj} (hx : ∀ s ∈ xs, s < m + 1) (h : OwnI w base (.slice (some ⟨g, 0, none⟩) n cap) (nvals xs)) (ys : List (Fin (m + 1))) (hy : ys.length = xs.length)
    (hH : Holds (encF m) w g 0 (xs.map (Fin.ofNat (m + 1))).toArray) :
    OwnI (sortWorld (encF m) w g 0 q ys.toArray os) base (.slice (some ⟨g, 0, none⟩) n cap) (nvals (ys.map (·.val))) ∧ w.grownBy (sortWorld (encF m) w g 0 q ys.toArray os) (some g) := by
  have e0 : sortWorld (encF m) w g 0 q ys.toArray os = grow ((w.drewN q).setCells g 0 (ivals (nvals (ys.map (·.val))))) os := by
    unfold sortWorld
    rw [Lib.sorted_world (encF m) w g 0 q _ ys os hH (by simpa using hy)]
    have : ys.map (encF m) = ivals (nvals (ys.map (·.val))) := by
      simp only [ivals, nvals, List.map_map]; rfl
    rw [this]
  have hlen : (nvals (ys.map (·.val))).length = (nvals xs).length := by simp [nvals, hy]
  rw [e0]
  have hg1 : w.grownBy ((w.drewN q).setCells g 0 (ivals (nvals (ys.map (·.val))))) (some g) := grown_setCells _ 0 _ ⟨rfl, rfl, rfl, Nat.le_refl _, fun _ _ _ => rfl⟩
  have hg2 := grown_grow ((w.drewN q).setCells g 0 (ivals (nvals (ys.map (·.val))))) os
  refine ⟨?_, ⟨hg2.os.trans hg1.os, hg2.tape.trans hg1.tape, hg2.output.trans hg1.output, Nat.le_trans hg1.size hg2.size, fun i hi hne => (hg2.block i (Nat.lt_of_lt_of_le hi hg1.size) (by simp)).trans (hg1.block i hi hne)⟩⟩
  rcases h.2 with ⟨h1, h2⟩ | ⟨g', cap', cur, h1, h2, h3, h4, h5, h6, h7⟩
  · cases h1
  · simp only [Value.slice.injEq, Option.some.injEq, Addr.mk.injEq, and_true] at h1
    obtain ⟨rfl, hn, rfl⟩ := h1
    have hgl : g < w.heap.size := (Array.getElem?_eq_some_iff.1 h3).1
    have hcl : cur.toList.length = cap := by rw [Array.length_toList, h6, Nat.mul_one]
    have hcell : ((w.drewN q).setCells g 0 (ivals (nvals (ys.map (·.val))))).heap[g]? = some (.cells (cur.toList.take 0 ++ ivals (nvals (ys.map (·.val))) ++ cur.toList.drop (0 + (ivals (nvals (ys.map (·.val)))).length)).toArray 3) := by
      refine setCells_cells _ cur.toList 0 (w.drewN q) ?_ ?_
      · show w.heap[g]? = _
        rw [h3]
      · rw [length_ivals, hlen, hcl]; omega
    rw [List.take_zero, List.nil_append, Nat.zero_add, length_ivals, hlen] at hcell
    refine ⟨by rw [length_ivals, Nat.mul_one], .inr ⟨g, cap, _, by rw [hlen, ← hn], h2, (hg2.block g (Nat.lt_of_lt_of_le hgl hg1.size) (by simp)).trans hcell, by rw [hlen]; exact h4, h5, ?_, ?_⟩⟩
    · rw [List.size_toArray, List.length_append, length_ivals, hlen, List.length_drop, hcl]; omega
    · rw [List.toList_toArray, hlen, Nat.mul_one, ← hlen, ← length_ivals, List.take_left]
theorem new_one (w : World) (x : Value) (t : TypeId) (j : Nat) (u : Value) (h : [x][j]? = some u) : (w.alloc (.cells #[x] t)).cell? ((⟨w.heap.size, 0, none⟩ : Addr).add j) = some u := by
  cases j with
  | zero =>
    have e : x = u := by simpa using h
    subst e; simp [Addr.add]
  | succ j => simp at h
theorem own_addI {w : World} {base : Nat} {v : Value} {xs : List Nat} {k : Nat} (h : w.ownsRow base 3 1 v (xs.length + 1) (ivals (nvals xs) ++ [.int .i64 (k : Int)])) : OwnI w base v (nvals (xs ++ [k])) := by
  unfold OwnI
  rw [nvals_len, List.length_append]
  have e : ivals (nvals (xs ++ [k])) = ivals (nvals xs) ++ [.int .i64 (k : Int)] := by simp [ivals, nvals, VI]
  rw [e]
  exact h
theorem own_holds {w : World} {base g n cap m : Nat} {xs : List Nat} (hx : ∀ s ∈ xs, s < m + 1) (h : OwnI w base (.slice (some ⟨g, 0, none⟩) n cap) (nvals xs)) : Holds (encF m) w g 0 (xs.map (Fin.ofNat (m + 1))).toArray := by
  intro j hj
  have hj' : j < xs.length := by simpa using hj
  have hc := World.ownsRow.cells h (g := g) rfl j _ (getD_ivals (nvals xs) j (by rw [nvals_len]; exact hj'))
  rw [Addr.add_mid] at hc
  refine ⟨?_, ?_⟩
  · rw [hc]
    have e1 : (nvals xs).getD j 0 = ((xs[j] : Nat) : Int) := by
      rw [List.getD_eq_getElem?_getD, nvals, List.getElem?_map, List.getElem?_eq_getElem hj']; rfl
    have e2 : (xs.map (Fin.ofNat (m + 1))).toArray[j]! = Fin.ofNat (m + 1) xs[j] := by
      rw [getElem!_pos _ j (by simpa using hj')]; simp
    rw [e1, e2, encF_of m _ (hx _ (List.getElem_mem hj'))]
  · rcases h.2 with ⟨h1, h2⟩ | ⟨g', cap', cur, h1, h2, h3, _⟩
    · cases h1
    · simp only [Value.slice.injEq, Option.some.injEq, Addr.mk.injEq, and_true] at h1
      obtain ⟨rfl, _⟩ := h1
      exact frozen_of_row _ _ _ _ _ h3
set_option maxHeartbeats 2000000 in
set_option maxRecDepth 100000 in
theorem ordered_any (a : Option Addr) (len cap : Nat) (cs : List Int) (w : World) (hr : RdI w a len cs) (hn : len ≤ 256) (h0 : a = none → len = 0) :
    Calls Tryz.prog 136 #[.slice a len cap] w fun e w' => ∃ a' n c os, e = .returned (.slice a' n c) ∧ RdI w' a' n (nvals os) ∧ Ordered cs os ∧ Below w.heap.size w w' := by
  obtain ⟨i0, hi, hz0, hz1, hz2⟩ := info_of infoInt
  have HL := hide hr.1
  have HC := hide hr.2.2
  clear hr
  have hzc : (Value.int .i64 0).cells.size = 1 := rfl
  have hbx : (w.alloc (.cells #[.slice a len cap] 98)).cell? ⟨w.heap.size, 0, none⟩ = some (.slice a len cap) := by simp
  have HB0 : Hid (Below w.heap.size w (w.alloc (.cells #[.slice a len cap] 98))) := (Below.refl _ _).alloc (Nat.le_refl _) _
  go_enter Tryz.func136, Tryz.ntmps136
  go_wp2_with fail
  obtain ⟨bx, hbxe⟩ : ∃ bx, w.heap.size = bx := ⟨_, rfl⟩
  have HBX := hide hbxe
  have HB1 : Hid (Below bx w (w.alloc (.cells #[.slice a len cap] 98))) := by rw [← hbxe]; exact HB0.out
  have HC0 : Hid ((w.alloc (.cells #[.slice a len cap] 98)).cell? ⟨bx, 0, none⟩ = some (.slice a len cap)) := by rw [← hbxe]; exact hbx
  have HS0 : Hid (bx + 1 ≤ (w.alloc (.cells #[.slice a len cap] 98)).heap.size) := by show _ ≤ _; rw [← hbxe]; simp
  rw [hbxe]
  clear hbx HB0 hbxe
  go_loopw [3, 8] (fun r i wr => ∃ k : Nat, k ≤ len ∧ i = .int .i64 (k : Int) ∧ Hid (OwnI wr (bx + 1) r (nvals (symsTo cs k))) ∧ Hid (wr.cell? ⟨bx, 0, none⟩ = some (.slice a len cap)) ∧ Hid (bx + 1 ≤ wr.heap.size) ∧ Hid (Below bx w wr)) (fun _ i _ => len - (intOf i).toNat)
  case atStart => exact ⟨0, Nat.zero_le _, rfl, World.ownsRow_nil _ _ _ _, HC0, HS0, HB1⟩
  case round =>
    clear HC0 HS0 HB1
    obtain ⟨k, hk, rfl, HO, HX, HS, HB⟩ := hrel
    by_cases hlt : k < len
    · obtain ⟨b1, o1, rfl, hb1, hc1⟩ := HC.out (by omega)
      have g1 := hc1 k hlt
      rw [← HB.out.cell (p := ⟨b1, o1 + k, none⟩) (by show b1 < bx; rw [← HBX.out]; exact hb1)] at g1
      have HAD := hide (fun h => symsTo_add cs k h)
      have HSK := hide (fun h => symsTo_skip cs k h)
      have hki : (k : Int) < (len : Int) := by omega
      have HSL := hide (symsTo_len cs k)
      generalize cs.getD k 0 = x at g1 HAD HSK
      clear hc1
      by_cases hx : 0 < x
      · have HN := hide (HAD.out hx)
        have HOR : Hid (wr.ownsRow (bx + 1) 3 1 u3 (symsTo cs k).length (ivals (nvals (symsTo cs k)))) := by have := HO.out; unfold OwnI at this; rwa [nvals_len] at this
        have hs : bx + 1 ≤ wr.heap.size := HS.out
        generalize symsTo cs k = xs at HOR HN HSL
        go_wp2_with (first
          | (refine wpList_append_own _ rfl (.tmp 15) (.tmp 17) 55 rfl (bx + 1) 3 i0 (.int .i64 0) 1 8 Tryz.underlying55 hi hz0 hz1 hz2 hzc (by omega) u3 xs.length (ivals (nvals xs)) rfl (HOR.out.alloc _) ⟨wr.heap.size, 0, none⟩ 1 1 [.int .i64 (k : Int)] rfl rfl (fun j u h => new_one wr _ _ j u h) (by intro u hu; simp at hu; subst hu; rfl) (by have := HSL.out; unfold maxLen; omega) (by have := HSL.out; omega) (by simp; omega) ?_
             intro v9 w9 hown9 hg9 _))
        have HO9 : Hid (OwnI w9 (bx + 1) v9 (nvals (symsTo cs (k + 1)))) := by rw [HN.out]; exact own_addI hown9
        have hnb : ∀ i, u3.ownBlock = some i → bx + 1 ≤ i := fun i e => (World.ownsRow.lt HOR.out i e).1
        have HX9 : Hid (w9.cell? ⟨bx, 0, none⟩ = some (.slice (some ⟨b1, o1, none⟩) len cap)) := by
          refine hg9.cell ?_ (fun e => by have := hnb bx e.symm; omega)
          exact (World.cell?_alloc_lt _ _ _ (by show bx < _; omega)).trans HX.out
        have HS9 : Hid (bx + 1 ≤ w9.heap.size) := by have := hg9.size; simp at this; show _ ≤ _; omega
        have HB9 : Hid (Below bx w w9) := (HB.out.alloc (by omega) _).grown hg9 (by simp; omega) (fun i e => by have := hnb i e; omega)
        exact ⟨⟨k + 1, by omega, by go_num, HO9, HX9, HS9, HB9⟩, by simp [intOf]; omega⟩
      · have HN := hide (HSK.out hx)
        go_wp2_with fail
        go_roundw
        case rel => exact ⟨k + 1, by omega, by go_num, by rw [HN.out]; exact HO, HX, HS, HB⟩
        case measure => simp [intOf]; omega
    · obtain rfl : k = len := by omega
      have hki : ¬ (k : Int) < (k : Int) := by omega
      have HSL := hide (symsTo_len cs k)
      have HXL := hide (symsTo_lt cs k)
      have HND := hide (symsTo_nodup cs k)
      by_cases hem : symsTo cs k = []
      · have HO0 := hide HO.out
        rw [hem] at HO0
        obtain ⟨p, c, hu3⟩ : ∃ p c, u3 = .slice p 0 c := by
          rcases HO0.out.2 with ⟨h1, h2⟩ | ⟨g, cap', cur, h1, _⟩
          · exact ⟨none, 0, h1⟩
          · exact ⟨_, _, h1⟩
        subst hu3
        have hS := fun W => AnyF.slices_SortFunc_none (P := Tryz.prog) (ρ := sortRen) { sortLays with } p c (.func (.func 165) #[] #[.pointer (some ⟨bx, 0, none⟩)]) W
        change ∀ W, Calls Tryz.prog 164 _ _ _ at hS
        have HSO := hide hS
        have HOK : Hid (Ordered cs []) := ⟨by rw [HL.out, hem], by simp⟩
        clear hS hem HO
        go_wp2_with (go_at_call 164; refine (HSO.out _).mono ?_; rintro e w' ⟨rfl, rfl⟩)
        go_ret
        exact ⟨_, _, _, [], rfl, rdi_zero _ _, HOK.out, by rw [HBX.out]; exact HB.out⟩
      · have hpos : 0 < (symsTo cs k).length := List.length_pos_iff.2 hem
        obtain ⟨m, hm⟩ : ∃ m, k = m + 1 := ⟨k - 1, by have := HSL.out; omega⟩
        obtain ⟨g, c, hu3⟩ : ∃ g c, u3 = .slice (some ⟨g, 0, none⟩) (symsTo cs k).length c := by
          rcases HO.out.2 with ⟨h1, h2⟩ | ⟨g, cap', cur, h1, _⟩
          · rw [nvals_len] at h2; omega
          · rw [nvals_len] at h1; exact ⟨g, cap', h1⟩
        have HOW := hide HO.out
        rw [hu3] at HOW
        obtain ⟨b1, o1, ha1, hb1, hc1⟩ := HC.out (by omega)
        have hgb : bx + 1 ≤ g ∧ g < wr.heap.size := World.ownsRow.lt HOW.out g rfl
        have hx : ∀ s ∈ symsTo cs k, s < m + 1 := fun s hs => by have := HXL.out s hs; omega
        have hH := own_holds hx HOW.out
        have HXX := hide HX.out
        rw [ha1] at HXX
        have hcl : ∀ i, i < k → wr.cell? ⟨b1, o1 + i, none⟩ = some (.int .i64 (cs.getD i 0)) := fun i hi => by
          rw [HB.out.cell (p := ⟨b1, o1 + i, none⟩) (by show b1 < bx; rw [← HBX.out]; exact hb1)]; exact hc1 i hi
        have hbl : b1 < wr.heap.size := by have := HS.out; have := HBX.out; omega
        have eg : ∀ args w, (callFunc 165 args).run Tryz.prog w = .ok (.enter 165 args) w := enters_of Tryz.func165 (by kernel_rfl) rfl
        have hS := Any.slices_SortFunc_total sortLays (encF m) (fun _ => rfl) (cfF cs m) (swoF cs m) 165 #[.pointer (some ⟨bx, 0, none⟩)] g 0 c ((symsTo cs k).map (Fin.ofNat (m + 1))).toArray wr eg
          (cmpF bx b1 o1 k cap g m cs wr hm HXX.out hcl (by have := HS.out; omega) hbl (by omega) (by have := HBX.out; omega) _) hH hgb.2 (by have := HSL.out; simp; omega) (totF cs m)
        change Calls Tryz.prog 164 _ _ _ at hS
        have esz : ((symsTo cs k).map (Fin.ofNat (m + 1))).toArray.size = (symsTo cs k).length := by simp
        rw [esz] at hS
        have HSO := hide hS
        have HOK := hide (sorted_ok cs m (by rw [HL.out, hm]) k (by rw [HL.out]; exact Nat.le_refl _) HND.out)
        have HLV := hide (fun q os => sort_leaves (q := q) (cs := cs) (os := os) hx HOW.out (sorted cs m (symsTo cs k)) (by unfold sorted; rw [List.length_mergeSort, List.length_map]) hH)
        have HSE : Hid ((((symsTo cs k).map (Fin.ofNat (m + 1))).toArray.toList.mergeSort fun x y => !ltOf (cfF cs m) y x).toArray = (sorted cs m (symsTo cs k)).toArray) := rfl
        rw [HSE.out] at HSO
        subst hu3
        have HLS : Hid (((sorted cs m (symsTo cs k)).map (·.val)).length = (symsTo cs k).length) := HOK.out.1.length_eq
        have HLB : Hid ((symsTo cs k).length ≤ k) := HSL.out
        clear hS hH hx eg hcl hem hpos esz HO HSE hm hc1 ha1 hb1 hbl
        generalize (symsTo cs k).length = N at HSO HLV HLS HOW HLB
        have HPE : Hid (Ordered cs ((sorted cs m (symsTo cs k)).map (·.val))) := ⟨by rw [HL.out]; exact HOK.out.1, HOK.out.2⟩
        generalize sorted cs m (symsTo cs k) = SS at HSO HLV HLS HPE HOK
        go_wp2_with (go_at_call 164; refine HSO.out.mono ?_; rintro e w' ⟨rfl, q, os, rfl⟩)
        obtain ⟨L1, L2⟩ := HLV.out q os
        have HR1 := hide (L1.rd (by rw [nvals_len, HLS.out]; have := HLB.out; omega))
        have HB2 := hide <| HB.out.grown L2 (by omega) (fun i e => by cases e; omega)
        clear L1 L2 HSO HLV
        go_ret
        exact ⟨_, _, _, _, rfl, HR1.out, HPE.out, by rw [HBX.out]; exact HB2.out⟩
end Go.Proofs.YthdblnfohbldcaaGreat.Pm
/-
  putLengths: lengths as pairs of bytes.
-/
namespace Go.Proofs.YthdblnfohbldcaaGreat.Huff
open Go.ChangeShapes Go.WideShapes Go.ChangeAt Go.RowKit
open Go.Proofs.YthdblnfohbldcaaGreat.Base
set_option linter.unusedVariables false
/-- How many at the head are alike. -/
def runOf : List Int → Nat
  | [] => 0
  | x :: r => 1 + (r.takeWhile fun y => decide (y = x)).length
def pairsGo : Nat → List Int → List (BitVec 8)
  | 0, _ => []
  | f + 1, ls => if ls = [] then [] else Nums.put (runOf ls) ++ [BitVec.ofNat 8 (ls.getD 0 0).toNat] ++ pairsGo f (ls.drop (runOf ls))
/-- Without the zeros at the end. -/
def trimmed (ls : List Int) : List Int := (ls.reverse.dropWhile fun x => decide (x = 0)).reverse
def pairsOf (ls : List Int) : List (BitVec 8) := pairsGo (trimmed ls).length (trimmed ls)
theorem runOf_pos {ls : List Int} (h : ls ≠ []) : 1 ≤ runOf ls ∧ runOf ls ≤ ls.length := by
  cases ls with
  | nil => exact absurd rfl h
  | cons x r =>
    have h2 := (List.takeWhile_sublist (fun y => decide (y = x)) (l := r)).length_le
    simp only [runOf, List.length_cons]
    omega
theorem pairsGo_more : ∀ (f : Nat) (ls : List Int) (g : Nat), ls.length ≤ f → ls.length ≤ g → pairsGo f ls = pairsGo g ls
  | 0, ls, g, h, _ => by
    have : ls = [] := List.length_eq_zero_iff.1 (by omega)
    subst this
    cases g <;> simp [pairsGo]
  | f + 1, ls, 0, _, h => by
    have : ls = [] := List.length_eq_zero_iff.1 (by omega)
    subst this
    simp [pairsGo]
  | f + 1, ls, g + 1, h1, h2 => by
    simp only [pairsGo]
    by_cases e : ls = []
    · rw [if_pos e, if_pos e]
    · rw [if_neg e, if_neg e]
      have := runOf_pos e
      rw [pairsGo_more f (ls.drop (runOf ls)) g (by rw [List.length_drop]; omega) (by rw [List.length_drop]; omega)]
theorem pairs_step {ls : List Int} (h : ls ≠ []) : pairsGo ls.length ls = Nums.put (runOf ls) ++ [BitVec.ofNat 8 (ls.getD 0 0).toNat] ++ pairsGo (ls.drop (runOf ls)).length (ls.drop (runOf ls)) := by
  have hp := runOf_pos h
  obtain ⟨f, hf⟩ : ∃ f, ls.length = f + 1 := ⟨ls.length - 1, by omega⟩
  rw [hf]
  simp only [pairsGo]
  rw [if_neg h, pairsGo_more f _ (ls.drop (runOf ls)).length (by rw [List.length_drop]; omega) (Nat.le_refl _)]
theorem trim_zero (ls : List Int) (l : Nat) (h : l < ls.length) (h0 : ls.getD l 0 = 0) : trimmed (ls.take (l + 1)) = trimmed (ls.take l) := by
  have e : ls.getD l 0 = ls[l] := by rw [List.getD_eq_getElem?_getD, List.getElem?_eq_getElem h]; rfl
  unfold trimmed
  rw [List.take_succ_eq_append_getElem h, List.reverse_append, List.reverse_singleton, List.singleton_append, List.dropWhile_cons, if_pos (by rw [← e, h0]; decide)]
theorem trim_keep (ls : List Int) (l : Nat) (h : l < ls.length) (h0 : ls.getD l 0 ≠ 0) : trimmed (ls.take (l + 1)) = ls.take (l + 1) := by
  have e : ls.getD l 0 = ls[l] := by rw [List.getD_eq_getElem?_getD, List.getElem?_eq_getElem h]; rfl
  unfold trimmed
  rw [List.take_succ_eq_append_getElem h, List.reverse_append, List.reverse_singleton, List.singleton_append, List.dropWhile_cons, if_neg (by rw [← e]; simpa using h0)]
  simp
theorem run_at {ls : List Int} {r : Nat} (h : ∀ j, j < r → ls.getD j 0 = ls.getD 0 0) (hr : 1 ≤ r) (hl : r ≤ ls.length) (hs : r = ls.length ∨ ls.getD r 0 ≠ ls.getD 0 0) : runOf ls = r := by
  cases ls with
  | nil => simp at hl; omega
  | cons x t =>
    simp only [runOf]
    have hx : (x :: t).getD 0 0 = x := rfl
    rw [hx] at h hs
    obtain ⟨m, rfl⟩ : ∃ m, r = m + 1 := ⟨r - 1, by omega⟩
    have key : ∀ (t : List Int) (m : Nat), m ≤ t.length → (∀ j, j < m → t.getD j 0 = x) → (m = t.length ∨ t.getD m 0 ≠ x) → (t.takeWhile fun y => decide (y = x)).length = m := by
      intro t
      induction t with
      | nil => intro m h1 _ _; simp at h1; subst h1; rfl
      | cons y t ih =>
        intro m h1 h2 h3
        cases m with
        | zero =>
          rcases h3 with h3 | h3
          · simp at h3
          · rw [List.takeWhile_cons, if_neg (by simpa using h3)]; rfl
        | succ m =>
          have hy : y = x := h2 0 (by omega)
          rw [List.takeWhile_cons, if_pos (by simpa using hy), List.length_cons, ih m (by simpa using h1) (fun j hj => h2 (j + 1) (by omega)) (by simpa using h3)]
    rw [key t m (by simpa using hl) (fun j hj => h (j + 1) (by omega)) (by simpa using hs)]
    omega
theorem elemInts : Tryz.prog.underlying 55 = some (.slice (Tryz.prog.elem 55)) := by kernel_rfl
theorem elemIntSize (W : World) : (sizeOf (Tryz.prog.elem 55)).run Tryz.prog W = .ok 1 W := by
  have h : (Tryz.prog.info? (Tryz.prog.elem 55)).map (·.size) = some 1 := by kernel_rfl
  cases hq : Tryz.prog.info? (Tryz.prog.elem 55) with
  | none => simp [hq] at h
  | some i => simp [hq] at h; simp [sizeOf, typeInfo, hq, h]
/-- 'lens[e:]'. -/
theorem slice_ints (b off len cap e : Nat) (h : e ≤ len) (hc : len ≤ cap) : ∃ la : Addr, (∀ W, (Instr.sliceAt 55 (.slice (some ⟨b, off, none⟩) len cap) (some (.int .i64 (e : Int))) none none).run Tryz.prog W = .ok (.slice (some la) (len - e) (cap - e)) W) ∧
    (e < len → la = ⟨b, off + e, none⟩) := by
  refine ⟨if cap = e then ⟨b, off, none⟩ else ⟨b, off + e, none⟩, fun W => ?_, fun hc => by rw [if_neg (by omega)]⟩
  rw [run_sliceAt_slice (h := elemInts), run_slice_l (ht := elemInts) (h0 := by omega) (h1 := by omega), elemIntSize]
  simp only [Result.andThen, sliced, Int.toNat_natCast]
  by_cases hc : cap = e
  · rw [if_pos hc, if_pos hc]
  · rw [if_neg hc, if_neg hc]
    simp [Addr.add]
theorem rdi_rest {w : World} {b off len e : Nat} {la : Addr} {xs : List Int} (hr : RdI w (some ⟨b, off, none⟩) len xs) (h : e ≤ len) (hl : e < len → la = ⟨b, off + e, none⟩) : RdI w (some la) (len - e) (xs.drop e) := by
  refine ⟨by rw [List.length_drop, hr.1], by have := hr.2.1; omega, fun hp => ?_⟩
  obtain ⟨b', o', e1, hb, hc⟩ := hr.2.2 (by omega)
  simp only [Option.some.injEq, Addr.mk.injEq, and_true] at e1
  obtain ⟨rfl, rfl⟩ := e1
  refine ⟨b, off + e, by rw [hl (by omega)], hb, fun i hi => ?_⟩
  rw [Nat.add_assoc, hc (e + i) (by omega), List.getD_eq_getElem?_getD, List.getD_eq_getElem?_getD, List.getElem?_drop]
theorem rdi_cut {w : World} {a : Option Addr} {len m : Nat} {xs : List Int} (hr : RdI w a len xs) (h : m ≤ len) : RdI w a m (xs.take m) := by
  refine ⟨by rw [List.length_take, hr.1]; omega, by have := hr.2.1; omega, fun hp => ?_⟩
  obtain ⟨b', o', e1, hb, hc⟩ := hr.2.2 (by omega)
  refine ⟨b', o', e1, hb, fun i hi => ?_⟩
  rw [hc i (by omega), List.getD_eq_getElem?_getD, List.getD_eq_getElem?_getD, List.getElem?_take, if_pos hi]
end Go.Proofs.YthdblnfohbldcaaGreat.Huff
/-
  putLengths: the walk.
-/
namespace Go.Proofs.YthdblnfohbldcaaGreat.Huff
open Go.ChangeShapes Go.WideShapes Go.ChangeAt Go.RowKit
open Go.Proofs.YthdblnfohbldcaaGreat.Base
set_option linter.unusedVariables false
def slenE : Value → Nat | .slice _ l _ => l | _ => 0
theorem pairs_len : ∀ (f : Nat) (ls : List Int), ls.length ≤ 1000 → (pairsGo f ls).length ≤ 10 * ls.length
  | 0, ls, _ => by simp [pairsGo]
  | f + 1, ls, h => by
    simp only [pairsGo]
    by_cases e : ls = []
    · rw [if_pos e]; simp
    · rw [if_neg e]
      have h1 := runOf_pos e
      have h2 := (Nums.put_nine (runOf ls) (by omega)).2
      have h3 := pairs_len f (ls.drop (runOf ls)) (by rw [List.length_drop]; omega)
      rw [List.length_drop] at h3
      simp only [List.length_append, List.length_singleton]
      omega
theorem drewN_moreE {w wr : World} (h : ∃ m, wr = w.drewN m) (n : Nat) : ∃ m, wr.drewN n = w.drewN m := by
  obtain ⟨m, rfl⟩ := h
  exact ⟨m + n, by simp [World.drewN, Nat.add_assoc]⟩
theorem b8_of (x : Int) (h0 : 0 ≤ x) (h1 : x ≤ 15) : ((BitVec.ofNat 8 x.toNat).toNat : Int) = x := by
  rw [BitVec.toNat_ofNat]; omega
theorem trim_nil (ls : List Int) : trimmed (ls.take 0) = ls.take 0 := by rw [List.take_zero]; rfl
set_option maxHeartbeats 2000000 in
set_option maxRecDepth 100000 in
theorem putLengths_any (a : Option Addr) (len cap : Nat) (ls : List Int) (w : World) (hr : RdI w a len ls) (hc : len ≤ cap) (hcm : cap ≤ 9223372036854775807) (hn : len ≤ 256) (hin : allIn 15 ls = true) :
    Calls Tryz.prog 56 #[.slice none 0 0, .slice a len cap] w fun e w' => ∃ v, e = .returned v ∧ Own w' w.heap.size v (pairsOf ls ++ [0]) ∧ Below w.heap.size w w' := by
  have HR := hide hr
  have HL := hide hr.1
  have HIN := hide (fun k h => allIn_get hin k h)
  clear hr hin
  go_enter Tryz.func56, Tryz.ntmps56
  go_wp2_with fail
  go_loopw [1] (fun p wr => ∃ l : Nat, l ≤ len ∧ p = .slice a l cap ∧ Hid (trimmed ls = trimmed (ls.take l)) ∧ w = wr) (fun p _ => slenE p)
  case atStart => exact ⟨len, Nat.le_refl _, rfl, by rw [List.take_of_length_le (by rw [HL.out]; exact Nat.le_refl _)]; rfl, rfl⟩
  case round =>
    obtain ⟨l, hl, rfl, HT, rfl⟩ := hrel
    by_cases hgo : 0 < l ∧ ls.getD (l - 1) 0 = 0
    · obtain ⟨hl0, hz⟩ := hgo
      obtain ⟨m, rfl⟩ : ∃ m, l = m + 1 := ⟨l - 1, by omega⟩
      rw [Nat.add_sub_cancel] at hz
      obtain ⟨b1, o1, rfl, hb1, hc1⟩ := HR.out.2.2 (by omega)
      have g1 := hc1 m (by omega)
      rw [hz] at g1
      have HT2 : Hid (trimmed ls = trimmed (ls.take m)) := by show _ = _; rw [HT.out]; exact trim_zero ls m (by rw [HL.out]; omega) hz
      have d0 : (0 : Int) < ((m + 1 : Nat) : Int) := by omega
      have d1 : decide ((0 : Int) < ((m + 1 : Nat) : Int)) = true := by rw [decide_eq_true_iff]; exact d0
      have e1 : ((m + 1 : Nat) : Int) - 1 = (m : Int) := by omega
      have e2 : (m : Int) < ((m + 1 : Nat) : Int) := by omega
      have e3 : m ≤ cap := by omega
      clear hc1 hz
      go_wp2_with fail
      go_roundw
      case rel => exact ⟨m, by omega, rfl, HT2, by first | rfl | trivial⟩
      case measure => simp [slenE]
    · have HTF : Hid (trimmed ls = ls.take l) := by
        show _ = _
        rw [HT.out]
        by_cases h0 : l = 0
        · subst h0; exact trim_nil ls
        · obtain ⟨m, rfl⟩ : ∃ m, l = m + 1 := ⟨l - 1, by omega⟩
          exact trim_keep ls m (by rw [HL.out]; omega) (fun h => hgo ⟨by omega, by rw [Nat.add_sub_cancel]; exact h⟩)
      have HRT := hide (rdi_cut HR.out hl)
      have HIT : Hid (∀ k, k < (ls.take l).length → 0 ≤ (ls.take l).getD k 0 ∧ (ls.take l).getD k 0 ≤ 15) := fun k hk => by
        rw [List.length_take] at hk
        rw [List.getD_eq_getElem?_getD, List.getElem?_take, if_pos (by omega), ← List.getD_eq_getElem?_getD]
        exact HIN.out k (by omega)
      have HPE : Hid (pairsOf ls = pairsGo (ls.take l).length (ls.take l)) := by show _ = _; unfold pairsOf; rw [HTF.out]
      have HGO : Hid (l = 0 ∨ ∃ m b o x, l = m + 1 ∧ a = some ⟨b, o, none⟩ ∧ w.cell? ⟨b, o + m, none⟩ = some (.int .i64 x) ∧ x ≠ 0) := by
        by_cases h0 : l = 0
        · exact .inl h0
        · obtain ⟨m, rfl⟩ : ∃ m, l = m + 1 := ⟨l - 1, by omega⟩
          obtain ⟨b1, o1, rfl, hb1, hc1⟩ := HR.out.2.2 (by omega)
          exact .inr ⟨m, b1, o1, _, rfl, rfl, hc1 m (by omega), fun h => hgo ⟨by omega, by rw [Nat.add_sub_cancel]; exact h⟩⟩
      generalize ls.take l = rs0 at HRT HIT HPE
      clear HT HTF hgo HR HIN
      have HBL : Hid ((pairsOf ls).length ≤ 2560) := by
        show _ ≤ _
        rw [HPE.out]
        have := pairs_len rs0.length rs0 (by rw [HRT.out.1]; omega)
        rw [HRT.out.1] at this ⊢
        omega
      have hw0 : Hid (Below w.heap.size w w) := Below.refl _ _
      have HREST : Hid (∀ (B rs : List (BitVec 8)), pairsOf ls = B ++ rs → B.length ≤ 2560) := fun B rs h => by
        have := HBL.out
        rw [h, List.length_append] at this
        omega
      rcases HGO.out with h0 | ⟨m, b0, o0, x, rfl, rfl, g1, hx⟩
      all_goals
        first
          | (have d0 : ¬ (0 : Int) < (l : Int) := by omega
             have d1 : decide ((0 : Int) < (l : Int)) = false := by rw [decide_eq_false_iff_not]; exact d0
             have d2 : decide (0 < l) = false := by rw [decide_eq_false_iff_not]; omega
             clear h0)
          | (have d0 : (0 : Int) < ((m + 1 : Nat) : Int) := by omega
             have d1 : decide ((0 : Int) < ((m + 1 : Nat) : Int)) = true := by rw [decide_eq_true_iff]; exact d0
             have e1 : ((m + 1 : Nat) : Int) - 1 = (m : Int) := by omega
             have e2 : (m : Int) < ((m + 1 : Nat) : Int) := by omega
             have e3 : (x == 0) = false := by rw [beq_eq_false_iff_ne]; exact hx)
        clear HGO
        go_wp2_with fail
        go_loopw [0, 1] (fun o p wz => ∃ (l c : Nat) (pa : Option Addr) (rs : List Int) (B : List (BitVec 8)), p = .slice pa l c ∧ l ≤ c ∧ c ≤ 9223372036854775807 ∧ l ≤ 256 ∧ Hid (RdI w pa l rs) ∧ Hid (∀ k, k < rs.length → 0 ≤ rs.getD k 0 ∧ rs.getD k 0 ≤ 15) ∧ Hid (Own wz w.heap.size o B) ∧ Hid (pairsOf ls = B ++ pairsGo rs.length rs) ∧ Hid (Below w.heap.size w wz)) (fun _ p _ => slenE p)
        case atStart => exact ⟨_, cap, _, rs0, [], rfl, by omega, hcm, by omega, HRT, HIT, World.ownsRow_nil _ _ _ _, HPE, hw0⟩
        case round =>
          clear HRT HIT HPE hw0
          obtain ⟨l, c, pa, rs, B, rfl, hlc, hcm2, hl6, HRD, HIX, HO, HP, HB⟩ := hrel
          by_cases hl0 : 0 < l
          · have l0i : (0 : Int) < (l : Int) := by omega
            obtain ⟨b1, o1, rfl, hb1, hc1⟩ := HRD.out.2.2 hl0
            have HNE : Hid (rs ≠ []) := fun e => by have := HRD.out.1; rw [e] at this; simp at this; omega
            go_wp2_with fail
            go_loopw [5] (fun r wy => ∃ q : Nat, 1 ≤ q ∧ q ≤ l ∧ r = .int .i64 (q : Int) ∧ Hid (∀ j, j < q → rs.getD j 0 = rs.getD 0 0) ∧ Hid (∃ m, wy = wr.drewN m)) (fun r _ => l - (intOf r).toNat)
            case atStart => exact ⟨1, by omega, by omega, rfl, fun j hj => by rw [show j = 0 by omega], 0, rfl⟩
            case round =>
              obtain ⟨q, hq1, hql, rfl, HQ, HD⟩ := hrel
              have HBw : Hid (Below w.heap.size w wr) := by obtain ⟨m, hm⟩ := HD.out; rw [hm]; exact below_drewN HB.out m
              have HOw : Hid (Own wr w.heap.size u0 B) := by obtain ⟨m, hm⟩ := HD.out; rw [hm]; exact HO.out
              have g0 := hc1 0 hl0
              rw [← HBw.out.cell (p := ⟨b1, o1 + 0, none⟩) hb1, Nat.add_zero] at g0
              have HX0 := HIX.out 0 (by rw [HRD.out.1]; exact hl0)
              by_cases hgo : q < l ∧ rs.getD q 0 = rs.getD 0 0
              · obtain ⟨hlt, heq⟩ := hgo
                have g2 := hc1 q hlt
                rw [← HBw.out.cell (p := ⟨b1, o1 + q, none⟩) hb1, heq] at g2
                have HQ2 : Hid (∀ j, j < q + 1 → rs.getD j 0 = rs.getD 0 0) := fun j hj => by
                  by_cases e : j = q
                  · subst e; exact heq
                  · exact HQ.out j (by omega)
                obtain ⟨x, hx⟩ : ∃ x, rs.getD 0 0 = x := ⟨_, rfl⟩
                rw [hx] at g0 g2
                clear hx
                have z1 : (q : Int) < (l : Int) := by omega
                have z2 : decide ((q : Int) < (l : Int)) = true := by rw [decide_eq_true_iff]; exact z1
                have z4 : decide (q < l) = true := by rw [decide_eq_true_iff]; exact hlt
                have z3 : (x == x) = true := by simp
                clear heq HX0 HOw HBw
                go_wp2_with fail
                go_quiet (fail)
                go_wp2_with fail
                go_roundw
                case rel => exact ⟨q + 1, by omega, by omega, by go_num, HQ2, drewN_moreE HD.out nq⟩
                case measure => simp [intOf]; omega
              · have HRUN : Hid (runOf rs = q) := run_at HQ.out hq1 (by rw [HRD.out.1]; exact hql) (by
                  rw [HRD.out.1]
                  by_cases h : q < l
                  · exact .inr (fun e => hgo ⟨h, e⟩)
                  · exact .inl (by omega))
                have HPS := hide (pairs_step HNE.out)
                rw [HRUN.out] at HPS
                have HCASE : (¬ q < l) ∨ ∃ y, q < l ∧ wr.cell? ⟨b1, o1 + q, none⟩ = some (.int .i64 y) ∧ y ≠ rs.getD 0 0 := by
                  by_cases h : q < l
                  · refine .inr ⟨_, h, ?_, fun e => hgo ⟨h, e⟩⟩
                    rw [HBw.out.cell (p := ⟨b1, o1 + q, none⟩) hb1]; exact hc1 q h
                  · exact .inl h
                obtain ⟨lx, hsl, hlx⟩ := slice_ints b1 o1 l c q hql hlc
                have HRX := hide (rdi_rest HRD.out hql hlx)
                clear hlx
                have HIX2 : Hid (∀ k, k < (rs.drop q).length → 0 ≤ (rs.drop q).getD k 0 ∧ (rs.drop q).getD k 0 ≤ 15) := fun k hk => by
                  rw [List.length_drop] at hk
                  rw [List.getD_eq_getElem?_getD, List.getElem?_drop, ← List.getD_eq_getElem?_getD]
                  exact HIX.out (q + k) (by omega)
                have HPN : Hid (pairsOf ls = (B ++ Nums.put q ++ [BitVec.ofNat 8 (rs.getD 0 0).toNat]) ++ pairsGo (rs.drop q).length (rs.drop q)) := by
                  show _ = _
                  rw [HP.out, HPS.out]; simp only [List.append_assoc]
                have HLB := hide (HREST.out _ _ HPN.out)
                have HWF : Hid ((Lit.int .i64 (q : Int)).wf = true) := WalkArith.wf_i64 (by omega)
                have HPU := hide (fun W => Nums.put_any (q : Int) W HWF.out)
                rw [Nums.putI_nat] at HPU
                have HV8 := hide (b8_of _ HX0.1 HX0.2)
                generalize (rs.drop q) = rs2 at HRX HIX2 HPN
                generalize Nums.put q = PB at HPU HPN HLB
                generalize BitVec.ofNat 8 (rs.getD 0 0).toNat = X8 at HPN HLB HV8
                have HG0 : Hid (w.cell? ⟨b1, o1, none⟩ = some (.int .i64 (rs.getD 0 0))) := hc1 0 hl0
                generalize rs.getD 0 0 = x at g0 HCASE HX0 HV8 HG0
                have hx0 : 0 ≤ x := HX0.1
                have hx1 : x ≤ 15 := HX0.2
                clear hgo HPS HQ HX0
                rcases HCASE with hc3 | ⟨y, hc3, gy, hyx⟩
                all_goals
                  first
                    | (have z1 : ¬ (q : Int) < (l : Int) := by omega
                       have z2 : decide ((q : Int) < (l : Int)) = false := by rw [decide_eq_false_iff_not]; exact z1
                       have z4 : decide (q < l) = false := by rw [decide_eq_false_iff_not]; exact hc3)
                    | (have z1 : (q : Int) < (l : Int) := by omega
                       have z2 : decide ((q : Int) < (l : Int)) = true := by rw [decide_eq_true_iff]; exact z1
                       have z4 : decide (q < l) = true := by rw [decide_eq_true_iff]; exact hc3
                       have z3 : (y == x) = false := by rw [beq_eq_false_iff_ne]; exact hyx)
                  go_wp2_with fail
                  go_quiet (fail)
                  have HO7 : Hid (Own (wr.drewN nq) w.heap.size u0 B) := HOw.out
                  have HB7 : Hid (Below w.heap.size w (wr.drewN nq)) := below_drewN HBw.out nq
                  obtain ⟨w7, hw7⟩ : ∃ w7, wr.drewN nq = w7 := ⟨_, rfl⟩
                  rw [hw7] at HO7 HB7 ⊢
                  clear hw7 g0 HOw HBw HD
                  try clear gy
                  go_wp2_with fail
                  refine (HPU.out _).mono ?_
                  rintro e w8 ⟨v8, rfl, ho8, hb8⟩
                  have HB8 := hide (HB7.out.trans (hb8.mono HB7.out.size))
                  have HO8 := hide (HO7.out.below hb8)
                  obtain ⟨va, vc, hv8⟩ := ho8.shape
                  subst hv8
                  have HPO := hide ho8
                  have HLB2 : Hid (B.length + PB.length + 1 ≤ 2560) := by have := HLB.out; rw [List.length_append, List.length_append] at this; exact this
                  have hs8 := HB8.out.size
                  clear ho8 hb8
                  obtain ⟨HL7, HL7e⟩ : ∃ L, (B ++ PB).length = L := ⟨_, rfl⟩
                  have HLA := hide HL7e
                  clear HL7e
                  go_wp2_with (at_builtin
                               first
                               | (refine join _ rfl (.tmp 42) (.tmp 44) rfl w.heap.size u0 B rfl HO8.out va PB.length vc PB rfl (Got.rd HPO.out (by have := HLB2.out; omega)) (Got.nil HPO.out) (by have := HLB2.out; omega) hs8 ?_
                                  intro v9 w9 ho9 hg9
                                  obtain ⟨a9, c9, hv9⟩ := ho9.shape
                                  subst hv9
                                  rw [HLA.out] at ho9 ⊢
                                  have HO9 := hide ho9
                                  have HB9 : Hid (Below w.heap.size w w9) := HB8.out.grown hg9 hs8 (fun i e => (World.ownsRow.lt HO8.out i e).1)
                                  have g0 := HG0.out
                                  rw [← HB9.out.cell (p := ⟨b1, o1, none⟩) hb1] at g0
                                  have hs9 := HB9.out.size
                                  clear ho9 hg9)
                               | (refine push _ rfl (.tmp 46) (.tmp 51) rfl w.heap.size (.slice a9 HL7 c9) (B ++ PB) rfl (HO9.out.below ((Below.refl w9.heap.size w9).alloc (Nat.le_refl _) _)) ⟨w9.heap.size, 0, none⟩ 1 X8 rfl (by rw [HV8.out]; exact cell_one_new _ _ _ 0 _ rfl) (by have := HLB2.out; rw [List.length_append]; omega) (by simp; omega) ?_
                                  intro v10 w10 ho10 hg10
                                  have HO10 := hide ho10
                                  have HB10 : Hid (Below w.heap.size w w10) := (HB9.out.alloc hs9 _).grown hg10 (by simp; omega) (fun i e => (World.ownsRow.lt HO9.out i e).1)
                                  clear ho10 hg10))
                  go_roundw
                  case rel => exact ⟨l - q, c - q, some lx, rs2, B ++ PB ++ [X8], by first | rfl | trivial, by omega, by omega, by omega, HRX, HIX2, HO10, HPN, HB10⟩
                  case measure => simp [slenE]; omega
          · have h0 : l = 0 := by omega
            subst h0
            have HF : Hid (pairsOf ls = B) := by
              show _ = _
              rw [HP.out, List.length_eq_zero_iff.1 HRD.out.1]; simp [pairsGo]
            have HLB := hide (HBL.out)
            rw [HF.out] at HLB
            have hs1 := HB.out.size
            obtain ⟨a9, c9, hv9⟩ := HO.out.shape
            subst hv9
            have HLB3 := HLB.out
            go_wp2_with (at_builtin; refine push _ rfl _ _ rfl w.heap.size (.slice a9 B.length c9) B rfl (HO.out.below ((Below.refl wr.heap.size wr).alloc (Nat.le_refl _) _)) ⟨wr.heap.size, 0, none⟩ 1 0 rfl (cell_one_new _ _ _ 0 _ rfl) (by omega) (by simp; omega) ?_
                         intro v10 w10 ho10 hg10
                         have HO10 := hide ho10
                         have HB10 : Hid (Below w.heap.size w w10) := (HB.out.alloc hs1 _).grown hg10 (by simp; omega) (fun i e => (World.ownsRow.lt HO.out i e).1)
                         clear ho10 hg10)
            obtain ⟨a', c', hv'⟩ := HO10.out.shape
            subst hv'
            go_ret
            refine ⟨_, rfl, ?_, ?_⟩
            · rw [HF.out]; exact HO10.out
            · exact HB10.out
end Go.Proofs.YthdblnfohbldcaaGreat.Huff
/-
  putWords: one bit.
-/
namespace Go.Proofs.YthdblnfohbldcaaGreat.Huff
open Go.ChangeShapes Go.WideShapes Go.ChangeAt Go.RowKit
open Go.Proofs.YthdblnfohbldcaaGreat.Base
set_option linter.unusedVariables false
/-- The three variables of the closure: what is gathered, how many bits of it, the bytes so far. -/
structure Bx (w : World) (base bg bf bo : Nat) (B : List (BitVec 8)) (g f : Nat) : Prop where
  g : w.cell? ⟨bg, 0, none⟩ = some (.int .u8 (g : Int))
  f : w.cell? ⟨bf, 0, none⟩ = some (.int .i64 (f : Int))
  o : ∃ gg cc, w.cell? ⟨bo, 0, none⟩ = some (.slice (some ⟨gg, 0, none⟩) B.length cc) ∧ Own w base (.slice (some ⟨gg, 0, none⟩) B.length cc) B ∧ gg ≠ bg ∧ gg ≠ bf ∧ gg ≠ bo
  zg : w.frozen? ⟨bg, 0, none⟩ = false
  zf : w.frozen? ⟨bf, 0, none⟩ = false
  zo : w.frozen? ⟨bo, 0, none⟩ = false
  ng : base ≤ bg ∧ bg < w.heap.size
  nf : base ≤ bf ∧ bf < w.heap.size
  no : base ≤ bo ∧ bo < w.heap.size
  gf : bg ≠ bf
  go : bg ≠ bo
  fo : bf ≠ bo
theorem size_setCell (w : World) (p : Addr) (v : Value) : (w.setCell p v).heap.size = w.heap.size := by simp [World.setCell]
theorem grown_refl (w : World) (r : Option Nat) : w.grownBy w r := ⟨rfl, rfl, rfl, Nat.le_refl _, fun _ _ _ => rfl⟩
theorem Bx.drew {w : World} {base bg bf bo : Nat} {B : List (BitVec 8)} {g f : Nat} (h : Bx w base bg bf bo B g f) : Bx w.drew base bg bf bo B g f :=
  ⟨h.g, h.f, h.o, h.zg, h.zf, h.zo, h.ng, h.nf, h.no, h.gf, h.go, h.fo⟩
theorem Bx.drewN {w : World} {base bg bf bo : Nat} {B : List (BitVec 8)} {g f : Nat} (h : Bx w base bg bf bo B g f) (n : Nat) : Bx (w.drewN n) base bg bf bo B g f :=
  ⟨h.g, h.f, h.o, h.zg, h.zf, h.zo, h.ng, h.nf, h.no, h.gf, h.go, h.fo⟩
theorem Bx.setG {w : World} {base bg bf bo : Nat} {B : List (BitVec 8)} {g f : Nat} (h : Bx w base bg bf bo B g f) (g' : Nat) : Bx (w.setCell ⟨bg, 0, none⟩ (.int .u8 (g' : Int))) base bg bf bo B g' f := by
  obtain ⟨gg, cc, h1, h2, h3, h4, h5⟩ := h.o
  exact ⟨World.cell?_setCell_same _ _ _ h.g, by rw [World.cell?_setCell_far _ _ _ _ h.gf]; exact h.f,
    ⟨gg, cc, by rw [World.cell?_setCell_far _ _ _ _ h.go]; exact h1, h2.other (grown_cell (grown_refl _ _) 0 _) h3, h3, h4, h5⟩,
    (World.frozen?_setCell _ _ _ _).trans h.zg, (World.frozen?_setCell _ _ _ _).trans h.zf, (World.frozen?_setCell _ _ _ _).trans h.zo,
    by rw [size_setCell]; exact h.ng, by rw [size_setCell]; exact h.nf, by rw [size_setCell]; exact h.no, h.gf, h.go, h.fo⟩
theorem Bx.setF {w : World} {base bg bf bo : Nat} {B : List (BitVec 8)} {g f : Nat} (h : Bx w base bg bf bo B g f) (f' : Nat) : Bx (w.setCell ⟨bf, 0, none⟩ (.int .i64 (f' : Int))) base bg bf bo B g f' := by
  obtain ⟨gg, cc, h1, h2, h3, h4, h5⟩ := h.o
  exact ⟨by rw [World.cell?_setCell_far _ _ _ _ h.gf.symm]; exact h.g, World.cell?_setCell_same _ _ _ h.f,
    ⟨gg, cc, by rw [World.cell?_setCell_far _ _ _ _ h.fo]; exact h1, h2.other (grown_cell (grown_refl _ _) 0 _) h4, h3, h4, h5⟩,
    (World.frozen?_setCell _ _ _ _).trans h.zg, (World.frozen?_setCell _ _ _ _).trans h.zf, (World.frozen?_setCell _ _ _ _).trans h.zo,
    by rw [size_setCell]; exact h.ng, by rw [size_setCell]; exact h.nf, by rw [size_setCell]; exact h.no, h.gf, h.go, h.fo⟩
/-- The bytes have grown by one, and the box says so. -/
theorem Bx.setO {w w' : World} {base bg bf bo gg cc g' c' : Nat} {B : List (BitVec 8)} {g f : Nat} (h : Bx w base bg bf bo B g f) (h1 : w.cell? ⟨bo, 0, none⟩ = some (.slice (some ⟨gg, 0, none⟩) B.length cc)) (c : BitVec 8) (o : Obj)
    (ho : Own w' base (.slice (some ⟨g', 0, none⟩) (B.length + 1) c') (B ++ [c])) (hg : gg = g' ∧ (w.alloc o).grownBy w' (some g') ∨ (w.alloc o).heap.size ≤ g' ∧ (w.alloc o).grownBy w' none) :
    Bx (w'.setCell ⟨bo, 0, none⟩ (.slice (some ⟨g', 0, none⟩) (B.length + 1) c')) base bg bf bo (B ++ [c]) g f ∧ Below base w w' ∧ (∀ k, k < w.heap.size → k ≠ gg → w'.cell? ⟨k, 0, none⟩ = w.cell? ⟨k, 0, none⟩) ∧ (∀ k, k < w.heap.size → k ≠ gg → w'.frozen? ⟨k, 0, none⟩ = w.frozen? ⟨k, 0, none⟩) := by
  obtain ⟨g2, c2, e1, h2, h3, h4, h5⟩ := h.o
  rw [h1] at e1
  simp only [Option.some.injEq, Value.slice.injEq, Addr.mk.injEq, and_true, true_and] at e1
  obtain ⟨rfl, rfl⟩ := e1
  have hs : (w.alloc o).heap.size = w.heap.size + 1 := by simp
  have hsz : w.heap.size ≤ w'.heap.size := by
    rcases hg with ⟨_, hg⟩ | ⟨_, hg⟩ <;> (have := hg.size; omega)
  have hne : ∀ k, k < w.heap.size → k ≠ gg → k ≠ g' := by
    intro k hk hn e
    rcases hg with ⟨hg, _⟩ | ⟨hg, _⟩ <;> omega
  have hb : ∀ k, k < w.heap.size → k ≠ gg → w'.heap[k]? = w.heap[k]? := by
    intro k hk hn
    have e : (w.alloc o).heap[k]? = w.heap[k]? := Below.heap_alloc w o k hk
    rcases hg with ⟨e2, hg⟩ | ⟨_, hg⟩
    · rw [hg.block k (by omega) (by intro e3; have := Option.some.inj e3; omega), e]
    · rw [hg.block k (by omega) (by intro e3; cases e3), e]
  have hc : ∀ k, k < w.heap.size → k ≠ gg → w'.cell? ⟨k, 0, none⟩ = w.cell? ⟨k, 0, none⟩ := fun k hk hn => World.cell?_of_block (w := w) (hb k hk hn)
  have hz : ∀ k, k < w.heap.size → k ≠ gg → w'.frozen? ⟨k, 0, none⟩ = w.frozen? ⟨k, 0, none⟩ := fun k hk hn => World.frozen?_of_block (w := w) (hb k hk hn)
  have hno := h.no
  have hng := h.ng
  have hnf := h.nf
  have ho2 := World.ownsRow.lt ho g' rfl
  have hgb := (World.ownsRow.lt h2 gg rfl).1
  have hos : w'.os = w.os ∧ w'.tape = w.tape ∧ w'.output = w.output := by
    rcases hg with ⟨_, hg⟩ | ⟨_, hg⟩ <;> exact ⟨hg.os, hg.tape, hg.output⟩
  refine ⟨⟨?_, ?_, ⟨g', c', ?_, ?_, ?_, ?_, ?_⟩, ?_, ?_, ?_, ?_, ?_, ?_, h.gf, h.go, h.fo⟩, ?_, hc, hz⟩
  · rw [World.cell?_setCell_far _ _ _ _ h.go.symm, hc bg hng.2 h3.symm]; exact h.g
  · rw [World.cell?_setCell_far _ _ _ _ h.fo.symm, hc bf hnf.2 h4.symm]; exact h.f
  · rw [List.length_append, List.length_singleton]
    exact World.cell?_setCell_same _ _ _ ((hc bo hno.2 h5.symm).trans h1)
  · rw [List.length_append, List.length_singleton]
    exact ho.other (grown_cell (grown_refl _ _) 0 _) (hne bo hno.2 h5.symm).symm
  · exact (hne bg hng.2 h3.symm).symm
  · exact (hne bf hnf.2 h4.symm).symm
  · exact (hne bo hno.2 h5.symm).symm
  · rw [World.frozen?_setCell, hz bg hng.2 h3.symm]; exact h.zg
  · rw [World.frozen?_setCell, hz bf hnf.2 h4.symm]; exact h.zf
  · rw [World.frozen?_setCell, hz bo hno.2 h5.symm]; exact h.zo
  · rw [size_setCell]; omega
  · rw [size_setCell]; omega
  · rw [size_setCell]; omega
  · exact ⟨hos.1, hos.2.1, hos.2.2, hsz, fun k hk => hb k (by omega) (by omega)⟩
theorem undrew {w w' : World} {r : Option Nat} (h : w.drew.grownBy w' r) : w.grownBy w' r := ⟨h.os, h.tape, h.output, h.size, h.block⟩
theorem Bx.pushed {w w' : World} {base bg bf bo gg cc g' c' : Nat} {B : List (BitVec 8)} {g f : Nat} (h : Bx w base bg bf bo B g f) (h1 : w.cell? ⟨bo, 0, none⟩ = some (.slice (some ⟨gg, 0, none⟩) B.length cc)) (c : BitVec 8) (o : Obj)
    (ho : Own w' base (.slice (some ⟨g', 0, none⟩) (B.length + 1) c') (B ++ [c])) (hg : (Value.slice (some ⟨gg, 0, none⟩) B.length cc).ownBlock = some g' ∧ (w.alloc o).drew.grownBy w' (some g') ∨ (w.alloc o).drew.heap.size ≤ g' ∧ (w.alloc o).drew.grownBy w' none)
    (n1 : gg ≠ bg) (n2 : gg ≠ bf) (n3 : gg ≠ bo) :
    Hid (Bx (w'.setCell ⟨bo, 0, none⟩ (.slice (some ⟨g', 0, none⟩) (B.length + 1) c')) base bg bf bo (B ++ [c]) g f) ∧ Hid (Below base w w') ∧
    w'.cell? ⟨bg, 0, none⟩ = some (.int .u8 (g : Int)) ∧ w'.cell? ⟨bf, 0, none⟩ = some (.int .i64 (f : Int)) ∧ w'.cell? ⟨bo, 0, none⟩ = some (.slice (some ⟨gg, 0, none⟩) B.length cc) ∧
    w'.frozen? ⟨bg, 0, none⟩ = false ∧ w'.frozen? ⟨bf, 0, none⟩ = false ∧ w'.frozen? ⟨bo, 0, none⟩ = false := by
  obtain ⟨hA, hB, hC, hD⟩ := h.setO h1 c o ho (hg.imp (fun h => ⟨Option.some.inj h.1, undrew h.2⟩) (fun h => ⟨h.1, undrew h.2⟩))
  exact ⟨hA, hB, (hC bg h.ng.2 n1.symm).trans h.g, (hC bf h.nf.2 n2.symm).trans h.f, (hC bo h.no.2 n3.symm).trans h1, (hD bg h.ng.2 n1.symm).trans h.zg, (hD bf h.nf.2 n2.symm).trans h.zf, (hD bo h.no.2 n3.symm).trans h.zo⟩
/-- One bit more. -/
def bstep (s : List (BitVec 8) × Nat × Nat) (bit : Nat) : List (BitVec 8) × Nat × Nat :=
  if s.2.2 = 7 then (s.1 ++ [BitVec.ofNat 8 (s.2.1 + bit * 128)], 0, 0) else (s.1, s.2.1 + bit * 2 ^ s.2.2, s.2.2 + 1)
def orAt (f g b : Nat) : Bool := decide (bits .or .u8 (Int.ofNat g) (IntKind.u8.wrap (IntKind.u8.wrap (Int.ofNat b) * 2 ^ f)) = Int.ofNat (g + b * 2 ^ f))
theorem or_all : (List.range 8).all (fun f => (List.range (2 ^ f)).all fun g => orAt f g 0 && orAt f g 1) = true := by decide +kernel
theorem or_bit (g bit f : Nat) (hb : bit ≤ 1) (hf : f < 8) (hg : g < 2 ^ f) : bits .or .u8 (g : Int) (IntKind.u8.wrap (IntKind.u8.wrap (bit : Int) * 2 ^ f)) = ((g + bit * 2 ^ f : Nat) : Int) := by
  have h := List.all_eq_true.1 (List.all_eq_true.1 or_all f (List.mem_range.2 hf)) g (List.mem_range.2 hg)
  simp only [Bool.and_eq_true] at h
  have e : bit = 0 ∨ bit = 1 := by omega
  rcases e with rfl | rfl
  · exact of_decide_eq_true h.1
  · exact of_decide_eq_true h.2
set_option maxHeartbeats 2000000 in
set_option maxRecDepth 100000 in
theorem putBit_any (bit g f : Nat) (base bg bf bo : Nat) (B : List (BitVec 8)) (w : World) (hbit : bit ≤ 1) (hf : f < 8) (hg : g < 2 ^ f) (hB : B.length + 1 ≤ 140737488355328) (h : Bx w base bg bf bo B g f) :
    Calls Tryz.prog 100 #[.int .u32 (bit : Int), .pointer (some ⟨bg, 0, none⟩), .pointer (some ⟨bf, 0, none⟩), .pointer (some ⟨bo, 0, none⟩)] w fun e w' => e = .returned (.tuple #[]) ∧ Bx w' base bg bf bo (bstep (B, g, f) bit).1 (bstep (B, g, f) bit).2.1 (bstep (B, g, f) bit).2.2 ∧ Below base w w' := by
  obtain ⟨gg, cc, h3, hown, n1, n2, n3⟩ := h.o
  have h1 := h.g
  have h2 := h.f
  have k1 := h.zg
  have k2 := h.zf
  have k3 := h.zo
  have m1 := h.gf
  have m2 := h.go
  have m3 := h.fo
  have HG := hide h.ng
  have HF := hide h.nf
  have HO := hide h.no
  have HN := hide (or_bit g bit f hbit hf hg)
  have HH := hide h
  have HGL := hide hg
  clear h hown hg
  by_cases hf7 : f = 7
  · subst hf7
    have HS : Hid (bstep (B, g, 7) bit = (B ++ [BitVec.ofNat 8 (g + bit * 128)], 0, 0)) := if_pos rfl
    rw [HS.out]
    have HM : Hid (((BitVec.ofNat 8 (g + bit * 128)).toNat : Int) = ((g + bit * 2 ^ 7 : Nat) : Int)) := by
      show _ = _
      have := HGL.out
      rw [BitVec.toNat_ofNat]; omega
    generalize BitVec.ofNat 8 (g + bit * 128) = X at HM HS ⊢
    generalize g + bit * 2 ^ 7 = N at HN HS HM ⊢
    obtain ⟨W0, hW0⟩ : ∃ W0, ((w.setCell ⟨bg, 0, none⟩ (.int .u8 (N : Int))).setCell ⟨bf, 0, none⟩ (.int .i64 8)) = W0 := ⟨_, rfl⟩
    have HX1 : Hid (Bx W0 base bg bf bo B N 8) := by rw [← hW0]; exact (HH.out.setG N).setF 8
    have HX2 : Hid (Below base w W0) := by rw [← hW0]; exact ((Below.refl _ _).setCell HG.out.1 _).setCell HF.out.1 _
    have HX3 : Hid (W0.cell? ⟨bo, 0, none⟩ = some (.slice (some ⟨gg, 0, none⟩) B.length cc)) := by
      show _ = _
      rw [← hW0, World.cell?_setCell_far _ _ _ _ m3, World.cell?_setCell_far _ _ _ _ m2]; exact h3
    have HXO : Hid (Own W0 base (.slice (some ⟨gg, 0, none⟩) B.length cc) B) := by
      obtain ⟨g2, c2, e1, h2, _⟩ := HX1.out.o
      rw [HX3.out] at e1
      simp only [Option.some.injEq, Value.slice.injEq, Addr.mk.injEq, and_true, true_and] at e1
      obtain ⟨rfl, rfl⟩ := e1
      exact h2
    have HW := hide hW0
    have HSZ : Hid (W0.heap.size = w.heap.size) := by show _ = _; rw [← hW0, size_setCell, size_setCell]
    clear hW0
    go_enter Tryz.func100, Tryz.ntmps100
    go_wp2_with fail
    go_region_with (fail)
    all_goals
      have HN2 := HN.out
      simp only [Int.reducePow] at HN2 ⊢
      rw [HN2]
      clear HN2
      go_wp2_with (at_builtin
                   rw [HW.out]
                   refine push2 _ rfl _ _ rfl base (.slice (some ⟨gg, 0, none⟩) B.length cc) B rfl (HXO.out.below ((Below.refl W0.heap.size W0).alloc (Nat.le_refl _) _).drew) ⟨w.heap.size, 0, none⟩ 1 X rfl (by rw [HM.out, ← HSZ.out]; exact cell_one_new W0 _ _ 0 _ rfl) hB (by have := HG.out; have := HSZ.out; show base ≤ (W0.alloc _).heap.size; simp; omega) ?_
                   intro g' c' w9 ho9 hg9
                   obtain ⟨HS9, HS8, c1, c2, c3, c4, c5, c6⟩ := HX1.out.pushed HX3.out X _ ho9 hg9 n1 n2 n3
                   clear ho9 hg9)
      go_end0
      exact ⟨rfl, (HS9.out.setG 0).setF 0, (((HX2.out.trans HS8.out).setCell HO.out.1 _).setCell HG.out.1 _).setCell HF.out.1 _⟩
  · have f7 : f < 7 := by omega
    have HS : Hid (bstep (B, g, f) bit = (B, g + bit * 2 ^ f, f + 1)) := if_neg hf7
    rw [HS.out]
    have hf8 : ((f : Int) + 1 == 8) = false := by rw [beq_eq_false_iff_ne]; omega
    clear hf7
    generalize g + bit * 2 ^ f = N at HN HS ⊢
    go_enter Tryz.func100, Tryz.ntmps100
    go_wp2_with fail
    go_region_with (fail)
    all_goals
      rw [HN.out]
      go_wp2_with fail
      go_end0
      exact ⟨rfl, ((HH.out.setG N).setF (f + 1)).drew, (((Below.refl _ _).setCell HG.out.1 _).setCell HF.out.1 _).drew⟩
end Go.Proofs.YthdblnfohbldcaaGreat.Huff
/-
  putWords: all words.
-/
namespace Go.Proofs.YthdblnfohbldcaaGreat.Huff
open Go.ChangeShapes Go.WideShapes Go.ChangeAt Go.RowKit
open Go.Proofs.YthdblnfohbldcaaGreat.Base
set_option linter.unusedVariables false
/-- The bits of a word, the highest first. -/
def wbits (l v : Nat) : List Nat := (List.range l).map fun i => v / 2 ^ (l - 1 - i) % 2
def bitsOf (cs : List (Int × Nat)) (text : List (BitVec 8)) : List Nat := (text.map fun c => wbits (cs.getD c.toNat (0, 0)).1.toNat (cs.getD c.toNat (0, 0)).2).flatten
/-- What is left is filled up with zeros. -/
def flush (s : List (BitVec 8) × Nat × Nat) : List (BitVec 8) := if s.2.2 = 0 then s.1 else s.1 ++ [BitVec.ofNat 8 s.2.1]
def packed (B : List (BitVec 8)) (S : List Nat) : List (BitVec 8) × Nat × Nat := S.foldl bstep (B, 0, 0)
def SOk (s : List (BitVec 8) × Nat × Nat) : Prop := s.2.2 < 8 ∧ s.2.1 < 2 ^ s.2.2
theorem sok_step {s : List (BitVec 8) × Nat × Nat} (h : SOk s) (bit : Nat) (hb : bit ≤ 1) : SOk (bstep s bit) := by
  obtain ⟨h1, h2⟩ := h
  unfold bstep
  split
  · exact ⟨Nat.zero_lt_succ 7, Nat.zero_lt_one⟩
  · refine ⟨by simp only []; omega, ?_⟩
    simp only []
    rw [Nat.pow_succ]
    have : bit * 2 ^ s.2.2 ≤ 2 ^ s.2.2 := by
      have := Nat.mul_le_mul_right (2 ^ s.2.2) hb
      omega
    omega
theorem len_step (s : List (BitVec 8) × Nat × Nat) (bit : Nat) : (bstep s bit).1.length ≤ s.1.length + 1 := by
  unfold bstep
  split <;> simp
theorem sok_all : ∀ (S : List Nat) (s : List (BitVec 8) × Nat × Nat), SOk s → (∀ b ∈ S, b ≤ 1) → SOk (S.foldl bstep s)
  | [], s, h, _ => h
  | b :: S, s, h, hb => sok_all S _ (sok_step h b (hb b (List.mem_cons_self ..))) fun c hc => hb c (List.mem_cons_of_mem _ hc)
theorem len_all : ∀ (S : List Nat) (s : List (BitVec 8) × Nat × Nat), (S.foldl bstep s).1.length ≤ s.1.length + S.length
  | [], s => by simp
  | b :: S, s => by
    have h1 := len_all S (bstep s b)
    have h2 := len_step s b
    simp only [List.foldl_cons, List.length_cons]
    omega
theorem wbits_le (l v : Nat) : ∀ b ∈ wbits l v, b ≤ 1 := by
  intro b hb
  obtain ⟨i, _, rfl⟩ := List.mem_map.1 hb
  omega
theorem wbits_len (l v : Nat) : (wbits l v).length = l := by simp [wbits]
theorem wbits_take (l v m : Nat) (h : m < l) : (wbits l v).take (l - (m + 1) + 1) = (wbits l v).take (l - (m + 1)) ++ [v / 2 ^ m % 2] := by
  have hk : l - (m + 1) < (wbits l v).length := by rw [wbits_len]; omega
  rw [List.take_succ_eq_append_getElem hk]
  congr 2
  simp only [wbits, List.getElem_map, List.getElem_range]
  rw [show l - 1 - (l - (m + 1)) = m by omega]
theorem bitsOf_le (cs : List (Int × Nat)) (text : List (BitVec 8)) : ∀ b ∈ bitsOf cs text, b ≤ 1 := by
  intro b hb
  obtain ⟨l, hl, hb⟩ := List.mem_flatten.1 hb
  obtain ⟨c, _, rfl⟩ := List.mem_map.1 hl
  exact wbits_le _ _ b hb
theorem bitsOf_next (cs : List (Int × Nat)) (text : List (BitVec 8)) (k : Nat) (h : k < text.length) : bitsOf cs (text.take (k + 1)) = bitsOf cs (text.take k) ++ wbits (cs.getD (text.getD k 0).toNat (0, 0)).1.toNat (cs.getD (text.getD k 0).toNat (0, 0)).2 := by
  unfold bitsOf
  rw [getD_take text k h]
  simp
def LenOk (cs : List (Int × Nat)) : Prop := cs.length = 256 ∧ ∀ k, k < 256 → 0 ≤ (cs.getD k (0, 0)).1 ∧ (cs.getD k (0, 0)).1 ≤ 15 ∧ (cs.getD k (0, 0)).2 < 4294967296
theorem bitsOf_len (cs : List (Int × Nat)) (h : LenOk cs) : ∀ text : List (BitVec 8), (bitsOf cs text).length ≤ 15 * text.length
  | [] => by simp [bitsOf]
  | c :: text => by
    have h1 := bitsOf_len cs h text
    have h2 := (h.2 c.toNat (lt8 c)).2.1
    unfold bitsOf at h1 ⊢
    simp only [List.map_cons, List.flatten_cons, List.length_append, wbits_len, List.length_cons]
    omega
theorem bitsOf_sub (cs : List (Int × Nat)) (h : LenOk cs) (text : List (BitVec 8)) (k : Nat) (ht : text.length ≤ 65536) : (bitsOf cs (text.take k)).length ≤ 983040 := by
  have := bitsOf_len cs h (text.take k)
  rw [List.length_take] at this
  omega
/-- The closure's variables hold the state s, and what lay below is as it was. -/
def StAt (W : World) (bg bf bo : Nat) (w : World) (s : List (BitVec 8) × Nat × Nat) : Prop := Bx w W.heap.size bg bf bo s.1 s.2.1 s.2.2 ∧ Below W.heap.size W w ∧ SOk s
theorem putBit_st (bit : Nat) (bg bf bo : Nat) (s : List (BitVec 8) × Nat × Nat) (W w : World) (hbit : bit ≤ 1) (hB : s.1.length + 1 ≤ 140737488355328) (h : StAt W bg bf bo w s) :
    Calls Tryz.prog 100 #[.int .u32 (bit : Int), .pointer (some ⟨bg, 0, none⟩), .pointer (some ⟨bf, 0, none⟩), .pointer (some ⟨bo, 0, none⟩)] w fun e w' => e = .returned (.tuple #[]) ∧ StAt W bg bf bo w' (bstep s bit) := by
  refine (putBit_any bit s.2.1 s.2.2 W.heap.size bg bf bo s.1 w hbit h.2.2.1 h.2.2.2 hB h.1).mono ?_
  rintro e w' ⟨rfl, h1, h2⟩
  exact ⟨rfl, h1, h.2.1.trans h2, sok_step h.2.2 bit hbit⟩
theorem st_start {W w : World} {gg c0 : Nat} {PB : List (BitVec 8)} (ho : Own w W.heap.size (.slice (some ⟨gg, 0, none⟩) PB.length c0) PB) (hbw : Below W.heap.size W w) :
    StAt W (w.heap.size + 1) (w.heap.size + 1 + 1) w.heap.size (((w.alloc (.cells #[.slice (some ⟨gg, 0, none⟩) PB.length c0] 24)).alloc (.cells #[.int .u8 0] 5)).alloc (.cells #[.int .i64 0] 3)) (PB, 0, 0) := by
  have hs := hbw.size
  have hg := World.ownsRow.lt ho gg rfl
  have hB : Below w.heap.size w (((w.alloc (.cells #[.slice (some ⟨gg, 0, none⟩) PB.length c0] 24)).alloc (.cells #[.int .u8 0] 5)).alloc (.cells #[.int .i64 0] 3)) :=
    (((Below.refl _ _).alloc (by simp) _).alloc (by simp) _).alloc (by simp; omega) _
  refine ⟨⟨?_, ?_, ⟨gg, c0, ?_, ho.below hB, by omega, by omega, by omega⟩, ?_, ?_, ?_, ?_, ?_, ?_, by omega, by omega, by omega⟩, hbw.trans (hB.mono hs), ⟨Nat.zero_lt_succ 7, Nat.zero_lt_one⟩⟩
  all_goals first | (simp [go_sem]; done) | (simp [go_sem]; omega)
theorem and1_u32 (v j : Nat) (hv : v < 4294967296) : bits .and .u32 ((v : Int) / 2 ^ j) 1 = ((v / 2 ^ j % 2 : Nat) : Int) := by
  have e : ((v : Int) / 2 ^ j) = ((v / 2 ^ j : Nat) : Int) := by simp
  have h : v / 2 ^ j < 4294967296 := Nat.lt_of_le_of_lt (Nat.div_le_self _ _) hv
  rw [e]
  generalize v / 2 ^ j = s at h
  have e1 : (1 : Int) = ((1 : Nat) : Int) := rfl
  rw [e1, u32_and_nat s 1 h (by omega)]
  congr 1
  exact Nat.and_one_is_mod s
def fLeft (w : World) (bf : Nat) : Nat := match w.cell? ⟨bf, 0, none⟩ with
  | some (.int _ x) => if x.toNat = 0 then 0 else 8 - x.toNat
  | _ => 0
theorem fleft_less {w w5 : World} {bf : Nat} {s : List (BitVec 8) × Nat × Nat} (h0 : 0 < s.2.2) (h8 : s.2.2 < 8) (h1 : w.cell? ⟨bf, 0, none⟩ = some (.int .i64 (s.2.2 : Int))) (h2 : w5.cell? ⟨bf, 0, none⟩ = some (.int .i64 ((bstep s 0).2.2 : Int))) : fLeft w5 bf < fLeft w bf := by
  unfold fLeft
  rw [h1, h2]
  simp only [Int.toNat_natCast]
  unfold bstep
  by_cases h : s.2.2 = 7
  · rw [if_pos h, h]; simp
  · rw [if_neg h]
    simp only []
    rw [if_neg (by omega), if_neg (by omega)]
    omega
theorem flush_zero {s : List (BitVec 8) × Nat × Nat} (h0 : 0 < s.2.2) : flush (bstep s 0) = flush s := by
  unfold flush bstep
  rw [if_neg (c := s.2.2 = 0) (by omega)]
  by_cases h : s.2.2 = 7
  · rw [if_pos h]; simp
  · rw [if_neg h]; simp
theorem len_zero {S : List (BitVec 8) × Nat × Nat} (s : List (BitVec 8) × Nat × Nat) (h0 : 0 < s.2.2) (h : s.1.length ≤ S.1.length ∨ s.2.2 = 0) : (bstep s 0).1.length ≤ S.1.length ∨ (bstep s 0).2.2 = 0 := by
  unfold bstep
  by_cases e : s.2.2 = 7
  · rw [if_pos e]; exact .inr rfl
  · rw [if_neg e]
    rcases h with h | h
    · exact .inl h
    · omega
set_option maxHeartbeats 2000000 in
set_option maxRecDepth 100000 in
theorem putWords_any (gg c0 : Nat) (PB text : List (BitVec 8)) (a : Option Addr) (tl tc : Nat) (bC gc cc : Nat) (cs : List (Int × Nat)) (W w : World)
    (ho : Own w W.heap.size (.slice (some ⟨gg, 0, none⟩) PB.length c0) PB) (hbw : Below W.heap.size W w) (hr : Rd W a tl text) (ht : tl ≤ 65536) (hc : OwnC W bC (.slice (some ⟨gc, 0, none⟩) 256 cc) cs) (hcs : LenOk cs) (hPB : PB.length ≤ 65536) :
    Calls Tryz.prog 55 #[.slice (some ⟨gg, 0, none⟩) PB.length c0, .slice a tl tc, .slice (some ⟨gc, 0, none⟩) 256 cc] w fun e w' => ∃ v, e = .returned v ∧ Own w' W.heap.size v (flush (packed PB (bitsOf cs text))) ∧ Below W.heap.size W w' := by
  have HO := hide ho
  have HBW := hide hbw
  have HR := hide hr
  have HC := hide hc
  have HCS := hide hcs
  clear ho hbw hr hc hcs
  have hmf : ∀ (fn : Fn) (first cap : Array Value) (w : World), (Instr.makeFunc fn first cap).run Tryz.prog w = .ok (.func fn first cap) w := fun _ _ _ _ => rfl
  go_enter Tryz.func55, Tryz.ntmps55
  go_wp2_with fail
  have HX := hide (st_start HO.out HBW.out)
  clear HO HBW hmf
  generalize (((w.alloc _).alloc _).alloc _) = W1 at HX ⊢
  generalize w.heap.size + 1 + 1 = bf at HX ⊢
  generalize w.heap.size + 1 = bg at HX ⊢
  generalize w.heap.size = bo at HX ⊢
  clear w
  go_loopw [16] (fun i wr => ∃ k : Nat, k ≤ tl ∧ i = .int .i64 (k : Int) ∧ Hid (StAt W bg bf bo wr (packed PB (bitsOf cs (text.take k))))) (fun i _ => tl - (intOf i).toNat)
  case atStart => exact ⟨0, by omega, rfl, HX⟩
  case round =>
    clear HX
    obtain ⟨k, hk, rfl, HX⟩ := hrel
    by_cases hlt : k < tl
    · have hki : (k : Int) < (tl : Int) := by omega
      obtain ⟨b1, o1, rfl, hb1, hc1⟩ := HR.out.2.2 (by omega)
      have g1 := hc1 k hlt
      rw [← HX.out.2.1.cell (p := ⟨b1, o1 + k, none⟩) hb1] at g1
      have HNX := hide (bitsOf_next cs text k (by rw [HR.out.1]; exact hlt))
      have HSUB := hide (bitsOf_sub cs HCS.out text k (by rw [HR.out.1]; exact ht))
      have HC8 := hide (HCS.out.2 (text.getD k 0).toNat (lt8 _))
      have HCC := hide (HC.out.cells HCS.out.1 (text.getD k 0).toNat (lt8 _))
      have HGC := hide (World.ownsRow.lt HC.out gc rfl).2
      generalize text.getD k 0 = c at g1 HNX HC8 HCC
      have hc8 := lt8 c
      generalize c.toNat = C at g1 HNX HC8 HCC hc8
      obtain ⟨⟨L, v⟩, hLv⟩ : ∃ Lv, cs.getD C (0, 0) = Lv := ⟨_, rfl⟩
      rw [hLv] at HNX HC8 HCC
      clear hLv c
      obtain ⟨l, rfl⟩ : ∃ l : Nat, L = (l : Int) := ⟨L.toNat, by have := HC8.out.1; simp only [] at this; omega⟩
      simp only [Int.toNat_natCast] at HNX HC8 HCC
      obtain ⟨s0, hs0⟩ : ∃ s0, packed PB (bitsOf cs (text.take k)) = s0 := ⟨_, rfl⟩
      have HLS : Hid (s0.1.length ≤ 1048576) := by
        show _ ≤ _
        have h1 := len_all (bitsOf cs (text.take k)) (PB, 0, 0)
        have h2 := HSUB.out
        rw [← hs0]; unfold packed; simp only [] at h1; omega
      have HNX2 : Hid (packed PB (bitsOf cs (text.take (k + 1))) = (wbits l v).foldl bstep s0) := by
        show _ = _
        rw [HNX.out]; unfold packed; rw [List.foldl_append]; unfold packed at hs0; rw [hs0]
      rw [hs0] at HX
      clear hs0 HNX HSUB hc1
      have g2 := HCC.out.1
      rw [← HX.out.2.1.cell (p := ⟨gc, C * 2, none⟩) HGC.out] at g2
      have hl15 : l ≤ 15 := by have := HC8.out.2.1; omega
      have hv : v < 4294967296 := HC8.out.2.2
      go_wp2_with fail
      have g3 := HCC.out.2
      have HG3 := hide g3
      clear g1 g2 g3
      go_loopw [12] (fun lf wy => ∃ m : Nat, m ≤ l ∧ lf = .int .i64 (m : Int) ∧ Hid (StAt W bg bf bo wy (((wbits l v).take (l - m)).foldl bstep s0))) (fun lf _ => (intOf lf).toNat)
      case atStart => exact ⟨l, Nat.le_refl _, rfl, by rw [Nat.sub_self, List.take_zero]; exact HX⟩
      case round =>
        clear HX
        obtain ⟨m, hm, rfl, HX⟩ := hrel
        by_cases hm0 : 0 < m
        · obtain ⟨j, rfl⟩ : ∃ j, m = j + 1 := ⟨m - 1, by omega⟩
          have d0 : (0 : Int) < ((j + 1 : Nat) : Int) := by omega
          have e1 : ((j + 1 : Nat) : Int) - 1 = (j : Int) := by omega
          have g3 := HG3.out
          rw [← HX.out.2.1.cell (p := ⟨gc, C * 2 + 1, none⟩) HGC.out] at g3
          have HT : Hid (((wbits l v).take (l - j)).foldl bstep s0 = bstep (((wbits l v).take (l - (j + 1))).foldl bstep s0) (v / 2 ^ j % 2)) := by
            show _ = _
            have := wbits_take l v j (by omega)
            rw [show l - (j + 1) + 1 = l - j by omega] at this
            rw [this, List.foldl_append]; rfl
          have HLT : Hid ((((wbits l v).take (l - (j + 1))).foldl bstep s0).1.length + 1 ≤ 140737488355328) := by
            show _ ≤ _
            have h1 := len_all ((wbits l v).take (l - (j + 1))) s0
            have h2 := HLS.out
            rw [List.length_take, wbits_len] at h1
            omega
          generalize ((wbits l v).take (l - (j + 1))).foldl bstep s0 = s1 at HX HT HLT
          have HPB := hide (fun bit hb W1 h => putBit_st bit bg bf bo s1 W W1 hb HLT.out h)
          go_wp2_with fail
          rw [and1_u32 v j hv]
          refine (HPB.out _ (by omega) _ HX.out).mono ?_
          rintro e w5 ⟨rfl, hx5⟩
          have HX5 := hide hx5
          clear hx5 HX
          go_wp2_with fail
          go_roundw
          case rel => exact ⟨j, by omega, rfl, by rw [HT.out]; exact HX5⟩
          case measure => simp [intOf]
        · have h0 : m = 0 := by omega
          subst h0
          rw [Nat.sub_zero, List.take_of_length_le (by rw [wbits_len]; exact Nat.le_refl _)] at HX
          go_wp2_with fail
          go_roundw
          case rel => exact ⟨k + 1, by omega, by go_num, by rw [HNX2.out]; exact HX⟩
          case measure => simp [intOf]; omega
    · have h0 : k = tl := by omega
      subst h0
      rw [List.take_of_length_le (by rw [HR.out.1]; exact Nat.le_refl _)] at HX
      go_wp2_with fail
      have HLS : Hid ((packed PB (bitsOf cs text)).1.length ≤ 1048576) := by
        show _ ≤ _
        have h1 := len_all (bitsOf cs text) (PB, 0, 0)
        have h2 := bitsOf_len cs HCS.out text
        have h3 := HR.out.1
        unfold packed; simp only [] at h1; omega
      obtain ⟨S, hS⟩ : ∃ S, packed PB (bitsOf cs text) = S := ⟨_, rfl⟩
      rw [hS] at HX HLS
      have HSE := hide hS
      clear hS
      go_loopw [41] (fun _ wy => ∃ s, Hid (StAt W bg bf bo wy s) ∧ Hid (flush s = flush S) ∧ Hid (s.1.length ≤ S.1.length ∨ s.2.2 = 0)) (fun _ wy => fLeft wy bf)
      case atStart => exact ⟨S, HX, rfl, .inl (Nat.le_refl _)⟩
      case round =>
        clear HX
        obtain ⟨s, HX, HFS, HLE⟩ := hrel
        have g1 := HX.out.1.f
        by_cases hf0 : 0 < s.2.2
        · have d0 : (0 : Int) < (s.2.2 : Int) := by omega
          have HLN : Hid (s.1.length + 1 ≤ 140737488355328) := by
            show _ ≤ _
            have h1 := HLS.out
            rcases HLE.out with h | h <;> omega
          have HPB := hide (fun bit hb W1 h => putBit_st bit bg bf bo s W W1 hb HLN.out h)
          go_wp2_with fail
          refine (HPB.out 0 (by omega) _ HX.out).mono ?_
          rintro e w5 ⟨rfl, hx5⟩
          have HX5 := hide hx5
          have HM : Hid (fLeft w5 bf < fLeft wr bf) := fleft_less hf0 HX.out.2.2.1 g1 hx5.1.f
          clear hx5
          go_wp2_with fail
          go_roundw
          case rel => exact ⟨_, HX5, (flush_zero hf0).trans HFS.out, len_zero s hf0 HLE.out⟩
          case measure => exact HM.out
        · have h0 : s.2.2 = 0 := by omega
          rw [h0] at g1
          obtain ⟨g2, c2, h1, h2, _⟩ := HX.out.1.o
          have HO2 := hide h2
          clear h2
          go_wp2_with fail
          go_ret
          refine ⟨_, rfl, ?_, HX.out.2.1⟩
          rw [HSE.out, ← HFS.out, flush, if_pos h0]
          exact HO2.out
end Go.Proofs.YthdblnfohbldcaaGreat.Huff
