/-
  The program's cursor: Fixed, Rest, End, NewCursor.
-/
import Derived.Test.YthdblnfohbldcaaGreatNumsCur
import Derived.Laws.IdiomCopy
namespace Go.Proofs.YthdblnfohbldcaaGreat.Curs
open Go.ChangeShapes Go.WideShapes Go.ChangeAt Go.RowKit
open Go.Proofs.YthdblnfohbldcaaGreat.Base Go.Proofs.YthdblnfohbldcaaGreat.Nums
set_option linter.unusedVariables false
/-- A fixed word at the head: the value, how many bytes, the error. -/
def fixAt (L : List (BitVec 8)) (n : Int) : Nat × Nat × Nat := if ¬ (1 ≤ n ∧ n ≤ 8) then (0, 0, 23) else if (L.length : Int) < n then (0, 0, 20) else (word (L.take n.toNat), n.toNat, 0)
theorem fixAt_len (L : List (BitVec 8)) (n : Int) : (fixAt L n).2.1 ≤ L.length := by
  unfold fixAt
  split
  · simp
  · split
    · simp
    · show n.toNat ≤ _; omega
set_option maxRecDepth 100000 in
theorem fixed1_any (a : Option Addr) (n c p3 p5 : Nat) (L : List (BitVec 8)) (k : Int) (w : World) (hr : Rd w a n L) (hn : n ≤ c) (hc : c ≤ 9223372036854775807) (h3 : Box w p3 (.int .i64 k) 3) (h5 : Box w p5 (.int .u64 0) 39) (h35 : p3 ≠ p5) :
    Calls Tryz.prog 130 #[.slice a n c, .pointer (some ⟨p3, 0, none⟩), .pointer (some ⟨p5, 0, none⟩)] w fun e w' => e = .returned (.tuple #[.int .i64 ((fixAt L k).2.1 : Nat), .int .i64 ((fixAt L k).2.2 : Nat)]) ∧ Box w' p5 (.int .u64 ((fixAt L k).1 : Nat)) 39 ∧ w.grownBy w' (some p5) := by
  have c3 := h3.c0
  have R := hide hr
  have HL := hide hr.1
  have H5 := hide h5
  have H3 := hide h3
  clear hr h3 h5
  by_cases hk : 1 ≤ k ∧ k ≤ 8
  · have hd : decide ((1 : Int) ≤ k ∧ k ≤ 8) = true := by simpa using hk
    by_cases hl : (n : Int) < k
    · have HE : Hid (fixAt L k = (0, 0, 20)) := by
        show _ = _; unfold fixAt; rw [if_neg (by omega), if_pos (by rw [HL.out]; exact hl)]
      clear hk
      go_enter Tryz.func130, Tryz.ntmps130
      go_wp2_with fail
      refine (width_any _ _).mono ?_
      rintro e w ⟨rfl, rfl⟩
      rw [hd]
      go_wp2_with fail
      go_ret2
      rw [HE.out]
      exact ⟨rfl, H5.out, World.grownBy.refl _ _⟩
    · obtain ⟨m, rfl⟩ := Int.eq_ofNat_of_zero_le (by omega : 0 ≤ k)
      have HE : Hid (fixAt L (m : Int) = (word (L.take m), m, 0)) := by
        show _ = _; unfold fixAt; rw [if_neg (by omega), if_neg (by rw [HL.out]; exact hl), Int.toNat_natCast]
      have hmn : m ≤ n := by omega
      have hmc : m ≤ c := by omega
      have hmi : (m : Int) ≤ (n : Int) := by omega
      have hmci : (m : Int) ≤ (c : Int) := by omega
      clear hk
      go_enter Tryz.func130, Tryz.ntmps130
      go_wp2_with fail
      refine (width_any _ _).mono ?_
      rintro e w ⟨rfl, rfl⟩
      rw [hd]
      go_wp2_with fail
      refine (word_any a m c (L.take m) w (R.out.cut m hmn) hmc hc).mono ?_
      rintro e w1 ⟨rfl, hb⟩
      have H51 := hide (H5.out.below hb)
      have c5 := H51.out.c0
      have f5 := H51.out.fr
      have d3 : w1.cell? ⟨p3, 0, none⟩ = some (.int .i64 (m : Int)) := (H3.out.below hb).c0
      have HB := hide hb
      clear hb c3
      generalize hW : word (L.take m) = W
      have HW := hide hW
      clear hW
      go_wp2_with fail
      go_ret2
      rw [HE.out, HW.out]
      exact ⟨rfl, H51.out.put, grown_cell (grown_of_below HB.out) 0 _⟩
  · have hd : decide ((1 : Int) ≤ k ∧ k ≤ 8) = false := by simpa using hk
    have HE : Hid (fixAt L k = (0, 0, 23)) := by show _ = _; unfold fixAt; rw [if_pos hk]
    clear hk
    go_enter Tryz.func130, Tryz.ntmps130
    go_wp2_with fail
    refine (width_any _ _).mono ?_
    rintro e w ⟨rfl, rfl⟩
    rw [hd]
    go_wp2_with fail
    go_ret2
    rw [HE.out]
    exact ⟨rfl, H5.out, World.grownBy.refl _ _⟩
set_option maxHeartbeats 1000000 in
set_option maxRecDepth 100000 in
theorem fixedC_any (g p : Nat) (L : List (BitVec 8)) (most : Int) (w : World) (h : Cur w g L p) :
    Calls Tryz.prog 84 #[.pointer (some ⟨g, 0, none⟩), .int .i64 most] w fun e w' => e = .returned (.int .u64 ((fixAt L most).1 : Nat)) ∧ w.grownBy w' (some g) ∧
      (if (fixAt L most).2.2 = 0 then Cur w' g (L.drop (fixAt L most).2.1) (p + (fixAt L most).2.1) else Dead w' g p (fixAt L most).2.2) := by
  obtain ⟨a, c, hrow, hrd, hlc, hc, hs, hab, halt, hp⟩ := h
  have hglt := hrow.lt
  have HB : Hid (Below w.heap.size w ((w.alloc (.cells #[.int .i64 most] 3)).alloc (.cells #[.int .u64 0] 39))) := ((Below.refl _ _).alloc (Nat.le_refl _) _).alloc (by simp) _
  have H3 : Hid (Box ((w.alloc (.cells #[.int .i64 most] 3)).alloc (.cells #[.int .u64 0] 39)) w.heap.size (.int .i64 most) 3) := by
    have h : Box (w.alloc (.cells #[.int .i64 most] 3)) w.heap.size (.int .i64 most) 3 := heap_alloc_new _ _
    exact h.below ((Below.refl _ _).alloc (Nat.le_refl _) _)
  have H5 : Hid (Box ((w.alloc (.cells #[.int .i64 most] 3)).alloc (.cells #[.int .u64 0] 39)) (w.heap.size + 1) (.int .u64 0) 39) := by
    have h : Box ((w.alloc (.cells #[.int .i64 most] 3)).alloc (.cells #[.int .u64 0] 39)) (w.alloc (.cells #[.int .i64 most] 3)).heap.size (.int .u64 0) 39 := heap_alloc_new _ _
    rw [show (w.alloc (.cells #[.int .i64 most] 3)).heap.size = w.heap.size + 1 by simp] at h
    exact h
  have HRow := hide (hrow.grown (below_grown HB.out) (by simp))
  have HRd := hide hrd
  have HN := hide (fixed1_any (some a) L.length c w.heap.size (w.heap.size + 1) L most _ (hrd.below HB.out) hlc hc H3.out H5.out (by omega))
  have hal := fixAt_len L most
  clear hrow hrd H3
  have HF := hide (fun args w => enter_of Tryz.func130 (by kernel_rfl) (c := _) rfl args w)
  generalize hG : fixAt L most = G at HN hal
  have HG := hide hG
  clear hG
  obtain ⟨gv, gn, ge⟩ := G
  simp only at HN hal
  by_cases he : ge = 0
  · subst he
    go_enter Tryz.func84, Tryz.ntmps84
    go_wp2_with fail
    refine (read_take _ g L.length c gn a _ _ (p : Int) _ (fun w1 => Box w1 (w.heap.size + 1) (.int .u64 (gv : Int)) 39 ∧ ((w.alloc (.cells #[.int .i64 most] 3)).alloc (.cells #[.int .u64 0] 39)).grownBy w1 (some (w.heap.size + 1))) HF.out HRow.out hal hlc hc ⟨by omega, hp⟩ hs HN.out (fun w1 h => HRow.out.grown h.2 (fun e => by have := Option.some.inj e; omega))).mono ?_
    rintro e w' ⟨rfl, w1, a', ⟨hbox, hg1⟩, hrow', hg', hs', hb', hm'⟩
    have hmv := moved HB.out hg1 (by omega) hg' HRd.out hs hab halt hal hlc hc hp hrow' hs' hb' hm'
    have hbx : Box w' (w.heap.size + 1) (.int .u64 (gv : Int)) 39 := by
      unfold Box; rw [hg'.block _ hbox.lt (fun e => by have := Option.some.inj e; omega)]; exact hbox
    have c5 := hbx.c0
    have HMV := hide hmv
    clear hbox hg1 hrow' hg' hs' hb' hm' hmv hbx
    go_wp2_with fail
    go_ret
    exact ⟨rfl, HMV.out.2, by first | exact HMV.out.1 | (simp only [if_true]; exact HMV.out.1)⟩
  · go_enter Tryz.func84, Tryz.ntmps84
    go_wp2_with fail
    refine (read_fails _ g _ (gn : Int) (ge : Int) _ _ (p : Int) _ (fun w1 => Box w1 (w.heap.size + 1) (.int .u64 (gv : Int)) 39 ∧ ((w.alloc (.cells #[.int .i64 most] 3)).alloc (.cells #[.int .u64 0] 39)).grownBy w1 (some (w.heap.size + 1))) HF.out HRow.out (by omega) HN.out (fun w1 h => HRow.out.grown h.2 (fun e => by have := Option.some.inj e; omega)) _ _ _ rfl).mono ?_
    rintro e w' ⟨rfl, w1, ⟨hbox, hg1⟩, hrow', hg'⟩
    have hbx : Box w' (w.heap.size + 1) (.int .u64 (gv : Int)) 39 := by
      unfold Box; rw [hg'.block _ hbox.lt (fun e => by have := Option.some.inj e; omega)]; exact hbox
    have c5 := hbx.c0
    have HGR : Hid (w.grownBy w' (some g)) := grown_trans (grown_new (grown_of_below HB.out) hg1 (fun i e => by cases e; omega)) hg'
    have HRW := hide hrow'
    clear hbox hg1 hrow' hg' hbx
    go_wp2_with fail
    go_ret
    exact ⟨rfl, HGR.out, by first | exact ⟨HRW.out, he⟩ | (simp only [if_neg he]; exact ⟨HRW.out, he⟩)⟩
theorem rest_any (g p : Nat) (L : List (BitVec 8)) (w : World) (h : Cur w g L p) : Calls Tryz.prog 114 #[.pointer (some ⟨g, 0, none⟩)] w fun e w' => e = .returned (.int .i64 (L.length : Nat)) ∧ w' = w := by
  obtain ⟨a, c, hrow, _⟩ := h
  have c0 := hrow.c0
  clear hrow
  go_enter Tryz.func114, Tryz.ntmps114
  go_wp2
  go_ret
  exact ⟨rfl, rfl⟩
theorem rest_dead (g p er : Nat) (w : World) (h : Dead w g p er) : Calls Tryz.prog 114 #[.pointer (some ⟨g, 0, none⟩)] w fun e w' => e = .returned (.int .i64 0) ∧ w' = w := by
  have c0 := h.1.c0
  clear h
  go_enter Tryz.func114, Tryz.ntmps114
  go_wp2
  go_ret
  exact ⟨rfl, rfl⟩
set_option maxRecDepth 100000 in
theorem end_any (g p : Nat) (L : List (BitVec 8)) (w : World) (h : Cur w g L p) : Calls Tryz.prog 85 #[.pointer (some ⟨g, 0, none⟩)] w fun e w' => e = .returned (.agg (if L.length = 0 then #[.int .i64 0, .int .i64 0] else #[.int .i64 22, .int .i64 (p : Int)])) ∧ Below w.heap.size w w' := by
  obtain ⟨a, c, hrow, _⟩ := h
  have hglt := hrow.lt
  have hne : g ≠ w.heap.size := by omega
  have c0 := hrow.c0
  have c1 := hrow.c1
  have c2 := hrow.c2
  clear hrow
  by_cases hl : L.length = 0
  · have hd : decide (0 < L.length) = false := by simp [hl]
    rw [if_pos hl]
    go_enter Tryz.func85, Tryz.ntmps85
    go_wp2
    refine bodyPost_ret (results_cell_row rfl _ _ w.heap.size 139 #[.int .i64 0, .int .i64 0] (0, 0) _ rfl (heap_alloc_new _ _) Tryz.underlying139 rfl (by kernel_rfl)) rfl ?_
    exact ⟨rfl, (Below.refl _ _).alloc (Nat.le_refl _) _⟩
  · have hd : decide (0 < L.length) = true := by simp; omega
    have hli : (0 : Int) < (L.length : Int) := by omega
    rw [if_neg hl]
    go_enter Tryz.func85, Tryz.ntmps85
    go_wp2
    refine bodyPost_ret (results_cell_row rfl _ _ w.heap.size 139 #[.int .i64 22, .int .i64 (p : Int)] (0, 0) _ rfl (heap_alloc_new _ _) Tryz.underlying139 rfl (by kernel_rfl)) rfl ?_
    exact ⟨rfl, (Below.refl _ _).alloc (Nat.le_refl _) _⟩
set_option maxRecDepth 100000 in
theorem end_dead (g p er : Nat) (w : World) (h : Dead w g p er) : Calls Tryz.prog 85 #[.pointer (some ⟨g, 0, none⟩)] w fun e w' => e = .returned (.agg #[.int .i64 (er : Int), .int .i64 (p : Int)]) ∧ Below w.heap.size w w' := by
  have hglt := h.1.lt
  have hne : g ≠ w.heap.size := by omega
  have c1 := h.1.c1
  have c2 := h.1.c2
  have hb : ((er : Int) != 0) = true := by rw [bne_iff_ne]; have := h.2; omega
  clear h
  go_enter Tryz.func85, Tryz.ntmps85
  go_wp2
  go_region_held (fun V => V.cell? ⟨g, 1, none⟩ = some (.int .i64 (p : Int)) ∧ V.cell? ⟨g, 2, none⟩ = some (.int .i64 (er : Int))) (go_keep) (fail)
  all_goals
    go_wp2
    refine bodyPost_ret (results_cell_row rfl _ _ w.heap.size 139 #[.int .i64 (er : Int), .int .i64 (p : Int)] (0, 0) _ rfl (show (w.alloc (.cells #[.int .i64 (er : Int), .int .i64 (p : Int)] 139)).heap[w.heap.size]? = _ from heap_alloc_new _ _) Tryz.underlying139 rfl (by kernel_rfl)) rfl ?_
    exact ⟨rfl, ((Below.refl _ _).alloc (Nat.le_refl _) _).drew⟩
/-- 'copy' into a row that the call itself made, from whatever slice. -/
theorem copy_from {w0 w1 : World} {base g n sLen cap : Nat} {a : Option Addr} {zs bs : List (BitVec 8)} (ho : Own w1 base (.slice (some ⟨g, 0, none⟩) n n) zs) (hr : Rd w1 a n bs) (hs : n ≤ sLen) (hb : Below base w0 w1) (hm : n ≤ maxLen) :
    ∃ w2, (∀ ty, (Builtin.copy_ #[24, 24] ty #[.slice (some ⟨g, 0, none⟩) n n, .slice a sLen cap]).run Tryz.prog w1 = .ok (.int .i64 n) w2) ∧ Hid (Own w2 base (.slice (some ⟨g, 0, none⟩) n n) bs) ∧ Hid (Below base w0 w2) ∧ Hid (w1.grownBy w2 (some g)) := by
  by_cases hn : n = 0
  · subst hn
    have hbs : bs = [] := List.length_eq_zero_iff.1 hr.1
    have hzs : zs = [] := List.length_eq_zero_iff.1 (ho.len).symm
    subst hbs hzs
    refine ⟨w1, fun ty => ?_, ho, hb, World.grownBy.refl _ _⟩
    exact run_copy_none w1 24 24 ty 5 _ a 0 0 sLen cap Tryz.underlying24 info1 (by simp)
  · obtain ⟨b, off, rfl, _, _⟩ := hr.2.2 (by omega)
    have hn' := ho.len
    have hl := hr.1
    have hg := ho.heap
    have hgb := ho.lt'
    refine ⟨w1.setRow g (vals bs).toArray, fun ty => ?_, ?_, below_setRow hb hgb.1 _, ?_⟩
    · have h := run_copy_row Tryz.prog w1 24 24 ty 5 g 0 n n ⟨b, off, none⟩ sLen cap (vals zs).toArray 5 (vals bs) Tryz.underlying24 info1 hg
        (by rw [length_vals, hl]; exact (Nat.min_eq_right hs).symm) (fun j v hv => hr.cells j v hv) (by simp [length_vals]; omega) (vals_one _)
      rw [h]
      have e1 : List.take 0 (vals zs).toArray.toList ++ vals bs ++ List.drop (0 + (vals bs).length) (vals zs).toArray.toList = vals bs := by
        have : List.drop (0 + (vals bs).length) (vals zs).toArray.toList = [] := List.drop_eq_nil_of_le (by simp [length_vals]; omega)
        rw [this]; simp
      rw [e1, length_vals, hl]
      rfl
    · have h := own_heap (base := base) (bs := bs) (setRow_heap w1 g _ (vals bs).toArray _ _ hg) hgb.1 (by omega)
      rw [hl] at h
      exact h
    · exact ⟨rfl, rfl, rfl, by simp [World.setRow], fun k hk hne => setRow_other w1 g k _ (fun e => hne (by rw [e]))⟩
set_option maxHeartbeats 1000000 in
set_option maxRecDepth 100000 in
theorem newCursor_any (a : Option Addr) (n c : Nat) (L : List (BitVec 8)) (w : World) (hr : Rd w a n L) (hn : n ≤ c) (hm : n ≤ 140737488355328) (hz : a = none → n = 0 ∧ c = 0) :
    Calls Tryz.prog 83 #[.slice a n c] w fun e w' => ∃ g, e = .returned (.pointer (some ⟨g, 0, none⟩)) ∧ w.heap.size ≤ g ∧ Cur w' g L 0 ∧ Below w.heap.size w w' := by
  have R := hide hr
  have HL := hide hr.1
  clear hr
  obtain ⟨i0, hi, hz0, hz1, hz2⟩ := info_parts info8
  go_enter Tryz.func83, Tryz.ntmps83
  go_wp2_with (at_make; refine wpList_make_full _ rfl _ _ 24 rfl w.heap.size 5 i0 (.int .u8 0) 1 Tryz.underlying24 hi hz0 hz1 .i64 .i64 _ _ n rfl rfl (by omega) (by omega) (by rw [hz2]; omega) (by unfold maxLen; omega) (Nat.le_refl _) ?_
               intro w1 hown hgrow
               have HB1 : Hid (Below w.heap.size w w1) := (Below.refl _ _).grown hgrow (Nat.le_refl _) (by intro k h; cases h)
               have HO1 : Hid (Own w1 w.heap.size (.slice (some ⟨w.heap.size, 0, none⟩) n n) (List.replicate n (BitVec.ofNat 8 0))) := by
                 show Own _ _ _ _
                 unfold Own
                 rw [List.length_replicate, ← vals_replicate]
                 exact hown
               obtain ⟨w2, hcopy, HO2, HB2, _⟩ := copy_from (sLen := n) (cap := c) HO1.out (R.out.below HB1.out) (Nat.le_refl _) HB1.out (by unfold maxLen; omega)
               clear hown hgrow)
  go_ret
  have hlt := HO2.out.lt'
  refine ⟨w2.heap.size, rfl, HB2.out.size, ⟨⟨w.heap.size, 0, none⟩, n, ?_, ?_, by rw [HL.out]; omega, by omega, rfl, ?_, ?_, ?_⟩, HB2.out.alloc HB2.out.size _⟩
  · rw [HL.out]; exact heap_alloc_new _ _
  · rw [HL.out]
    exact (HO2.out.below ((Below.refl _ _).alloc (Nat.le_refl _) _)).rd (by rw [HL.out]; exact hm)
  · show w.heap.size ≠ w2.heap.size; omega
  · show w.heap.size < _; simp; omega
  · rw [HL.out]; omega
/-- Bytes at the head: how many, the error. -/
def takeAt (L : List (BitVec 8)) (n : Int) : Nat × Nat := if n < 0 then (0, 23) else if (L.length : Int) < n then (0, 20) else (n.toNat, 0)
theorem takeAt_len (L : List (BitVec 8)) (n : Int) : (takeAt L n).1 ≤ L.length := by
  unfold takeAt
  split
  · simp
  · split
    · simp
    · show n.toNat ≤ _; omega
set_option maxHeartbeats 1000000 in
set_option maxRecDepth 100000 in
theorem take1_any (a : Option Addr) (n c p3 p5 : Nat) (L : List (BitVec 8)) (k : Int) (w : World) (hr : Rd w a n L) (hn : n ≤ c) (hm : n ≤ 140737488355328) (h3 : Box w p3 (.int .i64 k) 3) (h5 : Box w p5 (.slice none 0 0) 24) (h35 : p3 ≠ p5) (hap : ∀ ad, a = some ad → ad.block ≠ p5) :
    Calls Tryz.prog 142 #[.slice a n c, .pointer (some ⟨p3, 0, none⟩), .pointer (some ⟨p5, 0, none⟩)] w fun e w' => e = .returned (.tuple #[.int .i64 ((takeAt L k).1 : Nat), .int .i64 ((takeAt L k).2 : Nat)]) ∧
      (∃ v, Box w' p5 v 24 ∧ Own w' w.heap.size v (L.take (takeAt L k).1)) ∧ w.grownBy w' (some p5) := by
  have c3 := h3.c0
  have R := hide hr
  have HL := hide hr.1
  have H5 := hide h5
  have H3 := hide h3
  clear hr h3 h5
  obtain ⟨i0, hi, hz0, hz1, hz2⟩ := info_parts info8
  by_cases hk : k < 0
  · have HE : Hid (takeAt L k = (0, 23)) := by show _ = _; unfold takeAt; rw [if_pos hk]
    go_enter Tryz.func142, Tryz.ntmps142
    go_wp2_with fail
    go_ret2
    rw [HE.out]
    exact ⟨rfl, ⟨_, H5.out, own_none _ _⟩, World.grownBy.refl _ _⟩
  · by_cases hl : (n : Int) < k
    · have HE : Hid (takeAt L k = (0, 20)) := by
        show _ = _; unfold takeAt; rw [if_neg hk, if_pos (by rw [HL.out]; exact hl)]
      go_enter Tryz.func142, Tryz.ntmps142
      go_wp2_with fail
      go_ret2
      rw [HE.out]
      exact ⟨rfl, ⟨_, H5.out, own_none _ _⟩, World.grownBy.refl _ _⟩
    · obtain ⟨m, rfl⟩ := Int.eq_ofNat_of_zero_le (by omega : 0 ≤ k)
      have HE : Hid (takeAt L (m : Int) = (m, 0)) := by
        show _ = _; unfold takeAt; rw [if_neg (by omega), if_neg (by rw [HL.out]; exact hl), Int.toNat_natCast]
      have hmn : m ≤ n := by omega
      have h5lt := H5.out.lt
      go_enter Tryz.func142, Tryz.ntmps142
      go_wp2_with (at_make; refine wpList_make_full _ rfl _ _ 24 rfl w.heap.size 5 i0 (.int .u8 0) 1 Tryz.underlying24 hi hz0 hz1 .i64 .i64 _ _ m rfl rfl (by omega) (by omega) (by rw [hz2]; omega) (by unfold maxLen; omega) (Nat.le_refl _) ?_
                   intro w1 hown hgrow
                   have HB1 : Hid (Below w.heap.size w w1) := (Below.refl _ _).grown hgrow (Nat.le_refl _) (by intro k h; cases h)
                   have HO1 : Hid (Own w1 w.heap.size (.slice (some ⟨w.heap.size, 0, none⟩) m m) (List.replicate m (BitVec.ofNat 8 0))) := by
                     show Own _ _ _ _
                     unfold Own
                     rw [List.length_replicate, ← vals_replicate]
                     exact hown
                   have H51 := hide (H5.out.below HB1.out)
                   have c5 := H51.out.c0
                   have f5 := H51.out.fr
                   have HG5 : Hid (w1.grownBy (w1.setCell ⟨p5, 0, none⟩ (.slice (some ⟨w.heap.size, 0, none⟩) m m)) (some p5)) := grown_cell (World.grownBy.refl _ _) 0 _
                   have HO1' : Hid (Own (w1.setCell ⟨p5, 0, none⟩ (.slice (some ⟨w.heap.size, 0, none⟩) m m)) w.heap.size (.slice (some ⟨w.heap.size, 0, none⟩) m m) (List.replicate m (BitVec.ofNat 8 0))) := HO1.out.other HG5.out (by omega)
                   have HRd' : Hid (Rd (w1.setCell ⟨p5, 0, none⟩ (.slice (some ⟨w.heap.size, 0, none⟩) m m)) a m (L.take m)) := ((R.out.below HB1.out).grown HG5.out (fun ad e e2 => hap ad e (Option.some.inj e2).symm)).cut m hmn
                   obtain ⟨w2, hcopy, HO2, HB2, HG2⟩ := copy_from (w0 := w1.setCell ⟨p5, 0, none⟩ (.slice (some ⟨w.heap.size, 0, none⟩) m m)) (sLen := n) (cap := c) HO1'.out HRd'.out hmn (Below.refl _ _) (by unfold maxLen; omega)
                   clear hown hgrow)
      go_ret2
      have hlt1 : p5 < w1.heap.size := H51.out.lt
      have hsz : (w1.setCell ⟨p5, 0, none⟩ (.slice (some ⟨w.heap.size, 0, none⟩) m m)).heap.size = w1.heap.size := by simp [World.setCell]
      rw [HE.out]
      refine ⟨rfl, ⟨_, ?_, HO2.out⟩, grown_new (grown_trans (grown_of_below HB1.out) HG5.out) HG2.out (fun i e => by cases e; exact Nat.le_refl _)⟩
      unfold Box
      rw [HG2.out.block p5 (by omega) (fun e => by have := Option.some.inj e; omega)]
      exact H51.out.put
set_option maxHeartbeats 1000000 in
set_option maxRecDepth 100000 in
theorem take_any (g p : Nat) (L : List (BitVec 8)) (k : Int) (w : World) (h : Cur w g L p) :
    Calls Tryz.prog 103 #[.pointer (some ⟨g, 0, none⟩), .int .i64 k] w fun e w' => (∃ v, e = .returned v ∧ Own w' w.heap.size v (L.take (takeAt L k).1)) ∧ w.grownBy w' (some g) ∧
      (if (takeAt L k).2 = 0 then Cur w' g (L.drop (takeAt L k).1) (p + (takeAt L k).1) else Dead w' g p (takeAt L k).2) := by
  obtain ⟨a, c, hrow, hrd, hlc, hc, hs, hab, halt, hp⟩ := h
  have hglt := hrow.lt
  have HB : Hid (Below w.heap.size w ((w.alloc (.cells #[.int .i64 k] 3)).alloc (.cells #[.slice none 0 0] 24))) := ((Below.refl _ _).alloc (Nat.le_refl _) _).alloc (by simp) _
  have H3 : Hid (Box ((w.alloc (.cells #[.int .i64 k] 3)).alloc (.cells #[.slice none 0 0] 24)) w.heap.size (.int .i64 k) 3) := by
    have h : Box (w.alloc (.cells #[.int .i64 k] 3)) w.heap.size (.int .i64 k) 3 := heap_alloc_new _ _
    exact h.below ((Below.refl _ _).alloc (Nat.le_refl _) _)
  have H5 : Hid (Box ((w.alloc (.cells #[.int .i64 k] 3)).alloc (.cells #[.slice none 0 0] 24)) (w.heap.size + 1) (.slice none 0 0) 24) := by
    have h : Box ((w.alloc (.cells #[.int .i64 k] 3)).alloc (.cells #[.slice none 0 0] 24)) (w.alloc (.cells #[.int .i64 k] 3)).heap.size (.slice none 0 0) 24 := heap_alloc_new _ _
    rw [show (w.alloc (.cells #[.int .i64 k] 3)).heap.size = w.heap.size + 1 by simp] at h
    exact h
  have HZ : Hid (((w.alloc (.cells #[.int .i64 k] 3)).alloc (.cells #[.slice none 0 0] 24)).heap.size = w.heap.size + 2) := by show _ = _; simp
  have HRow := hide (hrow.grown (below_grown HB.out) (by simp))
  have HRd := hide hrd
  have hrl := hrd.2.1
  have HN := hide (take1_any (some a) L.length c w.heap.size (w.heap.size + 1) L k _ (hrd.below HB.out) hlc hrl H3.out H5.out (by omega) (fun ad e => by cases e; omega))
  have hal := takeAt_len L k
  clear hrow hrd H3
  have HF := hide (fun args w => enter_of Tryz.func142 (by kernel_rfl) (c := _) rfl args w)
  generalize hG : takeAt L k = G at HN hal
  clear hG
  obtain ⟨gn, ge⟩ := G
  simp only at HN hal
  by_cases he : ge = 0
  · subst he
    go_enter Tryz.func103, Tryz.ntmps103
    go_wp2_with fail
    refine (read_take _ g L.length c gn a _ _ (p : Int) _ (fun w1 => (∃ v, Box w1 (w.heap.size + 1) v 24 ∧ Own w1 ((w.alloc (.cells #[.int .i64 k] 3)).alloc (.cells #[.slice none 0 0] 24)).heap.size v (L.take gn)) ∧ ((w.alloc (.cells #[.int .i64 k] 3)).alloc (.cells #[.slice none 0 0] 24)).grownBy w1 (some (w.heap.size + 1))) HF.out HRow.out hal hlc hc ⟨by omega, hp⟩ hs HN.out (fun w1 h => HRow.out.grown h.2 (fun e => by have := Option.some.inj e; omega))).mono ?_
    rintro e w' ⟨rfl, w1, a', ⟨⟨v, hbox, hown⟩, hg1⟩, hrow', hg', hs', hb', hm'⟩
    have hmv := moved HB.out hg1 (by omega) hg' HRd.out hs hab halt hal hlc hc hp hrow' hs' hb' hm'
    have hbx : Box w' (w.heap.size + 1) v 24 := by
      unfold Box; rw [hg'.block _ hbox.lt (fun e => by have := Option.some.inj e; omega)]; exact hbox
    have HOW : Hid (Own w' w.heap.size v (L.take gn)) := (keep hown hg' (fun i j e1 e2 e => by have := (blk hown i e1).1; have := HZ.out; have e3 := Option.some.inj e2; omega)).mono (by have := HZ.out; omega)
    have c5 := hbx.c0
    have HMV := hide hmv
    clear hbox hown hg1 hrow' hg' hs' hb' hm' hmv hbx
    go_wp2_with fail
    go_ret
    exact ⟨⟨_, rfl, HOW.out⟩, HMV.out.2, by first | exact HMV.out.1 | (simp only [if_true]; exact HMV.out.1)⟩
  · go_enter Tryz.func103, Tryz.ntmps103
    go_wp2_with fail
    refine (read_fails _ g _ (gn : Int) (ge : Int) _ _ (p : Int) _ (fun w1 => (∃ v, Box w1 (w.heap.size + 1) v 24 ∧ Own w1 ((w.alloc (.cells #[.int .i64 k] 3)).alloc (.cells #[.slice none 0 0] 24)).heap.size v (L.take gn)) ∧ ((w.alloc (.cells #[.int .i64 k] 3)).alloc (.cells #[.slice none 0 0] 24)).grownBy w1 (some (w.heap.size + 1))) HF.out HRow.out (by omega) HN.out (fun w1 h => HRow.out.grown h.2 (fun e => by have := Option.some.inj e; omega)) _ _ _ rfl).mono ?_
    rintro e w' ⟨rfl, w1, ⟨⟨v, hbox, hown⟩, hg1⟩, hrow', hg'⟩
    have hbx : Box w' (w.heap.size + 1) v 24 := by
      unfold Box; rw [hg'.block _ hbox.lt (fun e => by have := Option.some.inj e; omega)]; exact hbox
    have HOW : Hid (Own w' w.heap.size v (L.take gn)) := (keep hown hg' (fun i j e1 e2 e => by have := (blk hown i e1).1; have := HZ.out; have e3 := Option.some.inj e2; omega)).mono (by have := HZ.out; omega)
    have c5 := hbx.c0
    have HGR : Hid (w.grownBy w' (some g)) := grown_trans (grown_new (grown_of_below HB.out) hg1 (fun i e => by cases e; omega)) hg'
    have HRW := hide hrow'
    clear hbox hown hg1 hrow' hg' hbx
    go_wp2_with fail
    go_ret
    exact ⟨⟨_, rfl, HOW.out⟩, HGR.out, by first | exact ⟨HRW.out, he⟩ | (simp only [if_neg he]; exact ⟨HRW.out, he⟩)⟩
end Go.Proofs.YthdblnfohbldcaaGreat.Curs
