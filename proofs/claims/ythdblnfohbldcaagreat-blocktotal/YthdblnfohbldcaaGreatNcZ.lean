/-
  The program's cursor: nil ones, zero ones, failed ones; what is taken has no room behind it.
-/
import Derived.Test.YthdblnfohbldcaaGreatNumsCur3
namespace Go.Proofs.YthdblnfohbldcaaGreat.Curs
open Go.ChangeShapes Go.WideShapes Go.ChangeAt Go.RowKit
open Go.Proofs.YthdblnfohbldcaaGreat.Base Go.Proofs.YthdblnfohbldcaaGreat.Nums
set_option linter.unusedVariables false
/-- A slice that is full. -/
def Fu (v : Value) : Prop := ∃ a n, v = .slice a n n
set_option maxHeartbeats 1000000 in
set_option maxRecDepth 100000 in
theorem take1_full (a : Option Addr) (n c p3 p5 : Nat) (L : List (BitVec 8)) (k : Int) (w : World) (hr : Rd w a n L) (hn : n ≤ c) (hm : n ≤ 140737488355328) (h3 : Box w p3 (.int .i64 k) 3) (h5 : Box w p5 (.slice none 0 0) 24) (h35 : p3 ≠ p5) (hap : ∀ ad, a = some ad → ad.block ≠ p5) :
    Calls Tryz.prog 142 #[.slice a n c, .pointer (some ⟨p3, 0, none⟩), .pointer (some ⟨p5, 0, none⟩)] w fun e w' => e = .returned (.tuple #[.int .i64 ((takeAt L k).1 : Nat), .int .i64 ((takeAt L k).2 : Nat)]) ∧
      (∃ v, Box w' p5 v 24 ∧ Own w' w.heap.size v (L.take (takeAt L k).1) ∧ Fu v) ∧ w.grownBy w' (some p5) := by
  have c3 := h3.c0
  have R := hide hr
  have HL := hide hr.1
  have H5 := hide h5
  have H3 := hide h3
  clear hr h3 h5
  obtain ⟨i0, hi, hz0, hz1, hz2⟩ := info_parts info8
  by_cases hk : k < 0
  · have HE : Hid (takeAt L k = (0, 23)) := by show _ = _; unfold takeAt; rw [if_pos hk]
    go_enter Tryz.func142, Tryz.ntmps142
    go_wp2_with fail
    go_ret2
    rw [HE.out]
    exact ⟨rfl, ⟨_, H5.out, own_none _ _, ⟨none, 0, rfl⟩⟩, World.grownBy.refl _ _⟩
  · by_cases hl : (n : Int) < k
    · have HE : Hid (takeAt L k = (0, 20)) := by
        show _ = _; unfold takeAt; rw [if_neg hk, if_pos (by rw [HL.out]; exact hl)]
      go_enter Tryz.func142, Tryz.ntmps142
      go_wp2_with fail
      go_ret2
      rw [HE.out]
      exact ⟨rfl, ⟨_, H5.out, own_none _ _, ⟨none, 0, rfl⟩⟩, World.grownBy.refl _ _⟩
    · obtain ⟨m, rfl⟩ := Int.eq_ofNat_of_zero_le (by omega : 0 ≤ k)
      have HE : Hid (takeAt L (m : Int) = (m, 0)) := by
        show _ = _; unfold takeAt; rw [if_neg (by omega), if_neg (by rw [HL.out]; exact hl), Int.toNat_natCast]
      have hmn : m ≤ n := by omega
      have h5lt := H5.out.lt
      go_enter Tryz.func142, Tryz.ntmps142
      go_wp2_with (at_make; refine wpList_make_full _ rfl _ _ 24 rfl w.heap.size 5 i0 (.int .u8 0) 1 Tryz.underlying24 hi hz0 hz1 .i64 .i64 _ _ m rfl rfl (by omega) (by omega) (by rw [hz2]; omega) (by unfold maxLen; omega) (Nat.le_refl _) ?_
                   intro w1 hown hgrow
                   have HB1 : Hid (Below w.heap.size w w1) := (Below.refl _ _).grown hgrow (Nat.le_refl _) (by intro k h; cases h)
                   have HO1 : Hid (Own w1 w.heap.size (.slice (some ⟨w.heap.size, 0, none⟩) m m) (List.replicate m (BitVec.ofNat 8 0))) := by
                     show Own _ _ _ _
                     unfold Own
                     rw [List.length_replicate, ← vals_replicate]
                     exact hown
                   have H51 := hide (H5.out.below HB1.out)
                   have c5 := H51.out.c0
                   have f5 := H51.out.fr
                   have HG5 : Hid (w1.grownBy (w1.setCell ⟨p5, 0, none⟩ (.slice (some ⟨w.heap.size, 0, none⟩) m m)) (some p5)) := grown_cell (World.grownBy.refl _ _) 0 _
                   have HO1' : Hid (Own (w1.setCell ⟨p5, 0, none⟩ (.slice (some ⟨w.heap.size, 0, none⟩) m m)) w.heap.size (.slice (some ⟨w.heap.size, 0, none⟩) m m) (List.replicate m (BitVec.ofNat 8 0))) := HO1.out.other HG5.out (by omega)
                   have HRd' : Hid (Rd (w1.setCell ⟨p5, 0, none⟩ (.slice (some ⟨w.heap.size, 0, none⟩) m m)) a m (L.take m)) := ((R.out.below HB1.out).grown HG5.out (fun ad e e2 => hap ad e (Option.some.inj e2).symm)).cut m hmn
                   obtain ⟨w2, hcopy, HO2, HB2, HG2⟩ := copy_from (w0 := w1.setCell ⟨p5, 0, none⟩ (.slice (some ⟨w.heap.size, 0, none⟩) m m)) (sLen := n) (cap := c) HO1'.out HRd'.out hmn (Below.refl _ _) (by unfold maxLen; omega)
                   clear hown hgrow)
      go_ret2
      have hlt1 : p5 < w1.heap.size := H51.out.lt
      have hsz : (w1.setCell ⟨p5, 0, none⟩ (.slice (some ⟨w.heap.size, 0, none⟩) m m)).heap.size = w1.heap.size := by simp [World.setCell]
      rw [HE.out]
      refine ⟨rfl, ⟨_, ?_, HO2.out, ⟨_, _, rfl⟩⟩, grown_new (grown_trans (grown_of_below HB1.out) HG5.out) HG2.out (fun i e => by cases e; exact Nat.le_refl _)⟩
      unfold Box
      rw [HG2.out.block p5 (by omega) (fun e => by have := Option.some.inj e; omega)]
      exact H51.out.put
set_option maxHeartbeats 1000000 in
set_option maxRecDepth 100000 in
theorem take_full (g p : Nat) (L : List (BitVec 8)) (k : Int) (w : World) (h : Cur w g L p) :
    Calls Tryz.prog 103 #[.pointer (some ⟨g, 0, none⟩), .int .i64 k] w fun e w' => (∃ v, e = .returned v ∧ Own w' w.heap.size v (L.take (takeAt L k).1) ∧ Fu v) ∧ w.grownBy w' (some g) ∧
      (if (takeAt L k).2 = 0 then Cur w' g (L.drop (takeAt L k).1) (p + (takeAt L k).1) else Dead w' g p (takeAt L k).2) := by
  obtain ⟨a, c, hrow, hrd, hlc, hc, hs, hab, halt, hp⟩ := h
  have hglt := hrow.lt
  have HB : Hid (Below w.heap.size w ((w.alloc (.cells #[.int .i64 k] 3)).alloc (.cells #[.slice none 0 0] 24))) := ((Below.refl _ _).alloc (Nat.le_refl _) _).alloc (by simp) _
  have H3 : Hid (Box ((w.alloc (.cells #[.int .i64 k] 3)).alloc (.cells #[.slice none 0 0] 24)) w.heap.size (.int .i64 k) 3) := by
    have h : Box (w.alloc (.cells #[.int .i64 k] 3)) w.heap.size (.int .i64 k) 3 := heap_alloc_new _ _
    exact h.below ((Below.refl _ _).alloc (Nat.le_refl _) _)
  have H5 : Hid (Box ((w.alloc (.cells #[.int .i64 k] 3)).alloc (.cells #[.slice none 0 0] 24)) (w.heap.size + 1) (.slice none 0 0) 24) := by
    have h : Box ((w.alloc (.cells #[.int .i64 k] 3)).alloc (.cells #[.slice none 0 0] 24)) (w.alloc (.cells #[.int .i64 k] 3)).heap.size (.slice none 0 0) 24 := heap_alloc_new _ _
    rw [show (w.alloc (.cells #[.int .i64 k] 3)).heap.size = w.heap.size + 1 by simp] at h
    exact h
  have HZ : Hid (((w.alloc (.cells #[.int .i64 k] 3)).alloc (.cells #[.slice none 0 0] 24)).heap.size = w.heap.size + 2) := by show _ = _; simp
  have HRow := hide (hrow.grown (below_grown HB.out) (by simp))
  have HRd := hide hrd
  have hrl := hrd.2.1
  have HN := hide (take1_full (some a) L.length c w.heap.size (w.heap.size + 1) L k _ (hrd.below HB.out) hlc hrl H3.out H5.out (by omega) (fun ad e => by cases e; omega))
  have hal := takeAt_len L k
  clear hrow hrd H3
  have HF := hide (fun args w => enter_of Tryz.func142 (by kernel_rfl) (c := _) rfl args w)
  generalize hG : takeAt L k = G at HN hal
  clear hG
  obtain ⟨gn, ge⟩ := G
  simp only at HN hal
  by_cases he : ge = 0
  · subst he
    go_enter Tryz.func103, Tryz.ntmps103
    go_wp2_with fail
    refine (read_take _ g L.length c gn a _ _ (p : Int) _ (fun w1 => (∃ v, Box w1 (w.heap.size + 1) v 24 ∧ Own w1 ((w.alloc (.cells #[.int .i64 k] 3)).alloc (.cells #[.slice none 0 0] 24)).heap.size v (L.take gn) ∧ Fu v) ∧ ((w.alloc (.cells #[.int .i64 k] 3)).alloc (.cells #[.slice none 0 0] 24)).grownBy w1 (some (w.heap.size + 1))) HF.out HRow.out hal hlc hc ⟨by omega, hp⟩ hs HN.out (fun w1 h => HRow.out.grown h.2 (fun e => by have := Option.some.inj e; omega))).mono ?_
    rintro e w' ⟨rfl, w1, a', ⟨⟨v, hbox, hown, hfu⟩, hg1⟩, hrow', hg', hs', hb', hm'⟩
    have hmv := moved HB.out hg1 (by omega) hg' HRd.out hs hab halt hal hlc hc hp hrow' hs' hb' hm'
    have hbx : Box w' (w.heap.size + 1) v 24 := by
      unfold Box; rw [hg'.block _ hbox.lt (fun e => by have := Option.some.inj e; omega)]; exact hbox
    have HOW : Hid (Own w' w.heap.size v (L.take gn)) := (keep hown hg' (fun i j e1 e2 e => by have := (blk hown i e1).1; have := HZ.out; have e3 := Option.some.inj e2; omega)).mono (by have := HZ.out; omega)
    have HFU := hide hfu
    clear hfu
    have c5 := hbx.c0
    have HMV := hide hmv
    clear hbox hown hg1 hrow' hg' hs' hb' hm' hmv hbx
    go_wp2_with fail
    go_ret
    exact ⟨⟨_, rfl, HOW.out, HFU.out⟩, HMV.out.2, by first | exact HMV.out.1 | (simp only [if_true]; exact HMV.out.1)⟩
  · go_enter Tryz.func103, Tryz.ntmps103
    go_wp2_with fail
    refine (read_fails _ g _ (gn : Int) (ge : Int) _ _ (p : Int) _ (fun w1 => (∃ v, Box w1 (w.heap.size + 1) v 24 ∧ Own w1 ((w.alloc (.cells #[.int .i64 k] 3)).alloc (.cells #[.slice none 0 0] 24)).heap.size v (L.take gn) ∧ Fu v) ∧ ((w.alloc (.cells #[.int .i64 k] 3)).alloc (.cells #[.slice none 0 0] 24)).grownBy w1 (some (w.heap.size + 1))) HF.out HRow.out (by omega) HN.out (fun w1 h => HRow.out.grown h.2 (fun e => by have := Option.some.inj e; omega)) _ _ _ rfl).mono ?_
    rintro e w' ⟨rfl, w1, ⟨⟨v, hbox, hown, hfu⟩, hg1⟩, hrow', hg'⟩
    have hbx : Box w' (w.heap.size + 1) v 24 := by
      unfold Box; rw [hg'.block _ hbox.lt (fun e => by have := Option.some.inj e; omega)]; exact hbox
    have HOW : Hid (Own w' w.heap.size v (L.take gn)) := (keep hown hg' (fun i j e1 e2 e => by have := (blk hown i e1).1; have := HZ.out; have e3 := Option.some.inj e2; omega)).mono (by have := HZ.out; omega)
    have HFU := hide hfu
    clear hfu
    have c5 := hbx.c0
    have HGR : Hid (w.grownBy w' (some g)) := grown_trans (grown_new (grown_of_below HB.out) hg1 (fun i e => by cases e; omega)) hg'
    have HRW := hide hrow'
    clear hbox hown hg1 hrow' hg' hbx
    go_wp2_with fail
    go_ret
    exact ⟨⟨_, rfl, HOW.out, HFU.out⟩, HGR.out, by first | exact ⟨HRW.out, he⟩ | (simp only [if_neg he]; exact ⟨HRW.out, he⟩)⟩

set_option maxRecDepth 100000 in
theorem num_nil (k : Int) (w : World) : Calls Tryz.prog 102 #[.pointer none, .int .i64 k] w fun e w' => e = .returned (.int .i64 0) ∧ Below w.heap.size w w' := by
  have HB : Hid (Below w.heap.size w ((w.alloc (.cells #[.int .i64 k] 2)).alloc (.cells #[.int .i64 0] 2))) := ((Below.refl _ _).alloc (Nat.le_refl _) _).alloc (by simp) _
  have H3 : Hid (Box ((w.alloc (.cells #[.int .i64 k] 2)).alloc (.cells #[.int .i64 0] 2)) w.heap.size (.int .i64 k) 2) := by
    have h : Box (w.alloc (.cells #[.int .i64 k] 2)) w.heap.size (.int .i64 k) 2 := heap_alloc_new _ _
    exact h.below ((Below.refl _ _).alloc (Nat.le_refl _) _)
  have H5 : Hid (Box ((w.alloc (.cells #[.int .i64 k] 2)).alloc (.cells #[.int .i64 0] 2)) (w.heap.size + 1) (.int .i64 0) 2) := by
    have h : Box ((w.alloc (.cells #[.int .i64 k] 2)).alloc (.cells #[.int .i64 0] 2)) (w.alloc (.cells #[.int .i64 k] 2)).heap.size (.int .i64 0) 2 := heap_alloc_new _ _
    rw [show (w.alloc (.cells #[.int .i64 k] 2)).heap.size = w.heap.size + 1 by simp] at h
    exact h
  have c5 := H5.out.c0
  clear H3
  go_enter Tryz.func102, Tryz.ntmps102
  go_wp2_with fail
  refine (read_nil _ _ _ _).mono ?_
  rintro e w1 ⟨rfl, rfl⟩
  go_wp2_with fail
  go_ret
  exact ⟨rfl, HB.out⟩
set_option maxRecDepth 100000 in
theorem num_dead (g : Nat) (v : Value) (p er k : Int) (w : World) (h : Row w g v p er) (he : er ≠ 0) : Calls Tryz.prog 102 #[.pointer (some ⟨g, 0, none⟩), .int .i64 k] w fun e w' => e = .returned (.int .i64 0) ∧ Below w.heap.size w w' := by
  have HB : Hid (Below w.heap.size w ((w.alloc (.cells #[.int .i64 k] 2)).alloc (.cells #[.int .i64 0] 2))) := ((Below.refl _ _).alloc (Nat.le_refl _) _).alloc (by simp) _
  have H3 : Hid (Box ((w.alloc (.cells #[.int .i64 k] 2)).alloc (.cells #[.int .i64 0] 2)) w.heap.size (.int .i64 k) 2) := by
    have h : Box (w.alloc (.cells #[.int .i64 k] 2)) w.heap.size (.int .i64 k) 2 := heap_alloc_new _ _
    exact h.below ((Below.refl _ _).alloc (Nat.le_refl _) _)
  have H5 : Hid (Box ((w.alloc (.cells #[.int .i64 k] 2)).alloc (.cells #[.int .i64 0] 2)) (w.heap.size + 1) (.int .i64 0) 2) := by
    have h : Box ((w.alloc (.cells #[.int .i64 k] 2)).alloc (.cells #[.int .i64 0] 2)) (w.alloc (.cells #[.int .i64 k] 2)).heap.size (.int .i64 0) 2 := heap_alloc_new _ _
    rw [show (w.alloc (.cells #[.int .i64 k] 2)).heap.size = w.heap.size + 1 by simp] at h
    exact h
  have c5 := H5.out.c0
  have HRow := hide (h.grown (below_grown HB.out) (by simp))
  clear H3 h
  go_enter Tryz.func102, Tryz.ntmps102
  go_wp2_with fail
  refine (read_dead _ _ _ _ _ _ _ _ HRow.out he).mono ?_
  rintro e w1 ⟨rfl, rfl⟩
  go_wp2_with fail
  go_ret
  exact ⟨rfl, HB.out⟩
set_option maxRecDepth 100000 in
theorem fixed_nil (k : Int) (w : World) : Calls Tryz.prog 84 #[.pointer none, .int .i64 k] w fun e w' => e = .returned (.int .u64 0) ∧ Below w.heap.size w w' := by
  have HB : Hid (Below w.heap.size w ((w.alloc (.cells #[.int .i64 k] 3)).alloc (.cells #[.int .u64 0] 39))) := ((Below.refl _ _).alloc (Nat.le_refl _) _).alloc (by simp) _
  have H3 : Hid (Box ((w.alloc (.cells #[.int .i64 k] 3)).alloc (.cells #[.int .u64 0] 39)) w.heap.size (.int .i64 k) 3) := by
    have h : Box (w.alloc (.cells #[.int .i64 k] 3)) w.heap.size (.int .i64 k) 3 := heap_alloc_new _ _
    exact h.below ((Below.refl _ _).alloc (Nat.le_refl _) _)
  have H5 : Hid (Box ((w.alloc (.cells #[.int .i64 k] 3)).alloc (.cells #[.int .u64 0] 39)) (w.heap.size + 1) (.int .u64 0) 39) := by
    have h : Box ((w.alloc (.cells #[.int .i64 k] 3)).alloc (.cells #[.int .u64 0] 39)) (w.alloc (.cells #[.int .i64 k] 3)).heap.size (.int .u64 0) 39 := heap_alloc_new _ _
    rw [show (w.alloc (.cells #[.int .i64 k] 3)).heap.size = w.heap.size + 1 by simp] at h
    exact h
  have c5 := H5.out.c0
  clear H3
  go_enter Tryz.func84, Tryz.ntmps84
  go_wp2_with fail
  refine (read_nil _ _ _ _).mono ?_
  rintro e w1 ⟨rfl, rfl⟩
  go_wp2_with fail
  go_ret
  exact ⟨rfl, HB.out⟩
set_option maxRecDepth 100000 in
theorem fixed_dead (g : Nat) (v : Value) (p er k : Int) (w : World) (h : Row w g v p er) (he : er ≠ 0) : Calls Tryz.prog 84 #[.pointer (some ⟨g, 0, none⟩), .int .i64 k] w fun e w' => e = .returned (.int .u64 0) ∧ Below w.heap.size w w' := by
  have HB : Hid (Below w.heap.size w ((w.alloc (.cells #[.int .i64 k] 3)).alloc (.cells #[.int .u64 0] 39))) := ((Below.refl _ _).alloc (Nat.le_refl _) _).alloc (by simp) _
  have H3 : Hid (Box ((w.alloc (.cells #[.int .i64 k] 3)).alloc (.cells #[.int .u64 0] 39)) w.heap.size (.int .i64 k) 3) := by
    have h : Box (w.alloc (.cells #[.int .i64 k] 3)) w.heap.size (.int .i64 k) 3 := heap_alloc_new _ _
    exact h.below ((Below.refl _ _).alloc (Nat.le_refl _) _)
  have H5 : Hid (Box ((w.alloc (.cells #[.int .i64 k] 3)).alloc (.cells #[.int .u64 0] 39)) (w.heap.size + 1) (.int .u64 0) 39) := by
    have h : Box ((w.alloc (.cells #[.int .i64 k] 3)).alloc (.cells #[.int .u64 0] 39)) (w.alloc (.cells #[.int .i64 k] 3)).heap.size (.int .u64 0) 39 := heap_alloc_new _ _
    rw [show (w.alloc (.cells #[.int .i64 k] 3)).heap.size = w.heap.size + 1 by simp] at h
    exact h
  have c5 := H5.out.c0
  have HRow := hide (h.grown (below_grown HB.out) (by simp))
  clear H3 h
  go_enter Tryz.func84, Tryz.ntmps84
  go_wp2_with fail
  refine (read_dead _ _ _ _ _ _ _ _ HRow.out he).mono ?_
  rintro e w1 ⟨rfl, rfl⟩
  go_wp2_with fail
  go_ret
  exact ⟨rfl, HB.out⟩
set_option maxRecDepth 100000 in
theorem take_nil (k : Int) (w : World) : Calls Tryz.prog 103 #[.pointer none, .int .i64 k] w fun e w' => e = .returned (.slice none 0 0) ∧ Below w.heap.size w w' := by
  have HB : Hid (Below w.heap.size w ((w.alloc (.cells #[.int .i64 k] 3)).alloc (.cells #[.slice none 0 0] 24))) := ((Below.refl _ _).alloc (Nat.le_refl _) _).alloc (by simp) _
  have H3 : Hid (Box ((w.alloc (.cells #[.int .i64 k] 3)).alloc (.cells #[.slice none 0 0] 24)) w.heap.size (.int .i64 k) 3) := by
    have h : Box (w.alloc (.cells #[.int .i64 k] 3)) w.heap.size (.int .i64 k) 3 := heap_alloc_new _ _
    exact h.below ((Below.refl _ _).alloc (Nat.le_refl _) _)
  have H5 : Hid (Box ((w.alloc (.cells #[.int .i64 k] 3)).alloc (.cells #[.slice none 0 0] 24)) (w.heap.size + 1) (.slice none 0 0) 24) := by
    have h : Box ((w.alloc (.cells #[.int .i64 k] 3)).alloc (.cells #[.slice none 0 0] 24)) (w.alloc (.cells #[.int .i64 k] 3)).heap.size (.slice none 0 0) 24 := heap_alloc_new _ _
    rw [show (w.alloc (.cells #[.int .i64 k] 3)).heap.size = w.heap.size + 1 by simp] at h
    exact h
  have c5 := H5.out.c0
  clear H3
  go_enter Tryz.func103, Tryz.ntmps103
  go_wp2_with fail
  refine (read_nil _ _ _ _).mono ?_
  rintro e w1 ⟨rfl, rfl⟩
  go_wp2_with fail
  go_ret
  exact ⟨rfl, HB.out⟩
set_option maxRecDepth 100000 in
theorem take_dead (g : Nat) (v : Value) (p er k : Int) (w : World) (h : Row w g v p er) (he : er ≠ 0) : Calls Tryz.prog 103 #[.pointer (some ⟨g, 0, none⟩), .int .i64 k] w fun e w' => e = .returned (.slice none 0 0) ∧ Below w.heap.size w w' := by
  have HB : Hid (Below w.heap.size w ((w.alloc (.cells #[.int .i64 k] 3)).alloc (.cells #[.slice none 0 0] 24))) := ((Below.refl _ _).alloc (Nat.le_refl _) _).alloc (by simp) _
  have H3 : Hid (Box ((w.alloc (.cells #[.int .i64 k] 3)).alloc (.cells #[.slice none 0 0] 24)) w.heap.size (.int .i64 k) 3) := by
    have h : Box (w.alloc (.cells #[.int .i64 k] 3)) w.heap.size (.int .i64 k) 3 := heap_alloc_new _ _
    exact h.below ((Below.refl _ _).alloc (Nat.le_refl _) _)
  have H5 : Hid (Box ((w.alloc (.cells #[.int .i64 k] 3)).alloc (.cells #[.slice none 0 0] 24)) (w.heap.size + 1) (.slice none 0 0) 24) := by
    have h : Box ((w.alloc (.cells #[.int .i64 k] 3)).alloc (.cells #[.slice none 0 0] 24)) (w.alloc (.cells #[.int .i64 k] 3)).heap.size (.slice none 0 0) 24 := heap_alloc_new _ _
    rw [show (w.alloc (.cells #[.int .i64 k] 3)).heap.size = w.heap.size + 1 by simp] at h
    exact h
  have c5 := H5.out.c0
  have HRow := hide (h.grown (below_grown HB.out) (by simp))
  clear H3 h
  go_enter Tryz.func103, Tryz.ntmps103
  go_wp2_with fail
  refine (read_dead _ _ _ _ _ _ _ _ HRow.out he).mono ?_
  rintro e w1 ⟨rfl, rfl⟩
  go_wp2_with fail
  go_ret
  exact ⟨rfl, HB.out⟩
theorem get_nil : get ([] : List (BitVec 8)) = (0, 0, 20) := by decide
theorem atMost_nil (k : Int) : atMost [] k = (0, 0, 20) := by unfold atMost; rw [get_nil]; rfl
theorem textAt_nil (k : Int) : textAt [] k = (0, 20, []) := by unfold textAt; rw [atMost_nil]; rfl
theorem fixAt_nil (k : Int) : ∃ er : Nat, fixAt [] k = (0, 0, er) ∧ er ≠ 0 := by
  unfold fixAt
  by_cases h : 1 ≤ k ∧ k ≤ 8
  · exact ⟨20, by rw [if_neg (by simpa using h), if_pos (by simp; omega)], by decide⟩
  · exact ⟨23, by rw [if_pos h], by decide⟩
set_option maxRecDepth 100000 in
theorem read_zero (f g : Nat) (x y : Value) (w : World) (Φ : World → Prop) (hf : ∀ args w, (callFunc f args).run Tryz.prog w = .ok (.enter f args) w) (h : Row w g (.slice none 0 0) 0 0)
    (hcall : Calls Tryz.prog f #[.slice none 0 0, x, y] w fun e w1 => e = .returned (.tuple #[.int .i64 0, .int .i64 0]) ∧ Φ w1) (hrow : ∀ w1, Φ w1 → Row w1 g (.slice none 0 0) 0 0) :
    Calls Tryz.prog 129 #[.pointer (some ⟨g, 0, none⟩), .func (.func f) #[] #[x, y]] w fun e w' => e = .returned (.tuple #[]) ∧ ∃ w1, Φ w1 ∧ Row w' g (.slice none 0 0) 0 0 ∧ w1.grownBy w' (some g) := by
  have c0 := h.c0
  have c2 := h.c2
  have HC := hide hcall
  have HR := hide hrow
  have hsl : ∀ W, (Instr.sliceAt 24 (.slice none 0 0) (some (.int .i64 0)) none none).run Tryz.prog W = .ok (.slice none 0 0) W := fun W => by kernel_rfl
  clear h hcall hrow
  go_enter Tryz.func129, Tryz.ntmps129
  go_wp2_with fail
  refine HC.out.mono ?_
  rintro e w1 ⟨rfl, hφ⟩
  have r1 := HR.out w1 hφ
  have d0 := r1.c0
  have d1 := r1.c1
  have f0 := r1.fr 0
  have f1 := r1.fr 1
  have HR1 := hide r1
  have HΦ := hide hφ
  clear r1 hφ
  go_wp2_with fail
  go_end0
  exact ⟨rfl, w1, HΦ.out, HR1.out.put01, grown_cell (grown_cell (World.grownBy.refl _ _) 0 _) 1 _⟩
set_option maxHeartbeats 1000000 in
set_option maxRecDepth 100000 in
theorem num_zero (g : Nat) (k : Int) (w : World) (h : Row w g (.slice none 0 0) 0 0) : Calls Tryz.prog 102 #[.pointer (some ⟨g, 0, none⟩), .int .i64 k] w fun e w' => e = .returned (.int .i64 0) ∧ w.grownBy w' (some g) ∧ Row w' g (.slice none 0 0) 0 20 := by
  have hglt := h.lt
  have HB : Hid (Below w.heap.size w ((w.alloc (.cells #[.int .i64 k] 2)).alloc (.cells #[.int .i64 0] 2))) := ((Below.refl _ _).alloc (Nat.le_refl _) _).alloc (by simp) _
  have H3 : Hid (Box ((w.alloc (.cells #[.int .i64 k] 2)).alloc (.cells #[.int .i64 0] 2)) w.heap.size (.int .i64 k) 2) := by
    have h : Box (w.alloc (.cells #[.int .i64 k] 2)) w.heap.size (.int .i64 k) 2 := heap_alloc_new _ _
    exact h.below ((Below.refl _ _).alloc (Nat.le_refl _) _)
  have H5 : Hid (Box ((w.alloc (.cells #[.int .i64 k] 2)).alloc (.cells #[.int .i64 0] 2)) (w.heap.size + 1) (.int .i64 0) 2) := by
    have h : Box ((w.alloc (.cells #[.int .i64 k] 2)).alloc (.cells #[.int .i64 0] 2)) (w.alloc (.cells #[.int .i64 k] 2)).heap.size (.int .i64 0) 2 := heap_alloc_new _ _
    rw [show (w.alloc (.cells #[.int .i64 k] 2)).heap.size = w.heap.size + 1 by simp] at h
    exact h
  have HZ : Hid (((w.alloc (.cells #[.int .i64 k] 2)).alloc (.cells #[.int .i64 0] 2)).heap.size = w.heap.size + 2) := by show _ = _; simp
  have HRow := hide (h.grown (below_grown HB.out) (by simp))
  have HF := hide (fun args w => enter_of Tryz.func140 (by kernel_rfl) (c := _) rfl args w)
  have HN := hide (num1_any none 0 0 w.heap.size (w.heap.size + 1) [] k _ (rd_nil _) (Nat.le_refl _) (by omega) H3.out H5.out)
  rw [atMost_nil] at HN
  clear H3 h
  go_enter Tryz.func102, Tryz.ntmps102
  go_wp2_with fail
  refine (read_fails _ g _ 0 20 _ _ 0 _ (fun w1 => Box w1 (w.heap.size + 1) (.int .i64 0) 2 ∧ ((w.alloc (.cells #[.int .i64 k] 2)).alloc (.cells #[.int .i64 0] 2)).grownBy w1 (some (w.heap.size + 1))) HF.out HRow.out (by first | decide | omega) HN.out (fun w1 h => HRow.out.grown h.2 (fun e => by have := Option.some.inj e; omega)) _ _ _ rfl).mono ?_
  rintro e w' ⟨rfl, w1, ⟨hbox, hg1⟩, hrow', hg'⟩
  have hbx : Box w' (w.heap.size + 1) (.int .i64 0) 2 := by
    unfold Box; rw [hg'.block _ hbox.lt (fun e => by have := Option.some.inj e; omega)]; exact hbox
  have c5 := hbx.c0
  have HGR : Hid (w.grownBy w' (some g)) := grown_trans (grown_new (grown_of_below HB.out) hg1 (fun i e => by cases e; omega)) hg'
  have HRW := hide hrow'
  clear hbox hg1 hrow' hg' hbx HN
  go_wp2_with fail
  go_ret
  exact ⟨rfl, HGR.out, HRW.out⟩
set_option maxHeartbeats 1000000 in
set_option maxRecDepth 100000 in
theorem fixed_zero (g : Nat) (k : Int) (w : World) (h : Row w g (.slice none 0 0) 0 0) (er : Nat) (hfx : fixAt [] k = (0, 0, er)) (hne : er ≠ 0) : Calls Tryz.prog 84 #[.pointer (some ⟨g, 0, none⟩), .int .i64 k] w fun e w' => e = .returned (.int .u64 0) ∧ w.grownBy w' (some g) ∧ Row w' g (.slice none 0 0) 0 (er : Int) := by
  have hglt := h.lt
  have HB : Hid (Below w.heap.size w ((w.alloc (.cells #[.int .i64 k] 3)).alloc (.cells #[.int .u64 0] 39))) := ((Below.refl _ _).alloc (Nat.le_refl _) _).alloc (by simp) _
  have H3 : Hid (Box ((w.alloc (.cells #[.int .i64 k] 3)).alloc (.cells #[.int .u64 0] 39)) w.heap.size (.int .i64 k) 3) := by
    have h : Box (w.alloc (.cells #[.int .i64 k] 3)) w.heap.size (.int .i64 k) 3 := heap_alloc_new _ _
    exact h.below ((Below.refl _ _).alloc (Nat.le_refl _) _)
  have H5 : Hid (Box ((w.alloc (.cells #[.int .i64 k] 3)).alloc (.cells #[.int .u64 0] 39)) (w.heap.size + 1) (.int .u64 0) 39) := by
    have h : Box ((w.alloc (.cells #[.int .i64 k] 3)).alloc (.cells #[.int .u64 0] 39)) (w.alloc (.cells #[.int .i64 k] 3)).heap.size (.int .u64 0) 39 := heap_alloc_new _ _
    rw [show (w.alloc (.cells #[.int .i64 k] 3)).heap.size = w.heap.size + 1 by simp] at h
    exact h
  have HZ : Hid (((w.alloc (.cells #[.int .i64 k] 3)).alloc (.cells #[.int .u64 0] 39)).heap.size = w.heap.size + 2) := by show _ = _; simp
  have HRow := hide (h.grown (below_grown HB.out) (by simp))
  have HF := hide (fun args w => enter_of Tryz.func130 (by kernel_rfl) (c := _) rfl args w)
  have HN := hide (fixed1_any none 0 0 w.heap.size (w.heap.size + 1) [] k _ (rd_nil _) (Nat.le_refl _) (by omega) H3.out H5.out (by omega))
  rw [hfx] at HN
  clear H3 h
  go_enter Tryz.func84, Tryz.ntmps84
  go_wp2_with fail
  refine (read_fails _ g _ 0 (er : Int) _ _ 0 _ (fun w1 => Box w1 (w.heap.size + 1) (.int .u64 0) 39 ∧ ((w.alloc (.cells #[.int .i64 k] 3)).alloc (.cells #[.int .u64 0] 39)).grownBy w1 (some (w.heap.size + 1))) HF.out HRow.out (by first | decide | omega) HN.out (fun w1 h => HRow.out.grown h.2 (fun e => by have := Option.some.inj e; omega)) _ _ _ rfl).mono ?_
  rintro e w' ⟨rfl, w1, ⟨hbox, hg1⟩, hrow', hg'⟩
  have hbx : Box w' (w.heap.size + 1) (.int .u64 0) 39 := by
    unfold Box; rw [hg'.block _ hbox.lt (fun e => by have := Option.some.inj e; omega)]; exact hbox
  have c5 := hbx.c0
  have HGR : Hid (w.grownBy w' (some g)) := grown_trans (grown_new (grown_of_below HB.out) hg1 (fun i e => by cases e; omega)) hg'
  have HRW := hide hrow'
  clear hbox hg1 hrow' hg' hbx HN
  go_wp2_with fail
  go_ret
  exact ⟨rfl, HGR.out, HRW.out⟩
theorem takeAt_nil (k : Int) : takeAt [] k = (0, if k < 0 then 23 else if 0 < k then 20 else 0) := by
  unfold takeAt
  by_cases h : k < 0
  · rw [if_pos h, if_pos h]
  · rw [if_neg h, if_neg h]
    by_cases h2 : 0 < k
    · rw [if_pos (by simp; omega), if_pos h2]
    · rw [if_neg (by simp; omega), if_neg h2, show k = 0 by omega]; rfl
set_option maxHeartbeats 1000000 in
set_option maxRecDepth 100000 in
theorem take_zero (g : Nat) (k : Int) (er : Nat) (w : World) (h : Row w g (.slice none 0 0) 0 0) (hk : takeAt [] k = (0, er)) : Calls Tryz.prog 103 #[.pointer (some ⟨g, 0, none⟩), .int .i64 k] w fun e w' => (∃ v, e = .returned v ∧ Own w' w.heap.size v [] ∧ Fu v) ∧ w.grownBy w' (some g) ∧ Row w' g (.slice none 0 0) 0 (er : Int) := by
  have hglt := h.lt
  have HB : Hid (Below w.heap.size w ((w.alloc (.cells #[.int .i64 k] 3)).alloc (.cells #[.slice none 0 0] 24))) := ((Below.refl _ _).alloc (Nat.le_refl _) _).alloc (by simp) _
  have H3 : Hid (Box ((w.alloc (.cells #[.int .i64 k] 3)).alloc (.cells #[.slice none 0 0] 24)) w.heap.size (.int .i64 k) 3) := by
    have h : Box (w.alloc (.cells #[.int .i64 k] 3)) w.heap.size (.int .i64 k) 3 := heap_alloc_new _ _
    exact h.below ((Below.refl _ _).alloc (Nat.le_refl _) _)
  have H5 : Hid (Box ((w.alloc (.cells #[.int .i64 k] 3)).alloc (.cells #[.slice none 0 0] 24)) (w.heap.size + 1) (.slice none 0 0) 24) := by
    have h : Box ((w.alloc (.cells #[.int .i64 k] 3)).alloc (.cells #[.slice none 0 0] 24)) (w.alloc (.cells #[.int .i64 k] 3)).heap.size (.slice none 0 0) 24 := heap_alloc_new _ _
    rw [show (w.alloc (.cells #[.int .i64 k] 3)).heap.size = w.heap.size + 1 by simp] at h
    exact h
  have HZ : Hid (((w.alloc (.cells #[.int .i64 k] 3)).alloc (.cells #[.slice none 0 0] 24)).heap.size = w.heap.size + 2) := by show _ = _; simp
  have HRow := hide (h.grown (below_grown HB.out) (by simp))
  have HF := hide (fun args w => enter_of Tryz.func142 (by kernel_rfl) (c := _) rfl args w)
  have HN := hide (take1_full none 0 0 w.heap.size (w.heap.size + 1) [] k _ (rd_nil _) (Nat.le_refl _) (by omega) H3.out H5.out (by omega) (fun ad e => by cases e))
  rw [hk] at HN
  simp only [List.take_nil] at HN
  clear H3 h hk
  by_cases he : er = 0
  · subst he
    go_enter Tryz.func103, Tryz.ntmps103
    go_wp2_with fail
    refine (read_zero _ g _ _ _ (fun w1 => (∃ v, Box w1 (w.heap.size + 1) v 24 ∧ Own w1 ((w.alloc (.cells #[.int .i64 k] 3)).alloc (.cells #[.slice none 0 0] 24)).heap.size v [] ∧ Fu v) ∧ ((w.alloc (.cells #[.int .i64 k] 3)).alloc (.cells #[.slice none 0 0] 24)).grownBy w1 (some (w.heap.size + 1))) HF.out HRow.out HN.out (fun w1 h => HRow.out.grown h.2 (fun e => by have := Option.some.inj e; omega))).mono ?_
    rintro e w' ⟨rfl, w1, ⟨⟨v, hbox, hown, hfu⟩, hg1⟩, hrow', hg'⟩
    have hbx : Box w' (w.heap.size + 1) v 24 := by
      unfold Box; rw [hg'.block _ hbox.lt (fun e => by have := Option.some.inj e; omega)]; exact hbox
    have HOW : Hid (Own w' w.heap.size v []) := (keep hown hg' (fun i j e1 e2 e => by have := (blk hown i e1).1; have := HZ.out; have e3 := Option.some.inj e2; omega)).mono (by have := HZ.out; omega)
    have c5 := hbx.c0
    have HFU := hide hfu
    have HGR : Hid (w.grownBy w' (some g)) := grown_trans (grown_new (grown_of_below HB.out) hg1 (fun i e => by cases e; omega)) hg'
    have HRW := hide hrow'
    clear hbox hown hg1 hrow' hg' hbx hfu HN
    go_wp2_with fail
    go_ret
    exact ⟨⟨_, rfl, HOW.out, HFU.out⟩, HGR.out, HRW.out⟩
  · go_enter Tryz.func103, Tryz.ntmps103
    go_wp2_with fail
    refine (read_fails _ g _ 0 (er : Int) _ _ 0 _ (fun w1 => (∃ v, Box w1 (w.heap.size + 1) v 24 ∧ Own w1 ((w.alloc (.cells #[.int .i64 k] 3)).alloc (.cells #[.slice none 0 0] 24)).heap.size v [] ∧ Fu v) ∧ ((w.alloc (.cells #[.int .i64 k] 3)).alloc (.cells #[.slice none 0 0] 24)).grownBy w1 (some (w.heap.size + 1))) HF.out HRow.out (by omega) HN.out (fun w1 h => HRow.out.grown h.2 (fun e => by have := Option.some.inj e; omega)) _ _ _ rfl).mono ?_
    rintro e w' ⟨rfl, w1, ⟨⟨v, hbox, hown, hfu⟩, hg1⟩, hrow', hg'⟩
    have hbx : Box w' (w.heap.size + 1) v 24 := by
      unfold Box; rw [hg'.block _ hbox.lt (fun e => by have := Option.some.inj e; omega)]; exact hbox
    have HOW : Hid (Own w' w.heap.size v []) := (keep hown hg' (fun i j e1 e2 e => by have := (blk hown i e1).1; have := HZ.out; have e3 := Option.some.inj e2; omega)).mono (by have := HZ.out; omega)
    have c5 := hbx.c0
    have HFU := hide hfu
    have HGR : Hid (w.grownBy w' (some g)) := grown_trans (grown_new (grown_of_below HB.out) hg1 (fun i e => by cases e; omega)) hg'
    have HRW := hide hrow'
    clear hbox hown hg1 hrow' hg' hbx hfu HN
    go_wp2_with fail
    go_ret
    exact ⟨⟨_, rfl, HOW.out, HFU.out⟩, HGR.out, HRW.out⟩
theorem fail_nil (k : Int) (w : World) : Calls Tryz.prog 104 #[.pointer none, .int .i64 k] w fun e w' => e = .returned (.tuple #[]) ∧ w' = w := by
  go_enter Tryz.func104, Tryz.ntmps104
  go_wp2
  refine bodyPost_ret (results_none rfl _ _ _) rfl ?_
  exact ⟨rfl, rfl⟩
theorem fail_none (g : Nat) (v : Value) (p er k : Int) (w : World) (h : Row w g v p er) (hk : er ≠ 0 ∨ k = 0) : Calls Tryz.prog 104 #[.pointer (some ⟨g, 0, none⟩), .int .i64 k] w fun e w' => e = .returned (.tuple #[]) ∧ w' = w := by
  have c2 := h.c2
  clear h
  by_cases he : er = 0
  · subst he
    obtain rfl : k = 0 := by omega
    clear hk
    go_enter Tryz.func104, Tryz.ntmps104
    go_wp2
    refine bodyPost_ret (results_none rfl _ _ _) rfl ?_
    exact ⟨rfl, rfl⟩
  · have hb : (er != 0) = true := by rw [bne_iff_ne]; exact he
    clear hk he
    go_enter Tryz.func104, Tryz.ntmps104
    go_wp2
    refine bodyPost_ret (results_none rfl _ _ _) rfl ?_
    exact ⟨rfl, rfl⟩
theorem rest_nil (w : World) : Calls Tryz.prog 114 #[.pointer none] w fun e w' => e = .returned (.int .i64 0) ∧ w' = w := by
  go_enter Tryz.func114, Tryz.ntmps114
  go_wp2
  go_ret
  exact ⟨rfl, rfl⟩
set_option maxRecDepth 100000 in
theorem end_nil (w : World) : Calls Tryz.prog 85 #[.pointer none] w fun e w' => e = .returned (.agg #[.int .i64 1, .int .i64 0]) ∧ Below w.heap.size w w' := by
  go_enter Tryz.func85, Tryz.ntmps85
  go_wp2
  refine bodyPost_ret (results_cell_row rfl _ _ w.heap.size 139 #[.int .i64 1, .int .i64 0] (0, 0) _ rfl (heap_alloc_new _ _) Tryz.underlying139 rfl (by kernel_rfl)) rfl ?_
  exact ⟨rfl, (Below.refl _ _).alloc (Nat.le_refl _) _⟩
theorem rest_none (g : Nat) (p er : Int) (w : World) (h : Row w g (.slice none 0 0) p er) : Calls Tryz.prog 114 #[.pointer (some ⟨g, 0, none⟩)] w fun e w' => e = .returned (.int .i64 0) ∧ w' = w := by
  have c0 := h.c0
  clear h
  go_enter Tryz.func114, Tryz.ntmps114
  go_wp2
  go_ret
  exact ⟨rfl, rfl⟩
set_option maxRecDepth 100000 in
theorem end_none (g : Nat) (p er : Int) (w : World) (h : Row w g (.slice none 0 0) p er) (hp : er = 0 → p = 0) : Calls Tryz.prog 85 #[.pointer (some ⟨g, 0, none⟩)] w fun e w' => e = .returned (.agg #[.int .i64 er, .int .i64 p]) ∧ Below w.heap.size w w' := by
  have hglt := h.lt
  have hne : g ≠ w.heap.size := by omega
  have c0 := h.c0
  have c1 := h.c1
  have c2 := h.c2
  clear h
  by_cases he : er = 0
  · obtain rfl := hp he
    subst he
    clear hp
    go_enter Tryz.func85, Tryz.ntmps85
    go_wp2
    refine bodyPost_ret (results_cell_row rfl _ _ w.heap.size 139 #[.int .i64 0, .int .i64 0] (0, 0) _ rfl (heap_alloc_new _ _) Tryz.underlying139 rfl (by kernel_rfl)) rfl ?_
    exact ⟨rfl, (Below.refl _ _).alloc (Nat.le_refl _) _⟩
  · have hb : (er != 0) = true := by rw [bne_iff_ne]; exact he
    clear hp he
    go_enter Tryz.func85, Tryz.ntmps85
    go_wp2
    go_region_held (fun V => V.cell? ⟨g, 1, none⟩ = some (.int .i64 p) ∧ V.cell? ⟨g, 2, none⟩ = some (.int .i64 er)) (go_keep) (fail)
    all_goals
      go_wp2
      refine bodyPost_ret (results_cell_row rfl _ _ w.heap.size 139 #[.int .i64 er, .int .i64 p] (0, 0) _ rfl (show (w.alloc (.cells #[.int .i64 er, .int .i64 p] 139)).heap[w.heap.size]? = _ from heap_alloc_new _ _) Tryz.underlying139 rfl (by kernel_rfl)) rfl ?_
      exact ⟨rfl, ((Below.refl _ _).alloc (Nat.le_refl _) _).drew⟩
end Go.Proofs.YthdblnfohbldcaaGreat.Curs
