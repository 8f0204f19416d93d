/-
  The program's cursor: its readings, with a bound on where its bytes lie.
-/
import Derived.Test.YthdblnfohbldcaaGreatNcZ
namespace Go.Proofs.YthdblnfohbldcaaGreat.Curs
open Go.ChangeShapes Go.WideShapes Go.ChangeAt Go.RowKit
open Go.Proofs.YthdblnfohbldcaaGreat.Base Go.Proofs.YthdblnfohbldcaaGreat.Nums
set_option linter.unusedVariables false
/-- The cursor in block g, its bytes in a block below D. -/
def CurD (w : World) (g D : Nat) (L : List (BitVec 8)) (p : Nat) : Prop :=
  ∃ a c, Row w g (.slice (some a) L.length c) (p : Int) 0 ∧ Rd w (some a) L.length L ∧ L.length ≤ c ∧ c ≤ 9223372036854775807 ∧ a.spot = none ∧ a.block ≠ g ∧ a.block < D ∧ D ≤ w.heap.size ∧ (p : Int) + (L.length : Int) ≤ 9223372036854775807
theorem CurD.cur {w : World} {g D p : Nat} {L : List (BitVec 8)} (h : CurD w g D L p) : Cur w g L p := by
  obtain ⟨a, c, h1, h2, h3, h4, h5, h6, h7, h8, h9⟩ := h
  exact ⟨a, c, h1, h2, h3, h4, h5, h6, by omega, h9⟩
theorem movedD {w W2 w1 w' : World} {g p5 p t c D : Nat} {a a' : Addr} {L : List (BitVec 8)} (hb : Below w.heap.size w W2) (h1 : W2.grownBy w1 (some p5)) (h5 : w.heap.size ≤ p5) (h2 : w1.grownBy w' (some g)) (hrd : Rd w (some a) L.length L) (hs : a.spot = none) (hag : a.block ≠ g) (halt : a.block < w.heap.size) (hD1 : a.block < D) (hD2 : D ≤ w.heap.size)
    (ht : t ≤ L.length) (hlc : L.length ≤ c) (hc : c ≤ 9223372036854775807) (hp : (p : Int) + (L.length : Int) ≤ 9223372036854775807)
    (hrow : Row w' g (.slice (some a') (L.length - t) (c - t)) ((p : Int) + (t : Int)) 0) (hs' : a'.spot = none) (hb' : a'.block = a.block) (hm : t < L.length → a' = ⟨a.block, a.off + t, none⟩) : CurD w' g D (L.drop t) (p + t) ∧ w.grownBy w' (some g) := by
  have g1 : w.grownBy w1 (some g) := grown_new (grown_of_below hb) h1 (fun i e => by cases e; exact h5)
  refine ⟨⟨a', c - t, ?_, ?_, by rw [List.length_drop]; omega, by omega, hs', by rw [hb']; exact hag, by rw [hb']; exact hD1, Nat.le_trans hD2 (Nat.le_trans g1.size h2.size), ?_⟩, grown_trans g1 h2⟩
  · rw [List.length_drop, Int.natCast_add]; exact hrow
  · have r1 : Rd w' (some a) L.length L := (hrd.below hb).grown h1 (fun ad e e2 => by cases e; have := Option.some.inj e2; omega) |>.grown h2 (fun ad e e2 => by cases e; exact hag (Option.some.inj e2).symm)
    rw [List.length_drop]
    exact rd_move r1 hs ht hm
  · rw [List.length_drop]; omega

set_option maxHeartbeats 1000000 in
set_option maxRecDepth 100000 in
theorem num_d (g D p : Nat) (L : List (BitVec 8)) (most : Int) (w : World) (h : CurD w g D L p) :
    Calls Tryz.prog 102 #[.pointer (some ⟨g, 0, none⟩), .int .i64 most] w fun e w' => e = .returned (.int .i64 ((atMost L most).1 : Nat)) ∧ w.grownBy w' (some g) ∧
      (if (atMost L most).2.2 = 0 then CurD w' g D (L.drop (atMost L most).2.1) (p + (atMost L most).2.1) else Dead w' g p (atMost L most).2.2) := by
  obtain ⟨a, c, hrow, hrd, hlc, hc, hs, hab, hD1, hD2, hp⟩ := h
  have halt : a.block < w.heap.size := by omega
  have hglt := hrow.lt
  have HB : Hid (Below w.heap.size w ((w.alloc (.cells #[.int .i64 most] 2)).alloc (.cells #[.int .i64 0] 2))) := ((Below.refl _ _).alloc (Nat.le_refl _) _).alloc (by simp) _
  have H3 : Hid (Box ((w.alloc (.cells #[.int .i64 most] 2)).alloc (.cells #[.int .i64 0] 2)) w.heap.size (.int .i64 most) 2) := by
    have h : Box (w.alloc (.cells #[.int .i64 most] 2)) w.heap.size (.int .i64 most) 2 := heap_alloc_new _ _
    exact h.below ((Below.refl _ _).alloc (Nat.le_refl _) _)
  have H5 : Hid (Box ((w.alloc (.cells #[.int .i64 most] 2)).alloc (.cells #[.int .i64 0] 2)) (w.heap.size + 1) (.int .i64 0) 2) := by
    have h : Box ((w.alloc (.cells #[.int .i64 most] 2)).alloc (.cells #[.int .i64 0] 2)) (w.alloc (.cells #[.int .i64 most] 2)).heap.size (.int .i64 0) 2 := heap_alloc_new _ _
    rw [show (w.alloc (.cells #[.int .i64 most] 2)).heap.size = w.heap.size + 1 by simp] at h
    exact h
  have HRow := hide (hrow.grown (below_grown HB.out) (by simp))
  have HRd := hide hrd
  have HN := hide (num1_any (some a) L.length c w.heap.size (w.heap.size + 1) L most _ (hrd.below HB.out) hlc hc H3.out H5.out)
  have hal := atMost_len L most
  clear hrow hrd H3
  have HF := hide (fun args w => enter_of Tryz.func140 (by kernel_rfl) (c := _) rfl args w)
  generalize hG : atMost L most = G at HN hal
  have HG := hide hG
  clear hG
  obtain ⟨gv, gn, ge⟩ := G
  simp only at HN hal
  by_cases he : ge = 0
  · subst he
    go_enter Tryz.func102, Tryz.ntmps102
    go_wp2_with fail
    refine (read_take _ g L.length c gn a _ _ (p : Int) _ (fun w1 => Box w1 (w.heap.size + 1) (.int .i64 (gv : Int)) 2 ∧ ((w.alloc (.cells #[.int .i64 most] 2)).alloc (.cells #[.int .i64 0] 2)).grownBy w1 (some (w.heap.size + 1))) HF.out HRow.out hal hlc hc ⟨by omega, hp⟩ hs HN.out (fun w1 h => HRow.out.grown h.2 (fun e => by have := Option.some.inj e; omega))).mono ?_
    rintro e w' ⟨rfl, w1, a', ⟨hbox, hg1⟩, hrow', hg', hs', hb', hm'⟩
    have hmv := movedD HB.out hg1 (by omega) hg' HRd.out hs hab halt hD1 hD2 hal hlc hc hp hrow' hs' hb' hm'
    have hbx : Box w' (w.heap.size + 1) (.int .i64 (gv : Int)) 2 := by
      unfold Box; rw [hg'.block _ hbox.lt (fun e => by have := Option.some.inj e; omega)]; exact hbox
    have c5 := hbx.c0
    have HMV := hide hmv
    clear hbox hg1 hrow' hg' hs' hb' hm' hmv hbx
    go_wp2_with fail
    go_ret
    exact ⟨rfl, HMV.out.2, by first | exact HMV.out.1 | (simp only [if_true]; exact HMV.out.1)⟩
  · go_enter Tryz.func102, Tryz.ntmps102
    go_wp2_with fail
    refine (read_fails _ g _ (gn : Int) (ge : Int) _ _ (p : Int) _ (fun w1 => Box w1 (w.heap.size + 1) (.int .i64 (gv : Int)) 2 ∧ ((w.alloc (.cells #[.int .i64 most] 2)).alloc (.cells #[.int .i64 0] 2)).grownBy w1 (some (w.heap.size + 1))) HF.out HRow.out (by omega) HN.out (fun w1 h => HRow.out.grown h.2 (fun e => by have := Option.some.inj e; omega)) _ _ _ rfl).mono ?_
    rintro e w' ⟨rfl, w1, ⟨hbox, hg1⟩, hrow', hg'⟩
    have hbx : Box w' (w.heap.size + 1) (.int .i64 (gv : Int)) 2 := by
      unfold Box; rw [hg'.block _ hbox.lt (fun e => by have := Option.some.inj e; omega)]; exact hbox
    have c5 := hbx.c0
    have HGR : Hid (w.grownBy w' (some g)) := grown_trans (grown_new (grown_of_below HB.out) hg1 (fun i e => by cases e; omega)) hg'
    have HRW := hide hrow'
    clear hbox hg1 hrow' hg' hbx
    go_wp2_with fail
    go_ret
    exact ⟨rfl, HGR.out, by first | exact ⟨HRW.out, he⟩ | (simp only [if_neg he]; exact ⟨HRW.out, he⟩)⟩

set_option maxHeartbeats 1000000 in
set_option maxRecDepth 100000 in
theorem fixed_d (g D p : Nat) (L : List (BitVec 8)) (most : Int) (w : World) (h : CurD w g D L p) :
    Calls Tryz.prog 84 #[.pointer (some ⟨g, 0, none⟩), .int .i64 most] w fun e w' => e = .returned (.int .u64 ((fixAt L most).1 : Nat)) ∧ w.grownBy w' (some g) ∧
      (if (fixAt L most).2.2 = 0 then CurD w' g D (L.drop (fixAt L most).2.1) (p + (fixAt L most).2.1) else Dead w' g p (fixAt L most).2.2) := by
  obtain ⟨a, c, hrow, hrd, hlc, hc, hs, hab, hD1, hD2, hp⟩ := h
  have halt : a.block < w.heap.size := by omega
  have hglt := hrow.lt
  have HB : Hid (Below w.heap.size w ((w.alloc (.cells #[.int .i64 most] 3)).alloc (.cells #[.int .u64 0] 39))) := ((Below.refl _ _).alloc (Nat.le_refl _) _).alloc (by simp) _
  have H3 : Hid (Box ((w.alloc (.cells #[.int .i64 most] 3)).alloc (.cells #[.int .u64 0] 39)) w.heap.size (.int .i64 most) 3) := by
    have h : Box (w.alloc (.cells #[.int .i64 most] 3)) w.heap.size (.int .i64 most) 3 := heap_alloc_new _ _
    exact h.below ((Below.refl _ _).alloc (Nat.le_refl _) _)
  have H5 : Hid (Box ((w.alloc (.cells #[.int .i64 most] 3)).alloc (.cells #[.int .u64 0] 39)) (w.heap.size + 1) (.int .u64 0) 39) := by
    have h : Box ((w.alloc (.cells #[.int .i64 most] 3)).alloc (.cells #[.int .u64 0] 39)) (w.alloc (.cells #[.int .i64 most] 3)).heap.size (.int .u64 0) 39 := heap_alloc_new _ _
    rw [show (w.alloc (.cells #[.int .i64 most] 3)).heap.size = w.heap.size + 1 by simp] at h
    exact h
  have HRow := hide (hrow.grown (below_grown HB.out) (by simp))
  have HRd := hide hrd
  have HN := hide (fixed1_any (some a) L.length c w.heap.size (w.heap.size + 1) L most _ (hrd.below HB.out) hlc hc H3.out H5.out (by omega))
  have hal := fixAt_len L most
  clear hrow hrd H3
  have HF := hide (fun args w => enter_of Tryz.func130 (by kernel_rfl) (c := _) rfl args w)
  generalize hG : fixAt L most = G at HN hal
  have HG := hide hG
  clear hG
  obtain ⟨gv, gn, ge⟩ := G
  simp only at HN hal
  by_cases he : ge = 0
  · subst he
    go_enter Tryz.func84, Tryz.ntmps84
    go_wp2_with fail
    refine (read_take _ g L.length c gn a _ _ (p : Int) _ (fun w1 => Box w1 (w.heap.size + 1) (.int .u64 (gv : Int)) 39 ∧ ((w.alloc (.cells #[.int .i64 most] 3)).alloc (.cells #[.int .u64 0] 39)).grownBy w1 (some (w.heap.size + 1))) HF.out HRow.out hal hlc hc ⟨by omega, hp⟩ hs HN.out (fun w1 h => HRow.out.grown h.2 (fun e => by have := Option.some.inj e; omega))).mono ?_
    rintro e w' ⟨rfl, w1, a', ⟨hbox, hg1⟩, hrow', hg', hs', hb', hm'⟩
    have hmv := movedD HB.out hg1 (by omega) hg' HRd.out hs hab halt hD1 hD2 hal hlc hc hp hrow' hs' hb' hm'
    have hbx : Box w' (w.heap.size + 1) (.int .u64 (gv : Int)) 39 := by
      unfold Box; rw [hg'.block _ hbox.lt (fun e => by have := Option.some.inj e; omega)]; exact hbox
    have c5 := hbx.c0
    have HMV := hide hmv
    clear hbox hg1 hrow' hg' hs' hb' hm' hmv hbx
    go_wp2_with fail
    go_ret
    exact ⟨rfl, HMV.out.2, by first | exact HMV.out.1 | (simp only [if_true]; exact HMV.out.1)⟩
  · go_enter Tryz.func84, Tryz.ntmps84
    go_wp2_with fail
    refine (read_fails _ g _ (gn : Int) (ge : Int) _ _ (p : Int) _ (fun w1 => Box w1 (w.heap.size + 1) (.int .u64 (gv : Int)) 39 ∧ ((w.alloc (.cells #[.int .i64 most] 3)).alloc (.cells #[.int .u64 0] 39)).grownBy w1 (some (w.heap.size + 1))) HF.out HRow.out (by omega) HN.out (fun w1 h => HRow.out.grown h.2 (fun e => by have := Option.some.inj e; omega)) _ _ _ rfl).mono ?_
    rintro e w' ⟨rfl, w1, ⟨hbox, hg1⟩, hrow', hg'⟩
    have hbx : Box w' (w.heap.size + 1) (.int .u64 (gv : Int)) 39 := by
      unfold Box; rw [hg'.block _ hbox.lt (fun e => by have := Option.some.inj e; omega)]; exact hbox
    have c5 := hbx.c0
    have HGR : Hid (w.grownBy w' (some g)) := grown_trans (grown_new (grown_of_below HB.out) hg1 (fun i e => by cases e; omega)) hg'
    have HRW := hide hrow'
    clear hbox hg1 hrow' hg' hbx
    go_wp2_with fail
    go_ret
    exact ⟨rfl, HGR.out, by first | exact ⟨HRW.out, he⟩ | (simp only [if_neg he]; exact ⟨HRW.out, he⟩)⟩

set_option maxHeartbeats 1000000 in
set_option maxRecDepth 100000 in
theorem take_d (g D p : Nat) (L : List (BitVec 8)) (k : Int) (w : World) (h : CurD w g D L p) :
    Calls Tryz.prog 103 #[.pointer (some ⟨g, 0, none⟩), .int .i64 k] w fun e w' => (∃ v, e = .returned v ∧ Own w' w.heap.size v (L.take (takeAt L k).1) ∧ Fu v) ∧ w.grownBy w' (some g) ∧
      (if (takeAt L k).2 = 0 then CurD w' g D (L.drop (takeAt L k).1) (p + (takeAt L k).1) else Dead w' g p (takeAt L k).2) := by
  obtain ⟨a, c, hrow, hrd, hlc, hc, hs, hab, hD1, hD2, hp⟩ := h
  have halt : a.block < w.heap.size := by omega
  have hglt := hrow.lt
  have HB : Hid (Below w.heap.size w ((w.alloc (.cells #[.int .i64 k] 3)).alloc (.cells #[.slice none 0 0] 24))) := ((Below.refl _ _).alloc (Nat.le_refl _) _).alloc (by simp) _
  have H3 : Hid (Box ((w.alloc (.cells #[.int .i64 k] 3)).alloc (.cells #[.slice none 0 0] 24)) w.heap.size (.int .i64 k) 3) := by
    have h : Box (w.alloc (.cells #[.int .i64 k] 3)) w.heap.size (.int .i64 k) 3 := heap_alloc_new _ _
    exact h.below ((Below.refl _ _).alloc (Nat.le_refl _) _)
  have H5 : Hid (Box ((w.alloc (.cells #[.int .i64 k] 3)).alloc (.cells #[.slice none 0 0] 24)) (w.heap.size + 1) (.slice none 0 0) 24) := by
    have h : Box ((w.alloc (.cells #[.int .i64 k] 3)).alloc (.cells #[.slice none 0 0] 24)) (w.alloc (.cells #[.int .i64 k] 3)).heap.size (.slice none 0 0) 24 := heap_alloc_new _ _
    rw [show (w.alloc (.cells #[.int .i64 k] 3)).heap.size = w.heap.size + 1 by simp] at h
    exact h
  have HZ : Hid (((w.alloc (.cells #[.int .i64 k] 3)).alloc (.cells #[.slice none 0 0] 24)).heap.size = w.heap.size + 2) := by show _ = _; simp
  have HRow := hide (hrow.grown (below_grown HB.out) (by simp))
  have HRd := hide hrd
  have hrl := hrd.2.1
  have HN := hide (take1_full (some a) L.length c w.heap.size (w.heap.size + 1) L k _ (hrd.below HB.out) hlc hrl H3.out H5.out (by omega) (fun ad e => by cases e; omega))
  have hal := takeAt_len L k
  clear hrow hrd H3
  have HF := hide (fun args w => enter_of Tryz.func142 (by kernel_rfl) (c := _) rfl args w)
  generalize hG : takeAt L k = G at HN hal
  clear hG
  obtain ⟨gn, ge⟩ := G
  simp only at HN hal
  by_cases he : ge = 0
  · subst he
    go_enter Tryz.func103, Tryz.ntmps103
    go_wp2_with fail
    refine (read_take _ g L.length c gn a _ _ (p : Int) _ (fun w1 => (∃ v, Box w1 (w.heap.size + 1) v 24 ∧ Own w1 ((w.alloc (.cells #[.int .i64 k] 3)).alloc (.cells #[.slice none 0 0] 24)).heap.size v (L.take gn) ∧ Fu v) ∧ ((w.alloc (.cells #[.int .i64 k] 3)).alloc (.cells #[.slice none 0 0] 24)).grownBy w1 (some (w.heap.size + 1))) HF.out HRow.out hal hlc hc ⟨by omega, hp⟩ hs HN.out (fun w1 h => HRow.out.grown h.2 (fun e => by have := Option.some.inj e; omega))).mono ?_
    rintro e w' ⟨rfl, w1, a', ⟨⟨v, hbox, hown, hfu⟩, hg1⟩, hrow', hg', hs', hb', hm'⟩
    have hmv := movedD HB.out hg1 (by omega) hg' HRd.out hs hab halt hD1 hD2 hal hlc hc hp hrow' hs' hb' hm'
    have hbx : Box w' (w.heap.size + 1) v 24 := by
      unfold Box; rw [hg'.block _ hbox.lt (fun e => by have := Option.some.inj e; omega)]; exact hbox
    have HOW : Hid (Own w' w.heap.size v (L.take gn)) := (keep hown hg' (fun i j e1 e2 e => by have := (blk hown i e1).1; have := HZ.out; have e3 := Option.some.inj e2; omega)).mono (by have := HZ.out; omega)
    have HFU := hide hfu
    clear hfu
    have c5 := hbx.c0
    have HMV := hide hmv
    clear hbox hown hg1 hrow' hg' hs' hb' hm' hmv hbx
    go_wp2_with fail
    go_ret
    exact ⟨⟨_, rfl, HOW.out, HFU.out⟩, HMV.out.2, by first | exact HMV.out.1 | (simp only [if_true]; exact HMV.out.1)⟩
  · go_enter Tryz.func103, Tryz.ntmps103
    go_wp2_with fail
    refine (read_fails _ g _ (gn : Int) (ge : Int) _ _ (p : Int) _ (fun w1 => (∃ v, Box w1 (w.heap.size + 1) v 24 ∧ Own w1 ((w.alloc (.cells #[.int .i64 k] 3)).alloc (.cells #[.slice none 0 0] 24)).heap.size v (L.take gn) ∧ Fu v) ∧ ((w.alloc (.cells #[.int .i64 k] 3)).alloc (.cells #[.slice none 0 0] 24)).grownBy w1 (some (w.heap.size + 1))) HF.out HRow.out (by omega) HN.out (fun w1 h => HRow.out.grown h.2 (fun e => by have := Option.some.inj e; omega)) _ _ _ rfl).mono ?_
    rintro e w' ⟨rfl, w1, ⟨⟨v, hbox, hown, hfu⟩, hg1⟩, hrow', hg'⟩
    have hbx : Box w' (w.heap.size + 1) v 24 := by
      unfold Box; rw [hg'.block _ hbox.lt (fun e => by have := Option.some.inj e; omega)]; exact hbox
    have HOW : Hid (Own w' w.heap.size v (L.take gn)) := (keep hown hg' (fun i j e1 e2 e => by have := (blk hown i e1).1; have := HZ.out; have e3 := Option.some.inj e2; omega)).mono (by have := HZ.out; omega)
    have HFU := hide hfu
    clear hfu
    have c5 := hbx.c0
    have HGR : Hid (w.grownBy w' (some g)) := grown_trans (grown_new (grown_of_below HB.out) hg1 (fun i e => by cases e; omega)) hg'
    have HRW := hide hrow'
    clear hbox hown hg1 hrow' hg' hbx
    go_wp2_with fail
    go_ret
    exact ⟨⟨_, rfl, HOW.out, HFU.out⟩, HGR.out, by first | exact ⟨HRW.out, he⟩ | (simp only [if_neg he]; exact ⟨HRW.out, he⟩)⟩


end Go.Proofs.YthdblnfohbldcaaGreat.Curs
