/-
  The program's cursor: Text.
-/
import Derived.Test.YtcchknpgkcmneaaNumsCur2
import Derived.Laws.IdiomStrings
namespace Go.Proofs.Ytcchknpgkcmneaa.Curs
open Go.ChangeShapes Go.WideShapes Go.ChangeAt Go.RowKit
open Go.Proofs.Ytcchknpgkcmneaa.Base Go.Proofs.Ytcchknpgkcmneaa.Nums
set_option linter.unusedVariables false
/-- Bytes as a text. -/
def str (bs : List (BitVec 8)) : ByteArray := ⟨(bs.map UInt8.ofBitVec).toArray⟩
/-- A text at the head: how many bytes are taken, the error, the text's bytes. -/
def textAt (L : List (BitVec 8)) (most : Int) : Nat × Nat × List (BitVec 8) :=
  if (atMost L most).2.2 ≠ 0 then (0, (atMost L most).2.2, []) else if L.length - (atMost L most).2.1 < (atMost L most).1 then (0, 20, []) else ((atMost L most).2.1 + (atMost L most).1, 0, (L.drop (atMost L most).2.1).take (atMost L most).1)
theorem conv_str {w : World} {x : Addr} {n c : Nat} {bs : List (BitVec 8)} (hr : Rd w (some x) n bs) : (convert 22 9 (.slice (some x) n c)).run Try.prog w = .ok (.string (str bs)) w := by
  have h := run_convert_bytes_back (P := Try.prog) w 22 9 5 x c (bs.map UInt8.ofBitVec) Try.underlying22 Try.underlying5 Try.underlying9 (fun j hj => by
    have hj' : j < bs.length := by simpa using hj
    have h1 := hr.cellsAt x rfl j _ (getD_vals bs j hj')
    rw [h1, List.getD_eq_getElem?_getD, List.getElem?_eq_getElem hj']
    simp)
  rw [List.length_map, hr.1] at h
  exact h
theorem add_at {x : Addr} (h : x.spot = none) (n : Nat) : x.add n = ⟨x.block, x.off + n, none⟩ := by
  obtain ⟨b, off, sp⟩ := x
  simp only at h
  subst h
  unfold Addr.add
  split
  · rename_i h; have h0 : n = 0 := by simpa using h
    subst h0; rfl
  · rfl
theorem rd_part {w : World} {x : Addr} {n gn gv : Nat} {L : List (BitVec 8)} (h : Rd w (some x) n L) (hs : x.spot = none) (hsum : gn + gv ≤ n) : Rd w (some (x.add gn)) gv ((L.drop gn).take gv) := by
  rw [add_at hs]
  obtain ⟨b, off, sp⟩ := x
  simp only at hs
  subst hs
  exact (h.from gn (by omega)).cut gv (by omega)
theorem atMost_ok (L : List (BitVec 8)) (most : Int) (h : (atMost L most).2.2 = 0) : (atMost L most).1 ≤ 9223372036854775807 ∧ (atMost L most).2.1 ≤ L.length := by
  refine ⟨?_, atMost_len L most⟩
  unfold atMost
  split
  · simp
  · split
    · simp
    · exact get_fst L
theorem textAt_len (L : List (BitVec 8)) (most : Int) : (textAt L most).1 ≤ L.length := by
  have := atMost_len L most
  unfold textAt
  split
  · simp
  · split
    · simp
    · show _ + _ ≤ _; omega
set_option maxHeartbeats 1000000 in
set_option maxRecDepth 100000 in
theorem text1_any (x : Addr) (n c p3 p5 : Nat) (L : List (BitVec 8)) (k : Int) (w : World) (hr : Rd w (some x) n L) (hs : x.spot = none) (hn : n ≤ c) (hc : c ≤ 9223372036854775807) (h3 : Box w p3 (.int .i64 k) 3) (h5 : Box w p5 (.string ⟨#[]⟩) 9) (h35 : p3 ≠ p5) :
    Calls Try.prog 97 #[.slice (some x) n c, .pointer (some ⟨p3, 0, none⟩), .pointer (some ⟨p5, 0, none⟩)] w fun e w' => e = .returned (.tuple #[.int .i64 ((textAt L k).1 : Nat), .int .i64 ((textAt L k).2.1 : Nat)]) ∧
      Box w' p5 (.string (str (textAt L k).2.2)) 9 ∧ w.grownBy w' (some p5) := by
  have c3 := h3.c0
  have R := hide hr
  have HL := hide hr.1
  have H5 := hide h5
  have HA := hide (atMost_ok L k)
  have hnm := hr.2.1
  clear hr h3 h5
  have HD : Hid (textAt L k = if (atMost L k).2.2 ≠ 0 then (0, (atMost L k).2.2, []) else if L.length - (atMost L k).2.1 < (atMost L k).1 then (0, 20, []) else ((atMost L k).2.1 + (atMost L k).1, 0, (L.drop (atMost L k).2.1).take (atMost L k).1)) := rfl
  go_enter Try.func97, Try.ntmps97
  go_wp2_with fail
  refine (atMost_any _ _ _ _ _ _ R.out hn hc).mono ?_
  rintro e w1 ⟨rfl, hb⟩
  have H51 := hide (H5.out.below hb)
  have c5 := H51.out.c0
  have f5 := H51.out.fr
  have HR1 := hide (R.out.below hb)
  have HB := hide hb
  clear hb c3
  generalize atMost L k = G at HD HA
  obtain ⟨gv, gn, ge⟩ := G
  simp only at HD HA ⊢
  have hstr : str [] = ⟨#[]⟩ := rfl
  by_cases he : ge = 0
  · subst he
    obtain ⟨hv, hgn⟩ := HA.out rfl
    have hgn' : gn ≤ n := by have := HL.out; omega
    by_cases hl : n - gn < gv
    · have HE : Hid (textAt L k = (0, 20, [])) := by
        have := HD.out; rw [if_neg (by simp), if_pos (by rw [HL.out]; exact hl)] at this; exact this
      have hli : (n : Int) - (gn : Int) < (gv : Int) := by omega
      clear HD HA
      go_wp2_with fail
      go_ret2
      rw [HE.out]
      exact ⟨rfl, H51.out, grown_of_below HB.out⟩
    · have HE : Hid (textAt L k = (gn + gv, 0, (L.drop gn).take gv)) := by
        have := HD.out; rw [if_neg (by simp), if_neg (by rw [HL.out]; exact hl)] at this; exact this
      have hli : ¬ (n : Int) - (gn : Int) < (gv : Int) := by omega
      have hsum : gn + gv ≤ n := by omega
      clear HD HA
      by_cases hcg : c = gn
      · have hv0 : gv = 0 := by omega
        subst hv0
        subst hcg
        have hconv : ∀ c', (convert 22 9 (.slice (some x) 0 c')).run Try.prog w1 = .ok (.string ⟨#[]⟩) w1 := fun c' => conv_str (bs := []) (rd_zero _ _)
        go_wp2_with fail
        go_ret2
        rw [HE.out]
        exact ⟨rfl, by rw [List.take_zero]; exact H51.out.put, grown_cell (grown_of_below HB.out) 0 _⟩
      · have hconv := conv_str (c := c - gn) (rd_part HR1.out hs hsum)
        generalize hS : str ((L.drop gn).take gv) = S at hconv
        have HS := hide hS
        clear hS
        go_wp2_with fail
        go_ret2
        rw [HE.out]
        exact ⟨rfl, by rw [HS.out]; exact H51.out.put, grown_cell (grown_of_below HB.out) 0 _⟩
  · have HE : Hid (textAt L k = (0, ge, [])) := by
      have := HD.out; rw [if_pos he] at this; exact this
    have hb : ((ge : Int) != 0) = true := by rw [bne_iff_ne]; omega
    clear HD HA
    go_wp2_with fail
    go_ret2
    rw [HE.out]
    exact ⟨rfl, H51.out, grown_of_below HB.out⟩
set_option maxHeartbeats 1000000 in
set_option maxRecDepth 100000 in
theorem text_any (g p : Nat) (L : List (BitVec 8)) (most : Int) (w : World) (h : Cur w g L p) :
    Calls Try.prog 54 #[.pointer (some ⟨g, 0, none⟩), .int .i64 most] w fun e w' => e = .returned (.string (str (textAt L most).2.2)) ∧ w.grownBy w' (some g) ∧
      (if (textAt L most).2.1 = 0 then Cur w' g (L.drop (textAt L most).1) (p + (textAt L most).1) else Dead w' g p (textAt L most).2.1) := by
  obtain ⟨a, c, hrow, hrd, hlc, hc, hs, hab, halt, hp⟩ := h
  have hglt := hrow.lt
  have HB : Hid (Below w.heap.size w ((w.alloc (.cells #[.int .i64 most] 3)).alloc (.cells #[.string ⟨#[]⟩] 9))) := ((Below.refl _ _).alloc (Nat.le_refl _) _).alloc (by simp) _
  have H3 : Hid (Box ((w.alloc (.cells #[.int .i64 most] 3)).alloc (.cells #[.string ⟨#[]⟩] 9)) w.heap.size (.int .i64 most) 3) := by
    have h : Box (w.alloc (.cells #[.int .i64 most] 3)) w.heap.size (.int .i64 most) 3 := heap_alloc_new _ _
    exact h.below ((Below.refl _ _).alloc (Nat.le_refl _) _)
  have H5 : Hid (Box ((w.alloc (.cells #[.int .i64 most] 3)).alloc (.cells #[.string ⟨#[]⟩] 9)) (w.heap.size + 1) (.string ⟨#[]⟩) 9) := by
    have h : Box ((w.alloc (.cells #[.int .i64 most] 3)).alloc (.cells #[.string ⟨#[]⟩] 9)) (w.alloc (.cells #[.int .i64 most] 3)).heap.size (.string ⟨#[]⟩) 9 := heap_alloc_new _ _
    rw [show (w.alloc (.cells #[.int .i64 most] 3)).heap.size = w.heap.size + 1 by simp] at h
    exact h
  have HRow := hide (hrow.grown (below_grown HB.out) (by simp))
  have HRd := hide hrd
  have HN := hide (text1_any a L.length c w.heap.size (w.heap.size + 1) L most _ (hrd.below HB.out) hs hlc hc H3.out H5.out (by omega))
  have hal := textAt_len L most
  clear hrow hrd H3
  have HF := hide (fun args w => enter_of Try.func97 (by kernel_rfl) (c := _) rfl args w)
  generalize hG : textAt L most = G at HN hal
  have HG := hide hG
  clear hG
  obtain ⟨gn, ge, gv⟩ := G
  simp only at HN hal
  by_cases he : ge = 0
  · subst he
    go_enter Try.func54, Try.ntmps54
    go_wp2_with fail
    refine (read_take _ g L.length c gn a _ _ (p : Int) _ (fun w1 => Box w1 (w.heap.size + 1) (.string (str gv)) 9 ∧ ((w.alloc (.cells #[.int .i64 most] 3)).alloc (.cells #[.string ⟨#[]⟩] 9)).grownBy w1 (some (w.heap.size + 1))) HF.out HRow.out hal hlc hc ⟨by omega, hp⟩ hs HN.out (fun w1 h => HRow.out.grown h.2 (fun e => by have := Option.some.inj e; omega))).mono ?_
    rintro e w' ⟨rfl, w1, a', ⟨hbox, hg1⟩, hrow', hg', hs', hb', hm'⟩
    have hmv := moved HB.out hg1 (by omega) hg' HRd.out hs hab halt hal hlc hc hp hrow' hs' hb' hm'
    have hbx : Box w' (w.heap.size + 1) (.string (str gv)) 9 := by
      unfold Box; rw [hg'.block _ hbox.lt (fun e => by have := Option.some.inj e; omega)]; exact hbox
    have c5 := hbx.c0
    have HMV := hide hmv
    clear hbox hg1 hrow' hg' hs' hb' hm' hmv hbx
    go_wp2_with fail
    go_ret
    exact ⟨rfl, HMV.out.2, by first | exact HMV.out.1 | (simp only [if_true]; exact HMV.out.1)⟩
  · go_enter Try.func54, Try.ntmps54
    go_wp2_with fail
    refine (read_fails _ g _ (gn : Int) (ge : Int) _ _ (p : Int) _ (fun w1 => Box w1 (w.heap.size + 1) (.string (str gv)) 9 ∧ ((w.alloc (.cells #[.int .i64 most] 3)).alloc (.cells #[.string ⟨#[]⟩] 9)).grownBy w1 (some (w.heap.size + 1))) HF.out HRow.out (by omega) HN.out (fun w1 h => HRow.out.grown h.2 (fun e => by have := Option.some.inj e; omega)) _ _ _ rfl).mono ?_
    rintro e w' ⟨rfl, w1, ⟨hbox, hg1⟩, hrow', hg'⟩
    have hbx : Box w' (w.heap.size + 1) (.string (str gv)) 9 := by
      unfold Box; rw [hg'.block _ hbox.lt (fun e => by have := Option.some.inj e; omega)]; exact hbox
    have c5 := hbx.c0
    have HGR : Hid (w.grownBy w' (some g)) := grown_trans (grown_new (grown_of_below HB.out) hg1 (fun i e => by cases e; omega)) hg'
    have HRW := hide hrow'
    clear hbox hg1 hrow' hg' hbx
    go_wp2_with fail
    go_ret
    exact ⟨rfl, HGR.out, by first | exact ⟨HRW.out, he⟩ | (simp only [if_neg he]; exact ⟨HRW.out, he⟩)⟩
end Go.Proofs.Ytcchknpgkcmneaa.Curs
