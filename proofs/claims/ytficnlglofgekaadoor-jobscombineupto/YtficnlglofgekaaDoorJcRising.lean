/-
  The program's rising and Reduce.
-/
import Derived.Test.YtficnlglofgekaaDoorJcShelf
import Derived.Test.YtficnlglofgekaaDoorJcRiseS
import Derived.Test.YtficnlglofgekaaDoorJcComb
namespace Go.Proofs.YtficnlglofgekaaDoor.Jb
open Go.ChangeShapes Go.WideShapes Go.ChangeAt Go.RowKit
open Go.Lib hiding intOf
open Go.Proofs.YtficnlglofgekaaDoor.Base
open Go.Proofs.YtficnlglofgekaaDoor.Pa (OwnS RdS)
set_option linter.unusedVariables false
set_option maxHeartbeats 4000000 in
set_option maxRecDepth 100000 in
theorem rising_any (a : Option Addr) (n c : Nat) (ss : List ByteArray) (w : World) (hr : RdS w a n ss) (hn : n ≤ 8796093022000) (hz : ∀ s ∈ ss, s.size ≤ 1099511627776) (hw : Wd w) :
    Calls Tryd.prog 32 #[.slice a n c] w fun e w' => ∃ v, e = .returned v ∧ OwnS w' w.heap.size v (riseS ss) ∧ Below w.heap.size w w' := by
  have HW := hide hw
  have HM := hide (numbers_any a n c ss w hr hn hz hw)
  have HL1 := numsL_len ss
  have HIN := hide (numsL_in ss)
  rw [hr.1] at HL1
  have HTT : Hid (riseS ss = (riseL (numsL ss)).map dec) := rfl
  rw [HTT.out]
  generalize numsL ss = xs at HM HL1 HTT HIN ⊢
  clear hr hz hw HTT
  by_cases hx : xs = []
  · subst hx
    have HM2 : Hid (Calls Tryd.prog 40 #[.slice a n c] w fun e w' => ∃ aa cc, e = .returned (.slice aa 0 cc) ∧ Below w.heap.size w w') := HM.out.mono (fun e w' ⟨v, h1, h2, h3⟩ => by obtain ⟨aa, cc, rfl⟩ := h2.shape; exact ⟨aa, cc, h1, h3⟩)
    have HSo := hide (fun (p : Option Addr) (cp : Nat) (W : World) => AnyM.slices_Sort_int_none laysSlM5_f42 p cp W)
    have HCo := hide (fun (p : Option Addr) (cp : Nat) (W : World) => AnyG.slices_Compact_int_empty laysSlN43_f43 p cp W)
    clear HM
    go_enter Tryd.func32, Tryd.ntmps32
    go_wp2_with (first
      | (go_at_call 40; refine HM2.out.mono ?_; rintro e w1 ⟨aa, cc, rfl, hb1⟩; have HB1 := hide hb1; clear hb1)
      | (go_at_call 42; refine (HSo.out _ _ _).mono ?_; rintro e w2 ⟨rfl, hq⟩; obtain rfl := hq.symm)
      | (go_at_call 43; refine (HCo.out _ _ _).mono ?_; rintro e w2 ⟨rfl, hq⟩; obtain rfl := hq.symm))
    go_loopw [4, 6, 14] (fun s4 s6 s14 wr => ∃ y : Value, s4 = .slice none 0 0 ∧ y = s6 ∧ s14 = .int .i64 0 ∧ wr = w1) (fun _ _ _ _ => 0)
    case atStart => exact ⟨_, rfl, rfl, rfl, rfl⟩
    case round =>
      obtain ⟨y, rfl, rfl, rfl, rfl⟩ := hrel
      go_wp2_with fail
      go_ret
      exact ⟨_, rfl, Pa.owns_none _ _, HB1.out⟩
  · have HM2 : Hid (Calls Tryd.prog 40 #[.slice a n c] w fun e w' => ∃ g cc, e = .returned (.slice (some ⟨g, 0, none⟩) xs.length cc) ∧ OwnJ w' w.heap.size (.slice (some ⟨g, 0, none⟩) xs.length cc) xs ∧ Below w.heap.size w w') := HM.out.mono (fun e w' ⟨v, h1, h2, h3⟩ => by
      rcases h2.2 with ⟨q1, q2⟩ | ⟨g, cc, _, q1, _⟩
      · exact absurd (List.length_eq_zero_iff.1 q2) hx
      · subst q1; exact ⟨g, cc, h1, h2, h3⟩)
    have HSo := hide (fun (g cc : Nat) (W : World) (h : OwnJ W w.heap.size (.slice (some ⟨g, 0, none⟩) xs.length cc) xs) => sort64_any g xs.length cc w.heap.size xs W h (by omega))
    have hsl : (xs.mergeSort fun x y => decide (x ≤ y)).length = xs.length := by rw [List.length_mergeSort]
    have HCo := hide (fun (g cc : Nat) (W : World) (h : OwnJ W w.heap.size (.slice (some ⟨g, 0, none⟩) xs.length cc) (xs.mergeSort fun x y => decide (x ≤ y))) => compact64_any g xs.length cc w.heap.size (xs.mergeSort fun x y => decide (x ≤ y)) W h (by omega))
    have HRI := hide (riseL_in HIN.out)
    rw [compact_rise] at HCo
    have hrl : (riseL xs).length ≤ 8796093022000 := by
      rw [← compact_rise]
      have h : (Lib.compact (xs.mergeSort fun x y => decide (x ≤ y))).length ≤ (xs.mergeSort fun x y => decide (x ≤ y)).length := by
        unfold Lib.compact Lib.compactUpTo
        rw [List.length_map]
        have := List.length_filter_le (Lib.keeps (xs.mergeSort fun x y => decide (x ≤ y)).toArray) (List.range (xs.mergeSort fun x y => decide (x ≤ y)).length)
        rw [List.length_range] at this
        exact this
      omega
    generalize riseL xs = ys at HCo HRI hrl ⊢
    generalize (xs.mergeSort fun x y => decide (x ≤ y)) = zs at HSo HCo hsl
    obtain ⟨m, hm⟩ : ∃ m, ys.length = m := ⟨_, rfl⟩
    rw [hm] at HCo hrl
    have HN := hide hm
    clear HM hm hsl hx
    go_enter Tryd.func32, Tryd.ntmps32
    go_wp2_with (first
      | (go_at_call 40; refine HM2.out.mono ?_; rintro e w1 ⟨g, cc, rfl, ho1, hb1⟩; have HO1 := hide ho1; have HB1 := hide hb1; clear ho1 hb1)
      | (go_at_call 42; refine (HSo.out g cc w1 HO1.out).mono ?_; rintro e w2 ⟨rfl, ho2, hg2⟩; have HB2 := hide (HB1.out.grown hg2 HB1.out.size (fun k e => by have := Option.some.inj e; have := HO1.out.row.2.1; omega)); have HO2 := hide ho2; clear ho2 hg2)
      | (go_at_call 43; refine (HCo.out g cc w2 HO2.out).mono ?_; rintro e w3 ⟨rfl, ho3, hg3⟩; have HB3 := hide (HB2.out.grown hg3 HB2.out.size (fun k e => by have := Option.some.inj e; have := HO1.out.row.2.1; omega)); have HO3 := hide ho3; clear ho3 hg3))
    have HC := hide HO3.out.cells.2
    have HW3 := hide (HW.out.below HB3.out)
    clear HM2 HSo HCo HO1 HO2 HB1 HB2
    go_loopw [4, 6, 14] (fun s4 s6 s14 wr => ∃ (i : Nat) (x y : Value), i ≤ m ∧ x = s4 ∧ y = s6 ∧ .int .i64 (i : Int) = s14 ∧ Hid (OwnS wr w3.heap.size x ((ys.take i).map dec)) ∧ Hid (Below w3.heap.size w3 wr)) (fun _ _ s14 _ => m - (intOf s14).toNat)
    case atStart => exact ⟨0, _, _, by omega, rfl, rfl, rfl, Pa.owns_none _ _, Below.refl _ _⟩
    case round =>
      obtain ⟨i, x, y, hi, rfl, rfl, rfl, HO, HB⟩ := hrel
      by_cases hin : i < m
      · have hii : (i : Int) < (m : Int) := by omega
        have hi0 : (0 : Int) ≤ (i : Int) := by omega
        have hly : i < ys.length := by rw [HN.out]; exact hin
        obtain ⟨g', e', hgl, hc⟩ := HC.out (by omega)
        cases e'
        have hcell := (HB.out.cell (p := ⟨g, i, none⟩) hgl).trans (hc i hin)
        have HT := hide (takeI ys i hly)
        have HZ := hide (HRI.out _ (getI_mem hly))
        generalize ys.getD i 0 = z at hcell HT HZ
        have HF := hide (fmt_any z HZ.out wr (HW3.out.below HB.out))
        have HE : Hid ((ys.take (i + 1)).map dec = (ys.take i).map dec ++ [dec z]) := by show _ = _; rw [HT.out, List.map_append]; rfl
        have HLN : Hid (((ys.take i).map dec).length ≤ i) := by show _ ≤ _; rw [List.length_map, List.length_take]; omega
        generalize dec z = D at HF HE
        clear hc
        go_wp2_with (first
          | (go_at_call 35; refine HF.out.mono ?_; rintro e w4 ⟨rfl, hb4⟩; have HB4 := hide (below_trans HB.out hb4); have HO4 := hide (HO.out.below hb4); clear hb4; obtain ⟨wa, hwa⟩ : ∃ wa, w4.alloc (.cells #[.string D] 9) = wa := ⟨_, rfl⟩; have HBA : Hid (Below w4.heap.size w4 wa) := (by rw [← hwa]; exact (Below.refl _ _).alloc (Nat.le_refl _) _); have HCA : Hid (wa.cell? ((⟨w4.heap.size, 0, none⟩ : Addr).add 0) = some (.string D)) := (by rw [← hwa]; show _ = _; simp [World.cell?_alloc_mark, Addr.add]))
          | (at_builtin; refine Pa.pushS wa rfl _ _ rfl w3.heap.size x ((ys.take i).map dec) rfl (HO4.out.below HBA.out) ⟨w4.heap.size, 0, none⟩ 1 D rfl HCA.out (by have := HLN.out; omega) (by have := HB4.out.size; have := HBA.out.size; omega) ?_; intro v5 w5 ho5 hg5; have HO5 := hide ho5; have HB5 := hide ((below_trans HB4.out HBA.out).grown hg5 (below_trans HB4.out HBA.out).size (fun k e => (HO.out.blk k e).1)); clear ho5 hg5))
        go_roundw
        case rel => exact ⟨i + 1, _, _, by omega, rfl, rfl, by go_num, by rw [HE.out]; exact HO5.out, HB5.out⟩
        case measure => (simp [intOf] <;> omega)
      · have hii : ¬ (i : Int) < (m : Int) := by omega
        have hie : i = m := by omega
        subst hie
        have HE : Hid (ys.take i = ys) := by show _ = _; rw [List.take_of_length_le (by rw [HN.out]; exact Nat.le_refl _)]
        go_wp2_with fail
        go_ret
        have h := HO.out
        rw [HE.out] at h
        exact ⟨_, rfl, Pa.OwnS.mono h HB3.out.size, HB3.out.trans (HB.out.mono HB3.out.size)⟩
end Go.Proofs.YtficnlglofgekaaDoor.Jb
