/-
  The statement JobsCombine: its walk.
-/
import Derived.Test.YtficnlglofgekaaDoorJcRed
import Derived.Test.YtficnlglofgekaaDoorJcRRedK
import Derived.Test.YtficnlglofgekaaDoorJcLone
import Derived.Test.YtficnlglofgekaaDoorJcKept
namespace Go.Proofs.YtficnlglofgekaaDoor.Jb
open Go.ChangeShapes Go.WideShapes Go.ChangeAt Go.RowKit
open Go.Lib hiding intOf
open Go.Proofs.YtficnlglofgekaaDoor.Base
open Go.Proofs.YtficnlglofgekaaDoor.Pa (OwnS RdS)
set_option linter.unusedVariables false
theorem combL_len (kind : Int) (ss : List ByteArray) : (combL kind ss).length ≤ ss.length := by
  unfold combL
  split
  · simp
  · rename_i h
    have h1 : ss.length ≠ 0 := fun e => h (.inl (List.length_eq_zero_iff.1 e))
    split
    · simp; omega
    · split
      · rw [List.length_take]; omega
      · omega
theorem combL_size (kind : Int) (ss : List ByteArray) (M : Nat) (hM : 21 ≤ M) (h : ∀ s ∈ ss, s.size ≤ M) : ∀ s ∈ combL kind ss, s.size ≤ M := by
  unfold combL
  split
  · exact fun s hs => absurd hs List.not_mem_nil
  · split
    · intro s hs
      rw [List.mem_singleton] at hs
      subst hs
      exact Nat.le_trans (dec_size _ (sumL_in _)) hM
    · split
      · exact fun s hs => h s (List.mem_of_mem_take hs)
      · exact h
theorem redL_len (kind : Int) (ss : List ByteArray) : (redL kind ss).length ≤ ss.length := by
  unfold redL
  split
  · show ((riseL (numsL ss)).map dec).length ≤ _
    rw [List.length_map]
    exact Nat.le_trans (riseL_len _) (numsL_len ss)
  · exact combL_len kind ss
theorem redL_size (kind : Int) (ss : List ByteArray) (M : Nat) (hM : 21 ≤ M) (h : ∀ s ∈ ss, s.size ≤ M) : ∀ s ∈ redL kind ss, s.size ≤ M := by
  unfold redL
  split
  · intro s hs
    obtain ⟨v, hv, rfl⟩ := List.mem_map.1 (show s ∈ (riseL (numsL ss)).map dec from hs)
    exact Nat.le_trans (dec_size _ (riseL_in (numsL_in ss) v hv)) hM
  · exact combL_size kind ss M hM h
/-- The list that is turned over in its own place, behind i rounds. -/
structure RevI (w wr : World) (g n cg i : Nat) (qs : List ByteArray) : Prop where
  own : OwnS wr w.heap.size (.slice (some ⟨g, 0, none⟩) (n + 2) cg) (qs ++ [mSpare, mRoom])
  len : qs.length = n
  size : ∀ s ∈ qs, s.size ≤ 1048576 + i
  below : Below w.heap.size w wr
theorem rev_cell {w wr : World} {g n cg i j : Nat} {qs : List ByteArray} (h : RevI w wr g n cg i qs) (hj : j < n) : ∃ A : ByteArray, wr.cell? ⟨g, j, none⟩ = some (.string A) ∧ A.size ≤ 1048576 + i := by
  refine ⟨(qs ++ [mSpare, mRoom]).getD j ⟨#[]⟩, h.own.cell j (by omega), ?_⟩
  have hl := h.len
  rw [List.getD_eq_getElem?_getD, List.getElem?_append_left (by omega), List.getElem?_eq_getElem (by omega)]
  exact h.size _ (List.getElem_mem _)
theorem rev_step {w wr : World} {g n cg i : Nat} {qs : List ByteArray} (h : RevI w wr g n cg i qs) (hi : i < n) (C : ByteArray) (hC : C.size ≤ 1048576 + (i + 1)) : RevI w (wr.setCell ⟨g, i, none⟩ (.string C)) g n cg (i + 1) (qs.set i C) := by
  have hs := h.own.store i C
  have hl := h.len
  refine ⟨?_, by rw [List.length_set]; exact h.len, ?_, h.below.grown hs.2 h.below.size (fun k e => by have e2 : g = k := Option.some.inj e; subst e2; exact (h.own.blk g rfl).1)⟩
  · have h1 := hs.1
    rwa [List.set_append_left _ _ (by omega)] at h1
  · intro s hs2
    rcases List.mem_or_eq_of_mem_set hs2 with h1 | h1
    · have := h.size s h1; omega
    · rw [h1]; exact hC
theorem rev_rds {w wr : World} {g n cg i : Nat} {qs : List ByteArray} (h : RevI w wr g n cg i qs) (hn : n ≤ 1048580) (hi : i ≤ n) : RdS wr (some ⟨g, 0, none⟩) n qs ∧ ∀ s ∈ qs, s.size ≤ 1099511627776 := by
  have hl := h.len
  have hz : ∀ s ∈ qs, s.size ≤ 1099511627776 := fun s hs => by have := h.size s hs; omega
  refine ⟨?_, hz⟩
  have h1 := h.own.rds (by rw [List.length_append]; simp; omega) (fun s hs => by
    rcases List.mem_append.1 hs with h2 | h2
    · have := hz s h2; omega
    · rcases List.mem_cons.1 h2 with rfl | h2
      · decide
      · rcases List.mem_cons.1 h2 with rfl | h2
        · decide
        · cases h2)
  have h2 := h1.cut n (by omega)
  rwa [List.take_append_of_le_length (by omega), List.take_of_length_le (by omega)] at h2
set_option maxHeartbeats 4000000 in
set_option maxRecDepth 100000 in
theorem jcwalk (kind : Int) (a : Option Addr) (n c : Nat) (ss : List ByteArray) (w : World) (hr : RdS w a n ss) (hnil : a = none → n = 0 ∧ c = 0) (hn : n ≤ 1048580) (hz : ∀ s ∈ ss, s.size ≤ 1048576) (hw : Wd w) :
    Calls Tryd.prog 4 #[.int .i64 kind, .slice a n c] w fun e w' => e = .returned (.bool true) ∧ Below w.heap.size w w' := by
  have HR := hide hr
  have HW := hide hw
  have HN := hide hr.1
  have HNI := hide hnil
  have HZ2 := hide (fun s hs => Nat.le_trans (hz s hs) (by decide : 1048576 ≤ 1099511627776))
  have HSP := hide (spare_any a n c ss w hr hnil (by omega))
  clear hr hw hnil
  go_enter Tryd.func4, Tryd.ntmps4
  go_upto_region 2 with (go_at_call 12; refine HSP.out.mono ?_; rintro e w1 ⟨v, rfl, ho, hb⟩; have HO1 := hide ho; have HB1 := hide hb; have HW1 := hide (HW.out.below hb); have HR1 := hide (HR.out.below hb); clear ho hb)
  have hgs : ∃ g cg, v = .slice (some ⟨g, 0, none⟩) (n + 2) cg := by
    rcases HO1.out.2 with ⟨_, q2⟩ | ⟨g, cg, _, q1, _⟩
    · rw [List.length_append] at q2; simp at q2
    · rw [List.length_append, HN.out] at q1; exact ⟨g, cg, q1⟩
  obtain ⟨g, cg, rfl⟩ := hgs
  have hcg := HO1.out.cap
  have hng : n ≤ cg := by omega
  have HRG : Hid (RdS w1 (some ⟨g, 0, none⟩) n ss) := by
    have h := HO1.out.rds (by rw [List.length_append, HN.out]; simp; omega) (fun s hs => by
      rcases List.mem_append.1 hs with h | h
      · exact HR.out.2.2.1 s h
      · rcases List.mem_cons.1 h with rfl | h
        · decide
        · rcases List.mem_cons.1 h with rfl | h
          · decide
          · cases h)
    have h2 := h.cut n (by omega)
    rw [List.take_append_of_le_length (by rw [HN.out]; omega), List.take_of_length_le (by rw [HN.out]; omega)] at h2
    exact h2
  have HCM := hide (fun W hR hW => combine_any kind (some ⟨g, 0, none⟩) n cg ss W hR hng (by omega) HZ2.out hW)
  have HRM := hide (fun W hR hW => reduce_any kind (some ⟨g, 0, none⟩) n cg ss W hR hng (by omega) HZ2.out hW)
  have HCR := hide (fun W hR => rcombine_any kind a n c ss W hR HNI.out (by omega) HZ2.out)
  have HRR := hide (fun W hR => rreduce_any kind a n c ss W hR HNI.out (by omega) HZ2.out)
  clear hcg
  go_upto_region 4 with (go_at_call 13; refine (HCM.out _ HRG.out HW1.out).mono ?_; rintro e w2 ⟨xa, rfl, ho, hb⟩; have HOA := hide ho; have HB2 := hide hb; have HW2 := hide (HW1.out.below hb); have HRG2 := hide (HRG.out.below hb); clear ho hb)
  go_upto_region 5 with (go_at_call 13; refine (HCM.out _ HRG2.out HW2.out).mono ?_; rintro e w3 ⟨xb, rfl, ho, hb⟩; have HOB := hide ho; have HB3 := hide hb; have HW3 := hide (HW2.out.below hb); have HRG3 := hide (HRG2.out.below hb); clear ho hb)
  go_upto_region 6 with (go_at_call 14; refine (HRM.out _ HRG3.out HW3.out).mono ?_; rintro e w4 ⟨xc, rfl, ho, hb⟩; have HOC := hide ho; have HB4 := hide hb; have HW4 := hide (HW3.out.below hb); have HRG4 := hide (HRG3.out.below hb); clear ho hb)
  go_upto_region 7 with (go_at_call 14; refine (HRM.out _ HRG4.out HW4.out).mono ?_; rintro e w5 ⟨xd, rfl, ho, hb⟩; have HOD := hide ho; have HB5 := hide hb; have HW5 := hide (HW4.out.below hb); have HRG5 := hide (HRG4.out.below hb); clear ho hb)
  have hL1 := Nat.le_trans (combL_len kind ss) (Nat.le_of_eq HN.out)
  have hL2 := Nat.le_trans (redL_len kind ss) (Nat.le_of_eq HN.out)
  have HS1 := hide (combL_size kind ss 9223372036854775807 (by decide) (fun s hs => Nat.le_trans (HZ2.out s hs) (by decide)))
  have HS2 := hide (redL_size kind ss 9223372036854775807 (by decide) (fun s hs => Nat.le_trans (HZ2.out s hs) (by decide)))
  have HTC : Hid (combL kind ss = combL kind ss) := rfl
  generalize combL kind ss = L1 at HOA HOB HCR hL1 HS1
  generalize redL kind ss = L2 at HOC HOD HRR hL2 HS2
  obtain ⟨aa, ca, rfl⟩ := HOA.out.shape
  obtain ⟨ab, cb, rfl⟩ := HOB.out.shape
  obtain ⟨ac, cc, rfl⟩ := HOC.out.shape
  obtain ⟨ad, cd, rfl⟩ := HOD.out.shape
  obtain ⟨l1, hl1⟩ : ∃ l, L1.length = l := ⟨_, rfl⟩
  obtain ⟨l2, hl2⟩ : ∃ l, L2.length = l := ⟨_, rfl⟩
  rw [hl1] at HOA HOB hL1 ⊢
  rw [hl2] at HOC HOD hL2 ⊢
  have HA5 := hide (((HOA.out.below HB3.out).below HB4.out).below HB5.out)
  have HBB5 := hide ((HOB.out.below HB4.out).below HB5.out)
  have HC5 := hide (HOC.out.below HB5.out)
  have HG5 := hide ((((HO1.out.below HB2.out).below HB3.out).below HB4.out).below HB5.out)
  have HR5 := hide ((((HR1.out.below HB2.out).below HB3.out).below HB4.out).below HB5.out)
  have HX5 := hide (below_trans (below_trans (below_trans (below_trans HB1.out HB2.out) HB3.out) HB4.out) HB5.out)
  have hz1 := HB1.out.size
  have hz2 := HB2.out.size
  have hz3 := HB3.out.size
  have hz4 := HB4.out.size
  have hz5 := HB5.out.size
  have HgB := hide (HO1.out.blk g rfl)
  have HaB := hide (fun i (e : (Value.slice aa l1 ca).ownBlock = some i) => HOA.out.blk i e)
  have HbB := hide (fun i (e : (Value.slice ab l1 cb).ownBlock = some i) => HOB.out.blk i e)
  have HcB := hide (fun i (e : (Value.slice ac l2 cc).ownBlock = some i) => HOC.out.blk i e)
  have HdB := hide (fun i (e : (Value.slice ad l2 cd).ownBlock = some i) => HOD.out.blk i e)
  clear HTC HSP
  go_wp2_with (first
    | (go_at_call 16; refine (HCR.out _ HR5.out).mono ?_; rintro e w6 ⟨xe, rfl, ho, hb⟩; have HOE := hide ho; have HB6 := hide hb; clear ho hb; have HeB := hide (fun i (e : xe.ownBlock = some i) => HOE.out.blk i e); obtain ⟨ae, ce, rfl⟩ := HOE.out.shape; rw [hl1] at HOE HeB ⊢)
    | (go_at_call 15; have HOF2 := HOF; refine (lone_any ac ad af l2 cc cd cf w3.heap.size w4.heap.size w7.heap.size L2 w8 HC8.out HD8.out HOF.out (by omega) (by omega) HS2.out (fun i e => ⟨fun e2 => by have := (HcB.out i e).2; have := (HdB.out i e2).1; omega, fun e2 => by have := (HcB.out i e).2; have := (HfB.out i e2).1; omega⟩)).mono ?_; rintro e w9 ⟨rfl, hg⟩; clear HOF2; have HG9 := hide hg; clear hg; have HX9 := hide (HX8.out.grown HG9.out HX8.out.size (fun k e => by have := (HcB.out k e).1; omega)); have HR9 := hide (HR.out.below HX9.out); have HGG9 := hide (Pa.keepS HG8.out HG9.out (fun i j e1 e2 => by have := HgB.out.2; have := (HcB.out j e2).1; have e3 : g = i := Option.some.inj e1; omega)))
    | (go_at_call 15; refine (lone_any aa ab ae l1 ca cb ce w1.heap.size w2.heap.size w5.heap.size L1 w6 (HA5.out.below HB6.out) (HBB5.out.below HB6.out) HOE.out (by have := HB6.out.size; omega) (by omega) HS1.out (fun i e => ⟨fun e2 => by have := (HaB.out i e).2; have := (HbB.out i e2).1; omega, fun e2 => by have := (HaB.out i e).2; have := (HeB.out i e2).1; omega⟩)).mono ?_; rintro e w7 ⟨rfl, hg⟩; have HG7 := hide hg; clear hg; have HX7 := hide ((below_trans HX5.out HB6.out).grown HG7.out (below_trans HX5.out HB6.out).size (fun k e => by have := (HaB.out k e).1; omega)); have HR7 := hide (HR.out.below HX7.out))
    | (go_at_call 17; refine (HRR.out _ HR7.out).mono ?_; rintro e w8 ⟨xf, rfl, ho, hb⟩; have HOF := hide ho; have HB8 := hide hb; clear ho hb; have HfB := hide (fun i (e : xf.ownBlock = some i) => HOF.out.blk i e); obtain ⟨af, cf, rfl⟩ := HOF.out.shape; rw [hl2] at HOF HfB ⊢; have hz7 := HG7.out.size; have hz6 := HB6.out.size; have hz8 := HB8.out.size; have HC8 := hide ((Pa.keepS (HC5.out.below HB6.out) HG7.out (fun i j e1 e2 => by have := (HcB.out i e1).1; have := (HaB.out j e2).2; omega)).below HB8.out); have HD8 := hide ((Pa.keepS (HOD.out.below HB6.out) HG7.out (fun i j e1 e2 => by have := (HdB.out i e1).1; have := (HaB.out j e2).2; omega)).below HB8.out); have HG8 := hide ((Pa.keepS (HG5.out.below HB6.out) HG7.out (fun i j e1 e2 => by have := HgB.out.2; have := (HaB.out j e2).1; have e3 : g = i := Option.some.inj e1; omega)).below HB8.out); have HX8 := hide (below_trans HX7.out HB8.out))
    | (go_at_call 18; refine (kept_any g cg w.heap.size a n c ss w9 HGG9.out HR9.out hn).mono ?_; rintro e w10 ⟨rfl, hb⟩; have HX10 := hide (below_trans HX9.out hb); have HG10 := hide (HGG9.out.below hb); have HW10 := hide (HW.out.below HX10.out); clear hb))
  have HI0 : Hid (RevI w w10 g n cg 0 ss) := ⟨HG10.out, HN.out.symm ▸ rfl, (fun s hs => hz s hs), HX10.out⟩
  clear HA5 HBB5 HC5 HG5 HR5 HX5 hz1 hz2 hz3 hz4 hz5 HgB HaB HbB HcB HdB HCM HRM HCR HRR HS1 HS2 hL1 hL2 HR1 HRG HRG2 HRG3 HRG4 HRG5 HO1 HB1 HB2 HB3 HB4 HB5
  go_loopw [12] (fun s12 wr => ∃ (i : Nat) (qs : List ByteArray), i ≤ n ∧ .int .i64 (i : Int) = s12 ∧ Hid (RevI w wr g n cg i qs)) (fun s12 _ => n - (intOf s12).toNat)
  case atStart => exact ⟨0, ss, by omega, rfl, HI0.out⟩
  case round =>
    obtain ⟨i, qs, hi, rfl, HI⟩ := hrel
    by_cases hin : i < n
    · have hii : (i : Int) < (n : Int) := by omega
      have hi0 : (0 : Int) ≤ (i : Int) := by omega
      obtain ⟨A, hcA, hAs⟩ := rev_cell HI.out (show n - 1 - i < n by omega)
      obtain ⟨C, hC⟩ : ∃ C, A ++ ⟨#[49]⟩ = C := ⟨_, rfl⟩
      have hCs : C.size ≤ 1048576 + (i + 1) := by rw [← hC, ByteArray.size_append]; show A.size + 1 ≤ _; omega
      have HCS := hide hCs
      obtain ⟨B, hcB, -⟩ := rev_cell HI.out hin
      have hcf := HI.out.own.frozen i
      have HST := hide (rev_step HI.out hin C hCs)
      clear hCs
      go_wp2_with fail
      all_goals first | (exfalso; omega) | skip
      go_roundw
      case rel => exact ⟨i + 1, _, by omega, by go_num, HST.out⟩
      case measure => (simp [intOf] <;> omega)
    · obtain rfl : n = i := by omega
      have hRZ := rev_rds HI.out hn (Nat.le_refl _)
      have HRq := hide hRZ.1
      have HZq := hide hRZ.2
      clear hRZ
      have HLq := hide HI.out.len
      have HBq := hide HI.out.below
      have HWq := hide (HW.out.below HBq.out)
      go_upto_region 15 with (at_builtin; refine Pa.joinS _ rfl _ _ rfl w.heap.size (.slice none 0 0) [] rfl (Pa.owns_none _ _) (some ⟨g, 0, none⟩) n cg qs rfl HRq.out (fun e => by cases e) (by simp; omega) HBq.out.size ?_; intro vn wn hon hgn; rw [List.nil_append] at hon; have HON := hide hon; have HBN := hide ((Below.refl wr.heap.size wr).grown hgn (Nat.le_refl _) (fun k e => by cases e)); clear hon hgn)
      have HRn := hide (HRq.out.below HBN.out)
      have HWn := hide (HWq.out.below HBN.out)
      have HCM2 := hide (fun W hR hW => combine_any kind (some ⟨g, 0, none⟩) n cg qs W hR hng (by omega) HZq.out hW)
      have HRM2 := hide (fun W hR hW => reduce_any kind (some ⟨g, 0, none⟩) n cg qs W hR hng (by omega) HZq.out hW)
      go_upto_region 16 with (go_at_call 13; refine (HCM2.out _ HRn.out HWn.out).mono ?_; rintro e wa ⟨xa2, rfl, ho, hb⟩; have HXA := hide ho; have HBa := hide hb; have HRa := hide (HRn.out.below hb); have HWa := hide (HWn.out.below hb); clear ho hb)
      go_upto_region 17 with (go_at_call 14; refine (HRM2.out _ HRa.out HWa.out).mono ?_; rintro e wb ⟨xb2, rfl, ho, hb⟩; have HXB := hide ho; have HBb := hide hb; clear ho hb)
      obtain ⟨an, cn, rfl⟩ := HON.out.shape
      rw [HLq.out] at HON ⊢
      have HNn := hide (HON.out.nil')
      have HONb := hide ((HON.out.below HBa.out).below HBb.out)
      have HRnb : Hid (RdS wb an n qs) := HONb.out.rds (by rw [HLq.out]; omega) (fun s hs => Nat.le_trans (HZq.out s hs) (by decide))
      have HCR2 := hide (fun W hR => rcombine_any kind an n cn qs W hR (fun e => HNn.out e) (by omega) HZq.out)
      have HRR2 := hide (fun W hR => rreduce_any kind an n cn qs W hR (fun e => HNn.out e) (by omega) HZq.out)
      have hL3 := Nat.le_trans (combL_len kind qs) (Nat.le_of_eq HLq.out)
      have hL4 := Nat.le_trans (redL_len kind qs) (Nat.le_of_eq HLq.out)
      have HS3 := hide (combL_size kind qs 9223372036854775807 (by decide) (fun s hs => Nat.le_trans (HZq.out s hs) (by decide)))
      have HS4 := hide (redL_size kind qs 9223372036854775807 (by decide) (fun s hs => Nat.le_trans (HZq.out s hs) (by decide)))
      generalize combL kind qs = L3 at HXA HCR2 hL3 HS3
      generalize redL kind qs = L4 at HXB HRR2 hL4 HS4
      obtain ⟨ax, cx, rfl⟩ := HXA.out.shape
      obtain ⟨ay, cy, rfl⟩ := HXB.out.shape
      obtain ⟨l3, hl3⟩ : ∃ l, L3.length = l := ⟨_, rfl⟩
      obtain ⟨l4, hl4⟩ : ∃ l, L4.length = l := ⟨_, rfl⟩
      rw [hl3] at HXA hL3 ⊢
      rw [hl4] at HXB hL4 ⊢
      have HXAb := hide (HXA.out.below HBb.out)
      have HBZ := hide (below_trans (below_trans (below_trans HBq.out HBN.out) HBa.out) HBb.out)
      clear HCM2 HRM2 HON HRn HWn HRa HWa HRq HWq HI HLq HXA
      go_wp2_with (first
        | (go_at_call 17; refine (HRR2.out _ HRnd.out).mono ?_; rintro e we ⟨xe2, rfl, ho, hb⟩; have HXD := hide ho; have HBe := hide hb; clear ho hb; obtain ⟨aw, cw, rfl⟩ := HXD.out.shape; rw [hl4] at HXD ⊢)
        | (go_at_call 19; have HXD2 := HXD; refine (sameTexts_eq ay aw l4 cy l4 cw L4 we (((HXBd.out.below HBe.out).rds (by omega) HS4.out)) (HXD.out.rds (by omega) HS4.out)).mono ?_; rintro e wf ⟨rfl, hb⟩; clear HXD2; have HBf := hide (below_trans (below_trans HBd.out HBe.out) hb); clear hb)
        | (go_at_call 19; refine (sameTexts_eq ax az l3 cx l3 cz L3 wc ((HXAb.out.below HBc.out).rds (by omega) HS3.out) (HXC.out.rds (by omega) HS3.out)).mono ?_; rintro e wd ⟨rfl, hb⟩; have HBd := hide (below_trans (below_trans HBZ.out HBc.out) hb); have HXBd := hide ((HXB.out.below HBc.out).below hb); have HRnd := hide ((HRnb.out.below HBc.out).below hb); clear hb)
        | (go_at_call 16; refine (HCR2.out _ HRnb.out).mono ?_; rintro e wc ⟨xc2, rfl, ho, hb⟩; have HXC := hide ho; have HBc := hide hb; clear ho hb; obtain ⟨az, cz, rfl⟩ := HXC.out.shape; rw [hl3] at HXC ⊢))
      go_ret
      exact ⟨rfl, HBf.out⟩
end Go.Proofs.YtficnlglofgekaaDoor.Jb
