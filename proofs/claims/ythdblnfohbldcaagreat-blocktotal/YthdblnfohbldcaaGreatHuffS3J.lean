/-
  alone: the things of a row.
-/
import Derived.Test.YthdblnfohbldcaaGreatHuffE4J
import Derived.Test.YthdblnfohbldcaaGreatHuffQ3J
namespace Go.Proofs.YthdblnfohbldcaaGreat.Pm
open Go.ChangeShapes Go.WideShapes Go.ChangeAt Go.RowKit
open Go.Proofs.YthdblnfohbldcaaGreat.Base
set_option linter.unusedVariables false
def thingOf (cs : List Int) (s : Nat) : Pk := ((cs.getD s 0).toNat, (List.replicate 256 0).set s 1)
def thingsOf (cs : List Int) (os : List Nat) : List Pk := os.map (thingOf cs)
theorem thingOf_wide (cs : List Int) (s : Nat) : (thingOf cs s).2.length = 256 := by unfold thingOf; rw [List.length_set, List.length_replicate]
theorem things_wide (cs : List Int) (os : List Nat) : Wide 256 (thingsOf cs os) := by
  intro p hp
  obtain ⟨s, _, rfl⟩ := List.mem_map.1 hp
  exact thingOf_wide cs s
def thingsTo (cs : List Int) (os : List Nat) (k : Nat) : List Pk := (thingsOf cs os).take k ++ List.replicate (os.length - k) zpack
theorem thingsTo_zero (cs : List Int) (os : List Nat) : thingsTo cs os 0 = List.replicate os.length zpack := by unfold thingsTo; rw [List.take_zero, List.nil_append, Nat.sub_zero]
theorem things_len (cs : List Int) (os : List Nat) : (thingsOf cs os).length = os.length := by simp [thingsOf]
theorem thingsTo_all (cs : List Int) (os : List Nat) : thingsTo cs os os.length = thingsOf cs os := by
  unfold thingsTo; rw [Nat.sub_self, List.replicate_zero, List.append_nil, List.take_of_length_le (by rw [things_len]; exact Nat.le_refl _)]
theorem thingsTo_len (cs : List Int) (os : List Nat) (k : Nat) (hk : k ≤ os.length) : (thingsTo cs os k).length = os.length := by
  unfold thingsTo; rw [List.length_append, List.length_take, List.length_replicate, things_len]; omega
theorem thingsTo_at (cs : List Int) (os : List Nat) (k : Nat) (hk : k < os.length) : (thingsTo cs os k).getD k (0, []) = zpack := by
  unfold thingsTo
  have hl : ((thingsOf cs os).take k).length = k := by rw [List.length_take, things_len]; omega
  rw [List.getD_eq_getElem?_getD, List.getElem?_append_right (by omega), hl, Nat.sub_self, List.getElem?_replicate, if_pos (by omega)]; rfl
theorem thingsTo_set (cs : List Int) (os : List Nat) (k : Nat) (hk : k < os.length) : (thingsTo cs os k).set k (thingOf cs (os.getD k 0)) = thingsTo cs os (k + 1) := by
  have hp := things_len cs os
  have hl : ((thingsOf cs os).take k).length = k := by rw [List.length_take]; omega
  unfold thingsTo
  rw [List.set_append_right _ _ (by omega), hl, Nat.sub_self, show os.length - k = (os.length - (k + 1)) + 1 by omega, List.replicate_succ, List.set_cons_zero,
    List.take_succ_eq_append_getElem (by omega), List.append_assoc]
  have : (thingsOf cs os)[k]'(by omega) = thingOf cs (os.getD k 0) := by
    simp only [thingsOf, List.getElem_map]
    rw [List.getD_eq_getElem?_getD, List.getElem?_eq_getElem hk]; rfl
  rw [this]
  rfl
theorem zpack_w (K : IntKind) (n : Nat) : (pcells K zpack).set 0 (.int .i64 (n : Int)) = pcells K (n, zpack.2) := by
  rw [pcells, List.set_cons_zero, pcells]
theorem zpack_t (K : IntKind) (n s : Nat) : (pcells K (n, zpack.2)).set (1 + s) (.int K ((1 : Nat) : Int)) = pcells K (n, zpack.2.set s 1) := pcells_setT K (n, zpack.2) s 1
set_option maxHeartbeats 2000000 in
set_option maxRecDepth 100000 in
theorem alone_any (a : Option Addr) (len cap : Nat) (cs : List Int) (w : World) (hr : RdI w a len cs) (hn : len ≤ 256) (h0 : a = none → len = 0) (hc : ∀ k, k < cs.length → 0 ≤ cs.getD k 0) :
    Calls Tryz.prog 97 #[.slice a len cap] w fun e w' => ∃ g n os, e = .returned (.slice (some ⟨g, 0, none⟩) n n) ∧ RdP .u8 w' (some ⟨g, 0, none⟩) n (thingsOf cs os) ∧ n ≤ 256 ∧ Ordered cs os ∧ Below w.heap.size w w' := by
  obtain ⟨Z, HZ, HI, hz⟩ := zeroP
  obtain ⟨i0, hi, hz0, hz1, hz2⟩ := info_of HI
  have hzc : (Value.agg Z.toArray).cells = Z.toArray := rfl
  have HR := hide hr
  have HL := hide hr.1
  have HCC := hide hr.2.2
  have HP := hide hc
  have HORD := hide (ordered_any a len cap cs w hr hn h0)
  clear hr hc HI h0
  go_enter Tryz.func97, Tryz.ntmps97
  go_wp2_with fail
  refine HORD.out.mono ?_
  rintro e w1 ⟨a1, n, c1, os, rfl, hrd, hord, hb1⟩
  have HRD := hide hrd
  have HOD := hide hord
  have HB1 := hide hb1
  have hnl : os.length = n := by have := hrd.1; rwa [nvals_len] at this
  have HNL := hide hnl
  have hn2 : n ≤ 256 := by
    have h1 := hord.1.length_eq
    have h2 := symsTo_len cs cs.length
    have := HL.out
    omega
  have HLT : Hid (∀ s ∈ os, s < len) := fun s hs => by
    have := symsTo_lt cs cs.length s (hord.1.mem_iff.1 hs)
    rwa [HL.out] at this
  have HR1 : Hid (RdI w1 a len cs) := HR.out.below hb1
  clear hrd hord hb1 hnl HORD HR HCC
  have hsz := HB1.out.size
  go_wp2_with (at_make; refine wpList_make_full _ rfl _ _ 156 rfl w1.heap.size 161 i0 (.agg Z.toArray) 257 Tryz.underlying156 hi hz0 hz1 .i64 .i64 _ _ n rfl rfl rfl rfl (by rw [hz2]; omega) (by unfold maxLen; omega) (Nat.le_refl _) ?_
               intro w5 hown hgrow)
  rw [hzc] at hown
  have HP0 : Hid (LBlk 161 .u8 w5 w1.heap.size (thingsTo cs os 0)) := by
    show LBlk _ _ _ _ _
    rw [thingsTo_zero, HNL.out]
    exact lblk_made (List.length_replicate ..) HZ.out hown
  have HB5 : Hid (Below w1.heap.size w1 w5) := (Below.refl _ _).grown hgrow (Nat.le_refl _) (fun i e => by cases e)
  obtain ⟨g, hg⟩ : ∃ g, w1.heap.size = g := ⟨_, rfl⟩
  have HG : Hid (w1.heap.size = g) := hg
  rw [hg] at HP0 HB5 ⊢
  clear hown hgrow hg hi hz0 hz1 hz2 hz hzc
  go_loopw [14] (fun i wr => ∃ k : Nat, k ≤ n ∧ i = .int .i64 (k : Int) ∧ Hid (LBlk 161 .u8 wr g (thingsTo cs os k)) ∧ Hid (Below g w1 wr)) (fun i _ => n - (intOf i).toNat)
  case atStart => exact ⟨0, Nat.zero_le _, rfl, HP0, HB5⟩
  case round =>
    clear HP0 HB5
    obtain ⟨k, hk, rfl, HT, HB⟩ := hrel
    by_cases hlt : k < n
    · obtain ⟨b1, o1, rfl, hb1, hc1⟩ := HRD.out.2.2 (by omega)
      have g1 := hc1 k hlt
      have es : (nvals os).getD k 0 = ((os.getD k 0 : Nat) : Int) := by
        have := HNL.out
        rw [List.getD_eq_getElem?_getD, nvals, List.getElem?_map, List.getD_eq_getElem?_getD, List.getElem?_eq_getElem (by omega)]; rfl
      have hm : os.getD k 0 ∈ os := by
        have := HNL.out
        rw [List.getD_eq_getElem?_getD, List.getElem?_eq_getElem (by omega)]; exact List.getElem_mem _
      have hsl := HLT.out _ hm
      have HSET := hide (thingsTo_set cs os k (by have := HNL.out; omega))
      have HAT := hide (thingsTo_at cs os k (by have := HNL.out; omega))
      rw [es] at g1
      generalize os.getD k 0 = s at g1 hsl HSET
      obtain ⟨b2, o2, rfl, hb2, hc2⟩ := HR1.out.2.2 (by omega)
      have g2 := hc2 s hsl
      have hpos := HP.out s (by rw [HL.out]; exact hsl)
      have HTO : Hid (thingOf cs s = ((cs.getD s 0).toNat, zpack.2.set s 1)) := rfl
      obtain ⟨C, hC⟩ : ∃ C : Nat, cs.getD s 0 = (C : Int) := ⟨(cs.getD s 0).toNat, by omega⟩
      rw [hC] at g2 HTO
      rw [Int.toNat_natCast] at HTO
      rw [← HB.out.cell (p := ⟨b1, o1 + k, none⟩) (by show b1 < g; rw [← HG.out]; exact hb1)] at g1
      rw [← HB.out.cell (p := ⟨b2, o2 + s, none⟩) (by show b2 < g; rw [← HG.out]; exact hb2)] at g2
      have HTL := hide (thingsTo_len cs os k (by have := HNL.out; omega))
      have hkt : k < (thingsTo cs os k).length := by rw [HTL.out, HNL.out]; exact hlt
      have S1 := hide (HT.out.set1 k hkt 0 (.int .i64 (C : Int)) (C, zpack.2) (by omega) (by rw [HAT.out]; exact zpack_w .u8 C) (List.length_replicate ..))
      rw [Nat.add_zero] at S1
      have S2 := hide (S1.out.set1 k (by rw [List.length_set]; exact hkt) (1 + s) (.int .u8 ((1 : Nat) : Int)) (C, zpack.2.set s 1) (by omega) (by
        rw [List.getD_eq_getElem?_getD, List.getElem?_set_self hkt]
        exact zpack_t .u8 C s) (by rw [List.length_set]; exact List.length_replicate ..))
      rw [List.set_set, ← HTO.out, HSET.out] at S2
      have t1 := (HT.out.there k hkt) 0 (by omega)
      have t2 := (S1.out.there k (by rw [List.length_set]; exact hkt)) (1 + s) (by omega)
      rw [Nat.add_zero] at t1
      obtain ⟨t1a, t1b⟩ := t1
      obtain ⟨t2a, t2b⟩ := t2
      obtain ⟨y1, hy1⟩ := Option.isSome_iff_exists.1 t1a
      obtain ⟨y2, hy2⟩ := Option.isSome_iff_exists.1 t2a
      rw [← Nat.add_assoc] at t2b hy2 S2
      have hki : (k : Int) < (n : Int) := by omega
      have hsi : (s : Int) < (len : Int) := by omega
      have hs6 : (s : Int) < 256 := by omega
      have HBF : Hid (Below g w1 ((wr.setCell ⟨g, k * 257, none⟩ (.int .i64 (C : Int))).setCell ⟨g, k * 257 + 1 + s, none⟩ (.int .u8 ((1 : Nat) : Int)))) := (HB.out.setCell (Nat.le_refl _) _).setCell (Nat.le_refl _) _
      clear hc1 hc2 es hm hpos hC t1a t2a HSET HAT hkt HT HB
      go_wp2_with fail
      exact ⟨⟨k + 1, by omega, by go_num, S2.out, HBF.out⟩, by simp [intOf]; omega⟩
    · obtain rfl : k = n := by omega
      have hki : ¬ (k : Int) < (k : Int) := by omega
      have HTF : Hid (LBlk 161 .u8 wr g (thingsOf cs os)) := by
        have := HT.out
        rw [← HNL.out, thingsTo_all] at this
        exact this
      have HRF : Hid (RdP .u8 wr (some ⟨g, 0, none⟩) k (thingsOf cs os)) := ⟨by rw [things_len, HNL.out], HTF.out.1, fun _ => ⟨g, 0, rfl, HTF.out.lt, HTF.out.range⟩⟩
      have HBF : Hid (Below w.heap.size w wr) := HB1.out.trans (HB.out.mono (by have := HB1.out.size; have := HG.out; omega))
      go_wp2_with fail
      go_ret
      exact ⟨_, _, rfl, os, HRF.out, hn2, HOD.out, HBF.out⟩
end Go.Proofs.YthdblnfohbldcaaGreat.Pm
