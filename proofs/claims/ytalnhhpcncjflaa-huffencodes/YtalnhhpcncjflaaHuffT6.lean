/-
  The document's Lengths, at any counts and any limit.
-/
import Derived.Test.YtalnhhpcncjflaaHuffTZ
import Derived.Test.YtalnhhpcncjflaaHuffT5
import Derived.Test.YtalnhhpcncjflaaHuffSZ
import Derived.Test.YtalnhhpcncjflaaHuffC2
namespace Go.Proofs.Ytalnhhpcncjflaa.Pm
open Go.ChangeShapes Go.WideShapes Go.ChangeAt Go.RowKit
open Go.Proofs.Ytalnhhpcncjflaa.Base
set_option linter.unusedVariables false
theorem row_small (ts : List Pk) : ∀ j, (row ts j).length ≤ 2 * ts.length
  | 0 => by simp only [row]; omega
  | j + 1 => by
    simp only [row]
    rw [merged_len, paired_len]
    have := row_small ts j
    omega
theorem row_single (ts : List Pk) (h : ts.length < 2) : ∀ j, row ts j = ts
  | 0 => rfl
  | j + 1 => by
    simp only [row]
    rw [row_single ts h j]
    have : paired ts = [] := List.length_eq_zero_iff.1 (by rw [paired_len]; omega)
    rw [this, merged_nil]
/-- What is taken is the head of the last row. -/
theorem taken_row (ts : List Pk) (lim m : Nat) (h0 : 0 < ts.length) (h1 : 1 ≤ lim) (hf : ts.length ≤ 2 ^ lim) (hm : m = if ts.length < 2 then 1 else 2 * ts.length - 2) : takenOf ts lim = (row ts (lim - 1)).take m ∧ m ≤ (row ts (lim - 1)).length := by
  by_cases h : ts.length < 2
  · rw [if_pos h] at hm
    subst hm
    unfold takenOf
    rw [if_pos h, row_single ts h, List.take_of_length_le (by omega)]
    exact ⟨rfl, h0⟩
  · rw [if_neg h] at hm
    subst hm
    unfold takenOf
    rw [if_neg h]
    exact ⟨rfl, row_enough ts (by omega) (lim - 1) (by rw [show lim - 1 + 1 = lim by omega]; exact hf)⟩
set_option maxHeartbeats 1000000 in
theorem refLengths_bad (a : Option Addr) (len cap : Nat) (cs : List Int) (lim : Int) (w : World) (hr : RdI w a len cs) (h : 256 < cs.length ∨ lim < 1 ∨ 15 < lim ∨ Huff.allIn 1099511627776 cs = false) :
    Calls Try.prog 16 #[.slice a len cap, .int .i64 lim] w fun e w' => ∃ v, e = .returned (.tuple #[v, .int .i64 (lengthsd cs lim).2]) ∧ OwnI w' w.heap.size v (lengthsd cs lim).1 ∧ Below w.heap.size w w' := by
  have HL := hide hr.1
  have HA := hide (Huff.allCounts_any a len cap cs w hr)
  clear hr
  by_cases h1 : 256 < len
  · rw [lengthsd_long (by rw [HL.out]; exact h1)]
    have h1i : (256 : Int) < (len : Int) := by omega
    go_enter Try.func16, Try.ntmps16
    go_wp2_with fail
    go_ret2
    exact ⟨_, rfl, ownI_none _ _, Below.refl _ _⟩
  · have h1i : ¬ (256 : Int) < (len : Int) := by omega
    have h2 : lim < 1 ∨ 15 < lim ∨ Huff.allIn 1099511627776 cs = false := by
      rcases h with h | h
      · have := HL.out; omega
      · exact h
    rw [lengthsd_arg (by rw [HL.out]; exact h1) h2]
    clear h
    by_cases h3 : lim < 1
    · go_enter Try.func16, Try.ntmps16
      go_wp2_with fail
      go_ret2
      exact ⟨_, rfl, ownI_none _ _, Below.refl _ _⟩
    · by_cases h4 : 15 < lim
      · go_enter Try.func16, Try.ntmps16
        go_wp2_with fail
        go_ret2
        exact ⟨_, rfl, ownI_none _ _, Below.refl _ _⟩
      · have h5 : Huff.allIn 1099511627776 cs = false := by
          rcases h2 with h | h | h
          · exact absurd h h3
          · exact absurd h h4
          · exact h
        rw [h5] at HA
        clear h5 h2
        go_enter Try.func16, Try.ntmps16
        go_wp2_with (go_at_call 33; refine HA.out.mono ?_; rintro e w1 ⟨rfl, hb1⟩)
        go_ret2
        exact ⟨_, rfl, ownI_none _ _, hb1⟩
set_option maxHeartbeats 2000000 in
set_option maxRecDepth 100000 in
theorem refLengths_ok (a : Option Addr) (len cap : Nat) (cs : List Int) (lim : Nat) (w : World) (hr : RdI w a len cs) (h1 : len ≤ 256) (h2 : 1 ≤ lim) (h3 : lim ≤ 15) (h4 : Huff.allIn 1099511627776 cs = true) :
    Calls Try.prog 16 #[.slice a len cap, .int .i64 (lim : Int)] w fun e w' => ∃ v, e = .returned (.tuple #[v, .int .i64 (lengthsd cs (lim : Int)).2]) ∧ OwnI w' w.heap.size v (lengthsd cs (lim : Int)).1 ∧ Below w.heap.size w w' := by
  have HL := hide hr.1
  have HA := hide (Huff.allCounts_any a len cap cs w hr)
  rw [h4] at HA
  have HAL := hide (fun W h => refThings_any a len cap cs W h h1 h4)
  have HR0 := hide hr
  have HAT := hide h4
  have HUN : Hid (ordFrom cs len 0 = orderOf cs) := by
    have := ordFrom_order cs (fun s => by
      by_cases h : s < cs.length
      · exact (Huff.allIn_get h4 s h).1
      · rw [List.getD_eq_getElem?_getD, List.getElem?_eq_none (by omega)]; exact Int.le_refl _)
    rw [hr.1] at this
    exact ordered_unique this (orderOf_ok cs)
  rw [HUN.out] at HAL
  clear h4 hr
  have h1i : ¬ (256 : Int) < (len : Int) := by omega
  have h1j : (len : Int) ≤ 256 := by omega
  have h2i : ¬ (lim : Int) < 1 := by omega
  have h3i : ¬ 15 < (lim : Int) := by omega
  have HLI := hide (lengthsd_limit (cs := cs) (lim := lim) (by rw [HL.out]; omega) h2 h3 HAT.out)
  have HLO := hide (lengthsd_ok (cs := cs) (lim := lim) (by rw [HL.out]; omega) h2 h3 HAT.out)
  have HMK := hide (fun W => make_row_int len (len : Int) rfl (by omega) W)
  generalize lengthsd cs (lim : Int) = LD at HLI HLO
  go_enter Try.func16, Try.ntmps16
  go_wp2_with (go_at_call 33; refine HA.out.mono ?_; rintro e w0 ⟨rfl, hb0⟩)
  refine (HAL.out _ (HR0.out.below hb0)).mono ?_
  rintro e w1 ⟨v1, rfl, ho1, hb1⟩
  have HB : Hid (Below w.heap.size w w1) := below_trans hb0 hb1
  have HO1 := hide (ho1.mono hb0.size)
  have HN : Hid ((thingsOf cs (orderOf cs)).length = (orderOf cs).length) := things_len cs _
  obtain ⟨n, hn⟩ : ∃ n, (orderOf cs).length = n := ⟨_, rfl⟩
  have hn6 : n ≤ 256 := by rw [← hn]; exact Nat.le_trans (ordered_len (orderOf_ok cs)) (by rw [HL.out]; exact h1)
  rw [hn] at HN HLI HLO
  obtain ⟨a1, n1, c1, hv1, hn1, hnc1, hcm1, hrd1⟩ := ho1.rd
  rw [HN.out] at hn1
  subst hn1
  subst hv1
  have HRD := hide hrd1
  have hcm2 : c1 ≤ 9223372036854775807 := hcm1
  clear ho1 hb1 hb0 hrd1 hcm1 HAL HA
  have hP : 2 ^ lim ≤ 2 ^ 15 := Nat.pow_le_pow_right (by decide) h3
  obtain ⟨P, hPe⟩ : ∃ P : Nat, 2 ^ lim = P := ⟨_, rfl⟩
  have hPi : (2 : Int) ^ lim = (P : Int) := by rw [← hPe]; simp
  have HPE := hide hPe
  rw [hPe] at hP HLI HLO
  have hw64 : wrap64 ((2 : Int) ^ lim) = (P : Int) := by rw [hPi]; unfold wrap64; omega
  clear hPi hPe
  by_cases hlt : P < n1
  · have hlti : (P : Int) < (n1 : Int) := by omega
    have HLE := hide (HLI.out hlt)
    go_wp2_with fail
    go_ret2
    exact ⟨_, by rw [HLE.out]; rfl, by rw [HLE.out]; exact ownI_none _ _, HB.out⟩
  have hlti : ¬ (P : Int) < (n1 : Int) := by omega
  have HLE := hide (HLO.out hlt)
  have HR2 : Hid (RowI 3 (w1.alloc (.cells (ivals (List.replicate len 0)).toArray 3)) w1.heap.size (List.replicate len 0)) := rowi_new _ _ _
  have HB2 : Hid (Below w.heap.size w (w1.alloc (.cells (ivals (List.replicate len 0)).toArray 3))) := HB.out.alloc HB.out.size _
  have HBA : Hid (Below w1.heap.size w1 (w1.alloc (.cells (ivals (List.replicate len 0)).toArray 3))) := (Below.refl _ _).alloc (Nat.le_refl _) _
  have HOB : Hid (∀ i, (Value.slice a1 n1 c1).ownBlock = some i → i < w1.heap.size) := fun i e => (HO1.out.2.lt i e).2
  have hs1 := HB.out.size
  have hsA : (w1.alloc (.cells (ivals (List.replicate len 0)).toArray 3)).heap.size = w1.heap.size + 1 := by simp
  obtain ⟨gl, hgl⟩ : ∃ gl, w1.heap.size = gl := ⟨_, rfl⟩
  have HRD2 := hide (HRD.out.below HBA.out)
  have HO2 := hide (HO1.out.below HBA.out)
  rw [hgl] at HR2 HOB hsA
  have HGL : Hid (w.heap.size ≤ gl) := by show _ ≤ _; omega
  have hmk := HMK.out w1
  obtain ⟨w2, hw2⟩ : ∃ w2, w1.alloc (.cells (ivals (List.replicate len 0)).toArray 3) = w2 := ⟨_, rfl⟩
  rw [hw2] at HR2 HB2 HRD2 HO2 hsA
  rw [hgl, hw2] at hmk
  clear HMK hgl hw2 hs1 HB HRD HLI HLO hlt HO1 HBA
  by_cases hn0 : n1 = 0
  · subst hn0
    have HZ : Hid (lensBy cs lim = List.replicate len 0) := by
      show _ = _
      have e : takenBy cs lim = [] := by
        unfold takenBy takenOf
        rw [if_pos (by rw [HN.out]; omega)]
        exact List.length_eq_zero_iff.1 HN.out
      unfold lensBy
      rw [e, HL.out]
      exact List.eq_replicate_iff.2 ⟨by simp, fun b hb => by obtain ⟨s, _, rfl⟩ := List.mem_map.1 hb; rfl⟩
    have HOW : Hid (OwnI w2 w.heap.size (.slice (some ⟨gl, 0, none⟩) len len) (List.replicate len 0)) := by
      refine ⟨by rw [length_ivals, Nat.mul_one], .inr ⟨gl, len, _, by rw [List.length_replicate], HGL.out, HR2.out, by rw [List.length_replicate]; exact Nat.le_refl _, by unfold maxLen; omega, by rw [List.size_toArray, length_ivals, List.length_replicate, Nat.mul_one], ?_⟩⟩
      rw [List.toList_toArray, Nat.mul_one, ← length_ivals, List.take_length]
    rw [HZ.out] at HLE
    go_wp2_with fail
    go_ret2
    exact ⟨_, by rw [HLE.out]; rfl, by rw [HLE.out]; exact HOW.out, HB2.out⟩
  have hnp : 0 < n1 := by omega
  have hne0 : ((n1 : Int) == 0) = false := by rw [beq_eq_false_iff_ne]; omega
  obtain ⟨b1, o1, ha1, hb1, hc1⟩ := HRD2.out.2.2 hnp
  subst ha1
  have HFT := hide (fun j hj => things_fit (orderOf_ok cs) (by rw [HL.out]; exact h1) HAT.out j hj)
  have HTW := hide (things_wide cs (orderOf cs))
  have HTK : Hid (takenBy cs lim = takenOf (thingsOf cs (orderOf cs)) lim) := rfl
  have HTA := hide (fun s => taken_t (orderOf_ok cs) (by rw [HL.out]; exact h1) lim h2 h3 s)
  have HLB : Hid (lensBy cs lim = lensAt cs (takenBy cs lim) (takenBy cs lim).length 0) := by show _ = _; rw [lensAt_all]; rfl
  rw [HLB.out, HTK.out] at HLE
  clear hc1 HTK HLB
  generalize thingsOf cs (orderOf cs) = ts at HN HRD2 HO2 HFT HTW HTA HLE
  have HOB1 : Hid (∀ i, (Value.slice (some ⟨b1, o1, none⟩) n1 c1).ownBlock = some i → i ≠ gl) := fun i e => by have := HOB.out i e; omega
  have h2j : (1 : Int) ≤ (lim : Int) := by omega
  have h3j : (lim : Int) ≤ 15 := by omega
  go_wp2_with fail
  have HPF : Hid (n1 ≤ P) := by show _ ≤ _; omega
  clear hw64 hlti hP hne0 hn0
  generalize wrap64 ((2 : Int) ^ lim) = F1
  generalize decide (P < n1) = F2
  go_loopw [9, 10] (fun r j wr => ∃ q : Nat, 1 ≤ q ∧ q ≤ lim ∧ j = .int .i64 (q : Int) ∧ Hid (OwnR wr w.heap.size r (row ts (q - 1))) ∧ Hid (∀ i, r.ownBlock = some i → i ≠ gl) ∧ Hid (Below w2.heap.size w2 wr)) (fun _ j _ => lim - (intOf j).toNat)
  case atStart => exact ⟨1, Nat.le_refl _, h2, rfl, HO2, HOB1, Below.refl _ _⟩
  case round =>
    clear HO2 HOB1
    obtain ⟨q, hq1, hq2, rfl, HO, HNE, HBR⟩ := hrel
    obtain ⟨ra, rn, rc, hrv, hrn, hrnc, hrcm, hrd⟩ := HO.out.rd
    subst hrv
    have HRR := hide hrd
    have HRS := hide (row_small ts (q - 1))
    rw [← hrn, HN.out] at HRS
    have hrn5 : rn ≤ 512 := by have := HRS.out; omega
    have HRNE := hide hrn
    clear hrd hrn
    by_cases hqt : q < lim
    · have hqi : (q : Int) < (lim : Int) := by omega
      have HF := hide (HFT.out (q - 1) (by omega))
      have HPA := hide (refPaired_any ra rn rc (row ts (q - 1)) wr HRR.out (by omega) (fun i hi => by
        have m1 : (row ts (q - 1)).getD i (0, []) ∈ row ts (q - 1) := by rw [List.getD_eq_getElem?_getD, List.getElem?_eq_getElem (by rw [HRR.out.1]; omega)]; exact List.getElem_mem _
        have m2 : (row ts (q - 1)).getD (i + 1) (0, []) ∈ row ts (q - 1) := by rw [List.getD_eq_getElem?_getD, List.getElem?_eq_getElem (by rw [HRR.out.1]; omega)]; exact List.getElem_mem _
        have := HF.out.w _ m1
        have := HF.out.w _ m2
        refine ⟨by omega, fun s => ?_⟩
        have := HF.out.t _ m1 s
        have := HF.out.t _ m2 s
        omega))
      have HNXT : Hid (row ts (q + 1 - 1) = merged ts (paired (row ts (q - 1)))) := by
        show _ = _
        rw [show q + 1 - 1 = (q - 1) + 1 by omega]; rfl
      have HPLN : Hid ((paired (row ts (q - 1))).length ≤ 512) := by
        show _ ≤ _
        rw [paired_len, ← HRNE.out]; omega
      obtain ⟨PR, hPR⟩ : ∃ PR, paired (row ts (q - 1)) = PR := ⟨_, rfl⟩
      rw [hPR] at HPA HNXT HPLN
      clear hPR HF HRS
      go_wp2_with fail
      refine HPA.out.mono ?_
      rintro e w3 ⟨v3, rfl, ho3, hb3⟩
      obtain ⟨pa, pn, pc, hpv, hpn, hpnc, hpcm, hpd⟩ := ho3.rd
      subst hpv
      have hpn5 : pn ≤ 512 := by rw [hpn]; exact HPLN.out
      have HB3 : Hid (Below w2.heap.size w2 w3) := HBR.out.trans (hb3.mono HBR.out.size)
      have HME := hide (refMerged_any b1 o1 n1 c1 ts pa pn pc PR w3 (HRD2.out.below HB3.out) hpd (by omega) (by omega) hnc1 hcm2)
      obtain ⟨MR, hMR⟩ : ∃ MR, merged ts PR = MR := ⟨_, rfl⟩
      rw [hMR] at HME HNXT
      clear ho3 hb3 hpd hMR hpn
      go_wp2_with fail
      refine HME.out.mono ?_
      rintro e w4 ⟨v4, rfl, ho4, hb4⟩
      have HB4 : Hid (Below w2.heap.size w2 w4) := HB3.out.trans (hb4.mono HB3.out.size)
      have HNE4 : Hid (∀ i, v4.ownBlock = some i → i ≠ gl) := fun i e => by have := (ho4.2.lt i e).1; have := HB3.out.size; omega
      have HO4 : Hid (OwnR w4 w.heap.size v4 (row ts (q + 1 - 1))) := by
        rw [HNXT.out]
        exact ho4.mono (Nat.le_trans HB2.out.size HB3.out.size)
      clear ho4 hb4
      go_wp2_with fail
      go_roundw
      case rel => exact ⟨q + 1, by omega, by omega, by go_num, HO4, HNE4, HB4⟩
      case measure => simp [intOf]; omega
    · have hqe : q = lim := by omega
      subst hqe
      have hqi : ¬ (q : Int) < (q : Int) := by omega
      obtain ⟨m, hm⟩ : ∃ m, m = if ts.length < 2 then 1 else 2 * ts.length - 2 := ⟨_, rfl⟩
      have HTR := hide (taken_row ts q m (by rw [HN.out]; exact hnp) h2 (by rw [HN.out, HPE.out]; exact HPF.out) hm)
      rw [HN.out] at hm
      have hm1 : 1 ≤ m := by rw [hm]; split <;> omega
      have hm5 : m ≤ 512 := by rw [hm]; split <;> omega
      have hmr : m ≤ rn := by rw [HRNE.out]; exact HTR.out.2
      have HRT := hide (rdr_take HRR.out hmr)
      rw [← HTR.out.1] at HRT
      have HML : Hid ((takenOf ts q).length = m) := HRT.out.1
      rw [HML.out] at HLE
      obtain ⟨b5, o5, hra, hb5, hc5⟩ := HRT.out.2.2 hm1
      subst hra
      have hb5g : b5 ≠ gl := HNE.out b5 rfl
      have HTWD : Hid (Wide 256 (takenOf ts q)) := HRT.out.2.1
      have HRG := hide hc5
      have HRW : Hid (RowI 3 wr gl (lensAt cs (takenOf ts q) 0 0)) := by
        rw [lensAt_zero, HL.out]
        exact HR2.out.below HBR.out
      have HBW : Hid (Below w.heap.size w wr) := HB2.out.trans (HBR.out.mono HB2.out.size)
      have hmi : (m : Int) ≤ 512 := by omega
      have hmax : max (2 * (n1 : Int) - 2) 1 = (m : Int) := by rw [hm]; split <;> omega
      have hn1i : (n1 : Int) ≤ 256 := by omega
      have hrni : (m : Int) ≤ (rn : Int) := by omega
      clear hc5 HRT hm HTR HFT HTW HRS
      generalize takenOf ts q = T at HTA HLE HML HTWD HRG HRW
      go_wp2_with fail
      have hglw : w.heap.size ≤ gl := HGL.out
      clear hmax
      go_loopw [12, 13] (fun i _ wz => ∃ k : Nat, k ≤ m ∧ i = .int .i64 (k : Int) ∧ Hid (RowI 3 wz gl (lensAt cs T k 0)) ∧ Hid (wz.rangeAt b5 o5 (lcells .i64 T)) ∧ Hid (Below w.heap.size w wz)) (fun i _ _ => m - (intOf i).toNat)
      case atStart => exact ⟨0, Nat.zero_le _, rfl, HRW, HRG, HBW⟩
      case round =>
        clear HRW HRG HBW
        obtain ⟨k, hk, rfl, HRW, HRG, HBW⟩ := hrel
        by_cases hkm : k < m
        · have hki : (k : Int) < (m : Int) := by omega
          have hkr : (k : Int) < (rn : Int) := by omega
          have hkT : k < T.length := by rw [HML.out]; exact hkm
          have HPL := hide (wide_get HTWD.out k hkT)
          have HSN := hide (fun s => tally_snoc s T k hkT)
          have HTT : Hid (∀ s, tally (T.take (k + 1)) s ≤ q) := fun s => Nat.le_trans (tally_take_le s T (k + 1)) (HTA.out s)
          go_wp2_with fail
          go_loopw [13] (fun i wz => ∃ p : Nat, p ≤ len ∧ i = .int .i64 (p : Int) ∧ Hid (RowI 3 wz gl (lensAt cs T k p)) ∧ Hid (wz.rangeAt b5 o5 (lcells .i64 T)) ∧ Hid (Below w.heap.size w wz)) (fun i _ => len - (intOf i).toNat)
          case atStart => exact ⟨0, Nat.zero_le _, rfl, HRW, HRG, HBW⟩
          case round =>
            clear HRW HRG HBW
            obtain ⟨p, hp, rfl, HRW, HRG, HBW⟩ := hrel
            by_cases hpl : p < len
            · have hpi : (p : Int) < (len : Int) := by omega
              have hp6 : (p : Int) < 256 := by omega
              have c1 := HRW.out.cell p (by rw [lensAt_len, HL.out]; exact hpl)
              rw [lensAt_get cs T k p (by rw [HL.out]; exact hpl)] at c1
              have f1 := HRW.out.frozen p
              have c2 := (range_one HRG.out HTWD.out k hkT) (1 + p) _ (pcells_t .i64 _ p (by rw [HPL.out]; omega))
              rw [← Nat.add_assoc] at c2
              have HSQ := hide (HSN.out p)
              have HSB := hide (HTT.out p)
              have HSET := hide (lensAt_set cs T k p (by rw [HL.out]; exact hpl))
              obtain ⟨A, hA⟩ : ∃ A, tally (T.take k) p = A := ⟨_, rfl⟩
              obtain ⟨B, hB⟩ : ∃ B, (T.getD k (0, [])).2.getD p 0 = B := ⟨_, rfl⟩
              obtain ⟨C, hC⟩ : ∃ C, tally (T.take (k + 1)) p = C := ⟨_, rfl⟩
              rw [hA] at c1 HSQ
              rw [hB] at c2 HSQ
              rw [hC] at HSQ HSB HSET
              have hsum : A + B = C := HSQ.out.symm
              have hCb : C ≤ q := HSB.out
              have e1 : IntKind.i64.wrap ((A : Int) + (B : Int)) = (C : Int) := by rw [IntKind.wrap_i64]; omega
              have e2 : (A : Int) + (B : Int) = (C : Int) := by omega
              have hC5 : (C : Int) ≤ 15 := by omega
              have HS1 := hide (HRW.out.store p (C : Int))
              rw [HSET.out] at HS1
              have HG1 : Hid (wr.grownBy (wr.setCell ⟨gl, p, none⟩ (.int .i64 (C : Int))) (some gl)) := grown_cell (World.grownBy.refl _ _) _ _
              have HRG1 := hide (range_grown HRG.out HG1.out (fun e => hb5g (Option.some.inj e).symm))
              have HB1 : Hid (Below w.heap.size w (wr.setCell ⟨gl, p, none⟩ (.int .i64 (C : Int)))) := HBW.out.setCell (p := ⟨gl, p, none⟩) hglw _
              clear hA hB hC hsum HSQ HSB HSET HRW HRG HBW HG1
              go_wp2_with fail
              go_region_with (fail)
              all_goals
                go_wp2_with fail
                go_roundw
                case rel => exact ⟨p + 1, by omega, by go_num, HS1.out, fun j v hv => HRG1.out j v hv, HB1.out.drew⟩
                case measure => simp [intOf]; omega
            · have hpe : p = len := by omega
              subst hpe
              have HRN : Hid (RowI 3 wr gl (lensAt cs T (k + 1) 0)) := by
                have := HRW.out
                rw [← HL.out, lensAt_next] at this
                exact this
              have hpi : ¬ (p : Int) < (p : Int) := by omega
              go_wp2_with fail
              go_roundw
              case rel => exact ⟨k + 1, by omega, by go_num, HRN, HRG, HBW⟩
              case measure => simp [intOf]; omega
        · have hke : k = m := by omega
          subst hke
          have hki : ¬ (k : Int) < (k : Int) := by omega
          have HOW : Hid (OwnI wr w.heap.size (.slice (some ⟨gl, 0, none⟩) len len) (lensAt cs T k 0)) := by
            have hl : (lensAt cs T k 0).length = len := by rw [lensAt_len, HL.out]
            refine ⟨by rw [length_ivals, Nat.mul_one], .inr ⟨gl, len, _, by rw [hl], hglw, HRW.out, by rw [hl]; exact Nat.le_refl _, by unfold maxLen; omega, by rw [List.size_toArray, length_ivals, hl, Nat.mul_one], ?_⟩⟩
            rw [List.toList_toArray, Nat.mul_one, ← length_ivals, List.take_length]
          go_wp2_with fail
          go_ret2
          exact ⟨_, by rw [HLE.out]; rfl, by rw [HLE.out]; exact HOW.out, HBW.out⟩
/-- The document's Lengths, whatever it is called with. -/
theorem refLengths_any (a : Option Addr) (len cap : Nat) (cs : List Int) (lim : Int) (w : World) (hr : RdI w a len cs) :
    Calls Try.prog 16 #[.slice a len cap, .int .i64 lim] w fun e w' => ∃ v, e = .returned (.tuple #[v, .int .i64 (lengthsd cs lim).2]) ∧ OwnI w' w.heap.size v (lengthsd cs lim).1 ∧ Below w.heap.size w w' := by
  by_cases h : 256 < cs.length ∨ lim < 1 ∨ 15 < lim ∨ Huff.allIn 1099511627776 cs = false
  · exact refLengths_bad a len cap cs lim w hr h
  · obtain ⟨l, rfl⟩ : ∃ l : Nat, lim = (l : Int) := ⟨lim.toNat, by omega⟩
    have h4 : Huff.allIn 1099511627776 cs = true := by
      cases e : Huff.allIn 1099511627776 cs with
      | true => rfl
      | false => exact absurd (.inr (.inr (.inr e))) h
    exact refLengths_ok a len cap cs l w hr (by rw [← hr.1]; omega) (by omega) (by omega) h4
end Go.Proofs.Ytalnhhpcncjflaa.Pm
