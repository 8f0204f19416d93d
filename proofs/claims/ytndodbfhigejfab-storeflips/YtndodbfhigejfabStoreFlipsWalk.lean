/-
  The walk of the statement StoreFlips.
-/
import Derived.Test.YtndodbfhigejfabStRest
namespace Go.Proofs.Ytndodbfhigejfab.St
open Go.ChangeShapes Go.WideShapes Go.ChangeAt Go.RowKit Go.MuLone
open Go.Proofs.Ytndodbfhigejfab.Base
set_option linter.unusedVariables false
set_option maxHeartbeats 4000000
theorem keyAB : key NA ≠ key NB := by intro h; unfold key at h; injection h with h; revert h; decide
theorem keyBA : key NB ≠ key NA := fun h => keyAB h.symm
set_option maxRecDepth 100000 in
theorem flips_any (a : Option Addr) (len cap : Nat) (bs : List (BitVec 8)) (n1 : Int) (mask : BitVec 32) (w : World) (hr : Rd w a len bs) (hc : len ≤ cap) (hcm : cap ≤ 140737488351232) (hz : a = none → len = 0 ∧ cap = 0) :
    Calls Try.prog 6 #[.slice a len cap, .int .i64 n1, .int .u32 (mask.toNat : Int)] w fun e w' => e = .returned (.bool true) ∧ Below w.heap.size w w' := by
  have HNA : Hid ((⟨#[97]⟩ : ByteArray) = NA) := rfl
  have HNB : Hid ((⟨#[98]⟩ : ByteArray) = NB) := rfl
  have HF := hide (fit_any a len cap bs w hr hc hcm hz)
  have HZ := hide hz
  clear hr hc hcm hz
  go_enter Try.func6, Try.ntmps6
  go_wp2_with fail
  refine HF.out.mono ?_
  rintro e w0 ⟨L, rfl, hR, hL, hw0⟩
  obtain rfl : w0 = w := hw0
  have HR := hide hR
  clear hR HF
  go_wp2_with fail
  refine (new_any w0).mono ?_
  rintro e w1 ⟨s, bm, rfl, hs1, hsl, hbl, hb1⟩
  have HS1 := hide hs1
  have HB1 := hide hb1
  clear hs1 hb1
  go_wp2_with fail
  rw [HNA.out]
  refine (create_any s bm 0 (.map []) 0 0 0 NA w1 HS1.out okNA (by decide) (at_empty NA) (by omega)).mono ?_
  rintro e w2 ⟨b1, rfl, hs2, hbt2, hlb2, k2⟩
  have hsm : s ≠ bm := HS1.out.ne
  have HS2 := hide hs2
  have HT2 := hide hbt2
  have hw1l : w0.heap.size ≤ w1.heap.size := HB1.out.size
  have HB2 : Hid (Below w0.heap.size w0 w2) := below_kept HB1.out k2 (fun i e => by have := Option.some.inj e; omega) (fun i e => by have := Option.some.inj e; omega)
  have HD1 : Hid (((DataW.map [] : DataW Unit).put (key NA) (.lit (.int .i64 (b1 : Int)))).atKey (key NA) .nil = .lit (.int .i64 (b1 : Int))) := at_put _ _ _ (isMap_of HS1.out.map)
  have HD2 : Hid (((DataW.map [] : DataW Unit).put (key NA) (.lit (.int .i64 (b1 : Int)))).atKey (key NB) .nil = .nil) := (at_other _ NA NB _ keyBA).trans (at_empty NB)
  obtain ⟨D1, hD1⟩ : ∃ D, ((DataW.map [] : DataW Unit).put (key NA) (.lit (.int .i64 (b1 : Int)))) = D := ⟨_, rfl⟩
  rw [hD1] at HD1 HD2 HS2
  have hsw1 := HS1.out.at_.lt
  have hmw1 := HS1.out.map.lt
  have hbw2 := hbt2.lt
  have hw2l := HB2.out.size
  have hw12 : w1.heap.size ≤ w2.heap.size := k2.size
  clear hs2 hbt2 k2 hD1
  go_wp2_with fail
  rw [HNB.out]
  refine (create_any s bm 1 D1 0 0 0 NB w2 HS2.out okNB (by decide) HD2.out (by omega)).mono ?_
  rintro e w3 ⟨b2, rfl, hs3, hbt3, hlb3, k3⟩
  have HS3 := hide hs3
  have HU3 := hide hbt3
  have HT3 := hide (HT2.out.kept k3 (by intro e; have := Option.some.inj e; omega) (by intro e; have := Option.some.inj e; omega))
  have HB3 : Hid (Below w0.heap.size w0 w3) := below_kept HB2.out k3 (fun i e => by have := Option.some.inj e; omega) (fun i e => by have := Option.some.inj e; omega)
  have HDB : Hid ((D1.put (key NB) (.lit (.int .i64 (b2 : Int)))).atKey (key NB) .nil = .lit (.int .i64 (b2 : Int))) := at_put _ _ _ (isMap_of HS2.out.map)
  have HDA : Hid ((D1.put (key NB) (.lit (.int .i64 (b2 : Int)))).atKey (key NA) .nil = .lit (.int .i64 (b1 : Int))) := (at_other _ NB NA _ keyAB).trans HD1.out
  obtain ⟨D, hD⟩ : ∃ D, (D1.put (key NB) (.lit (.int .i64 (b2 : Int)))) = D := ⟨_, rfl⟩
  rw [hD] at HDA HDB HS3
  have hb2w := hbt3.lt
  have hw3l := HB3.out.size
  have hw23 : w2.heap.size ≤ w3.heap.size := k3.size
  clear hs3 hbt3 k3 hD HS2 HT2 HB2 HS1 HB1 HD1 HD2
  have hs_b1 : s ≠ b1 := by omega
  have hs_b2 : s ≠ b2 := by omega
  have hm_b1 : bm ≠ b1 := by omega
  have hm_b2 : bm ≠ b2 := by omega
  have hb12 : b1 ≠ b2 := by omega
  have HN : Hid (a = none → L = 0 ∧ cap = 0) := fun e => ⟨Classical.byContradiction (fun h0 => by obtain ⟨b0, o0, e0, _⟩ := HR.out.2.2 (by omega); rw [e0] at e; cases e), (HZ.out e).2⟩
  have HNS : Hid (0 < L → ∀ ad, a = some ad → ad.block ≠ s) := fun h0 ad e => by obtain ⟨b0, o0, e0, hlt, _⟩ := HR.out.2.2 h0; rw [e0] at e; cases e; show b0 ≠ s; omega
  have HAP := hide (append_any s bm 2 b1 D 0 0 0 NA a L cap (fitted bs) w3 HS3.out okNA (by decide) HDA.out HT3.out hs_b1 hm_b1 (HR.out.below HB3.out) HNS.out HN.out hL)
  go_wp2_with fail
  refine HAP.out.mono ?_
  rintro e w4 ⟨v, rfl, hs4, ht4, ho4, k4⟩
  obtain ⟨va, vc, rfl⟩ := ho4.shape
  rw [HR.out.1] at ht4 ho4
  have HS4 := hide hs4
  have HT4 := hide ht4
  have HO4 := hide ho4
  have HU4 := hide (HU3.out.kept k4 (by intro e; have := Option.some.inj e; omega) (by intro e; have := Option.some.inj e; omega))
  have HBK : Hid (∀ i, (Value.slice va L vc).ownBlock = some i → w3.heap.size ≤ i ∧ i < w4.heap.size) := fun i e => blk ho4 i e
  have HB4 : Hid (Below w0.heap.size w0 w4) := below_kept HB3.out k4 (fun i e => by have := Option.some.inj e; omega) (fun i e => by have := Option.some.inj e; omega)
  have hsw3 : s < w3.heap.size := HS3.out.at_.lt
  have hmw3 : bm < w3.heap.size := HS3.out.map.lt
  have hw34 : w3.heap.size ≤ w4.heap.size := k4.size
  have hLi : (L : Int) ≤ 268435456 := by omega
  clear hs4 ht4 ho4 k4 HAP HS3 HT3 HU3
  have HAP := hide (append_any s bm 2 b2 D 0 0 0 NB a L cap (fitted bs) w4 HS4.out okNB (by decide) HDB.out HU4.out hs_b2 hm_b2 (HR.out.below HB4.out) HNS.out HN.out hL)
  go_wp2_with fail
  refine HAP.out.mono ?_
  rintro e w5 ⟨u, rfl, hs5, hu5, ho5, k5⟩
  obtain ⟨ua, uc, rfl⟩ := ho5.shape
  rw [HR.out.1] at hu5 ho5
  have HS5 := hide hs5
  have HU5 := hide hu5
  have HP5 := hide ho5
  have HT5 := hide (HT4.out.kept k5 (by intro e; have := Option.some.inj e; omega) (by intro e; have := Option.some.inj e; omega))
  have HO5 := hide (own_of_kept HO4.out k5 (fun i e e2 => by have h1 := HBK.out i e; have h2 := Option.some.inj e2; omega) (fun i e e2 => by have h1 := HBK.out i e; have h2 := Option.some.inj e2; omega))
  have HBU : Hid (∀ i, (Value.slice ua L uc).ownBlock = some i → w4.heap.size ≤ i ∧ i < w5.heap.size) := fun i e => blk ho5 i e
  have HB5 : Hid (Below w0.heap.size w0 w5) := below_kept HB4.out k5 (fun i e => by have := Option.some.inj e; omega) (fun i e => by have := Option.some.inj e; omega)
  have hw45 : w4.heap.size ≤ w5.heap.size := k5.size
  clear hs5 hu5 ho5 k5 HAP HS4 HT4 HU4 HO4 HB4
  have HPU := hide (publishS_any s bm 2 b1 D 0 0 0 NA (.slice va L vc) w5 HS5.out okNA (by decide) HDA.out HT5.out hs_b1 hm_b1)
  go_wp2_with fail
  refine HPU.out.mono ?_
  rintro e w6 ⟨rfl, hs6, ht6, k6⟩
  have HS6 := hide hs6
  have HU6 := hide (HU5.out.kept k6 (by intro e; have := Option.some.inj e; omega) (by intro e; have := Option.some.inj e; omega))
  have HP6 := hide (own_of_kept HP5.out k6 (fun i e e2 => by have h1 := HBU.out i e; have h2 := Option.some.inj e2; omega) (fun i e e2 => by have h1 := HBU.out i e; have h2 := Option.some.inj e2; omega))
  have HE6 : Hid (Out w0 w6 b1 w3.heap.size (.slice va L vc) (fitted bs)) := ⟨ht6, own_of_kept HO5.out k6 (fun i e e2 => by have h1 := HBK.out i e; have h2 := Option.some.inj e2; omega) (fun i e e2 => by have h1 := HBK.out i e; have h2 := Option.some.inj e2; omega), below_kept HB5.out k6 (fun i e => by have := Option.some.inj e; omega) (fun i e => by have := Option.some.inj e; omega)⟩
  have hw56 : w5.heap.size ≤ w6.heap.size := k6.size
  clear hs6 ht6 k6 HPU HS5 HU5 HP5 HT5 HO5 HB5
  have HPU := hide (publishS_any s bm 2 b2 D 0 0 0 NB (.slice ua L uc) w6 HS6.out okNB (by decide) HDB.out HU6.out hs_b2 hm_b2)
  go_wp2_with fail
  refine HPU.out.mono ?_
  rintro e w7 ⟨rfl, hs7, hu7, k7⟩
  have HS7 := hide hs7
  have HE7 := hide (HE6.out.kept k7 (fun i e => by have h1 := Option.some.inj e; refine ⟨by omega, by omega, fun e2 => ?_⟩; have h2 := HBK.out i e2; omega) (fun i e => by have h1 := Option.some.inj e; refine ⟨by omega, by omega, fun e2 => ?_⟩; have h2 := HBK.out i e2; omega))
  have HV7 : Hid (Out w0 w7 b2 w4.heap.size (.slice ua L uc) (fitted bs)) := ⟨hu7, own_of_kept HP6.out k7 (fun i e e2 => by have h1 := HBU.out i e; have h2 := Option.some.inj e2; omega) (fun i e e2 => by have h1 := HBU.out i e; have h2 := Option.some.inj e2; omega), HE7.out.bel⟩
  have hw67 : w6.heap.size ≤ w7.heap.size := k7.size
  clear hs7 hu7 k7 HPU HS6 HU6 HP6 HE6
  by_cases hbad : n1 < 0 ∨ 8 * (L : Int) ≤ n1
  · have HFB := hide (flipS_bad s bm 2 b1 D 0 0 0 NA va L vc n1 (mask.toNat : Int) w7 HS7.out okNA (by decide) HDA.out HE7.out.bat hL hbad hs_b1)
    by_cases h0 : n1 < 0
    · clear hbad
      go_wp2_with fail
      refine HFB.out.mono ?_
      rintro e w8 ⟨rfl, k8⟩
      have HB8 : Hid (Below w0.heap.size w0 w8) := below_kept HE7.out.bel k8 (fun i e => by have := Option.some.inj e; omega) (fun i e => by cases e)
      clear k8
      go_wp2_with fail
      refine (head_any w8).mono ?_
      rintro e w9 ⟨rfl, hb9⟩
      have HB9 := hide (below_trans HB8.out hb9)
      clear hb9
      go_wp2_with fail
      go_ret
      exact ⟨rfl, HB9.out⟩
    · have h1 : 8 * (L : Int) ≤ n1 := hbad.resolve_left h0
      clear hbad
      go_wp2_with fail
      refine HFB.out.mono ?_
      rintro e w8 ⟨rfl, k8⟩
      have HB8 : Hid (Below w0.heap.size w0 w8) := below_kept HE7.out.bel k8 (fun i e => by have := Option.some.inj e; omega) (fun i e => by cases e)
      clear k8
      go_wp2_with fail
      refine (head_any w8).mono ?_
      rintro e w9 ⟨rfl, hb9⟩
      have HB9 := hide (below_trans HB8.out hb9)
      clear hb9
      go_wp2_with fail
      go_ret
      exact ⟨rfl, HB9.out⟩
  · obtain ⟨bit, rfl⟩ : ∃ bit : Nat, n1 = (bit : Int) := ⟨n1.toNat, by omega⟩
    have h0 : ¬ (bit : Int) < 0 := by omega
    have h1 : ¬ 8 * (L : Int) ≤ (bit : Int) := by omega
    have hbit : bit < 8 * L := by omega
    have hbi : (bit : Int) ≤ 2147483648 := by omega
    clear hbad
    have HFL : Hid ((fitted bs).length = L) := HR.out.1
    obtain ⟨g, rfl⟩ : ∃ g, va = some ⟨g, 0, none⟩ := by
      have h := HE7.out.own
      unfold Own at h
      rw [HFL.out] at h
      obtain ⟨L', hL'⟩ : ∃ L', L = L' + 1 := ⟨L - 1, by omega⟩
      rw [hL'] at h
      obtain ⟨g, c, e⟩ := own_shape h
      cases e
      exact ⟨g, rfl⟩
    have hg := HBK.out g rfl
    have HFO := hide (flipS_ok s bm 2 b1 g w3.heap.size bit D 0 0 0 NA L vc (fitted bs) mask w7 HS7.out okNA (by decide) HDA.out HE7.out.bat HE7.out.own (by omega) (by omega) (by omega) hL hbit hs_b1)
    obtain ⟨fl, hfl⟩ : ∃ fl, flipTo (fitted bs) bit mask 32 = fl := ⟨_, rfl⟩
    rw [hfl] at HFO
    have HFLIP := hide hfl
    have HXL : Hid (fl.length = L) := by show _ = _; rw [← hfl, flipTo_len, HFL.out]
    clear hfl
    go_wp2_with fail
    refine HFO.out.mono ?_
    rintro e w8 ⟨rfl, hs8, hb8, ho8, k8⟩
    have HS8 := hide hs8
    have HE8 : Hid (Out w0 w8 b1 w3.heap.size (.slice (some ⟨g, 0, none⟩) L vc) fl) := ⟨hb8, ho8, below_kept HE7.out.bel k8 (fun i e => by have := Option.some.inj e; omega) (fun i e => by have := Option.some.inj e; omega)⟩
    have HV8 := hide (HV7.out.kept k8 (fun i e => by have h1 := Option.some.inj e; refine ⟨by omega, by omega, fun e2 => ?_⟩; have h2 := HBU.out i e2; omega) (fun i e => by have h1 := Option.some.inj e; refine ⟨by omega, by omega, fun e2 => ?_⟩; have h2 := HBU.out i e2; omega))
    have hw78 : w7.heap.size ≤ w8.heap.size := k8.size
    clear hs8 hb8 ho8 k8 HFO HS7 HE7 HV7
    have HRA := hide (readS_full s bm 2 b1 w3.heap.size D 0 0 0 NA (some ⟨g, 0, none⟩) L vc fl w8 HS8.out okNA (by decide) HDA.out HE8.out.bat HE8.out.own (fun i e => by have h1 := HBK.out i e; omega) hL hs_b1 (by omega) (by omega))
    go_wp2_with fail
    refine HRA.out.mono ?_
    rintro e w9 ⟨xa, xc, R9, B9, G9, rfl, ho9, hG9, hG9', hs9, k9⟩
    have HX9 := hide ho9
    have HS9 := hide hs9
    have HBX : Hid (∀ i, (Value.slice xa L xc).ownBlock = some i → w8.heap.size ≤ i) := fun i e => (blk ho9 i e).1
    have HE9 := hide (HE8.out.kept k9 (fun i e => by have h1 := Option.some.inj e; refine ⟨by omega, by omega, fun e2 => ?_⟩; have h2 := HBK.out i e2; omega) (fun i e => by cases e))
    have HV9 := hide (HV8.out.kept k9 (fun i e => by have h1 := Option.some.inj e; refine ⟨by omega, by omega, fun e2 => ?_⟩; have h2 := HBU.out i e2; omega) (fun i e => by cases e))
    clear ho9 hs9 k9 HRA HS8 HE8 HV8
    have HRA := hide (readS_full s bm 2 b2 w4.heap.size D R9 B9 G9 NB ua L uc (fitted bs) w9 HS9.out okNB (by decide) HDB.out HV9.out.bat HV9.out.own (fun i e => by have h1 := HBU.out i e; omega) hL hs_b2 hG9 hG9')
    go_wp2_with fail
    refine HRA.out.mono ?_
    rintro e w10 ⟨ya, yc, R10, B10, G10, rfl, ho10, hG10, hG10', hs10, k10⟩
    have HY10 := hide ho10
    have HS10 := hide hs10
    have HX10 := hide (own_of_kept HX9.out k10 (fun i e e2 => by have h1 := HBX.out i e; have h2 := Option.some.inj e2; omega) (fun i e e2 => by cases e2))
    have HE10 := hide (HE9.out.kept k10 (fun i e => by have h1 := Option.some.inj e; refine ⟨by omega, by omega, fun e2 => ?_⟩; have h2 := HBK.out i e2; omega) (fun i e => by cases e))
    clear ho10 hs10 k10 HRA HS9 HE9 HV9 HX9
    have HSM := hide (same5_eq ya a L yc L cap (fitted bs) w10 (Got.rd HY10.out (by rw [HFL.out]; omega)) (HR.out.below HE10.out.bel))
    go_wp2_with fail
    refine HSM.out.mono ?_
    rintro e w11 ⟨rfl, hb11⟩
    have k11 := kept2_below hb11 none none
    have HS11 := hide (HS10.out.kept' k11 (by simp) (by simp))
    have HE11 := hide (HE10.out.kept k11 (fun i e => by cases e) (fun i e => by cases e))
    have HCX := hide (Got.rd (HX10.out.below hb11) (by rw [HXL.out]; omega)).2.2
    have HCD := hide (HR.out.below HE11.out.bel).2.2
    clear k11 hb11 HSM HS10 HE10 HX10 HY10
    have hq1 : ((L : Int) != (L : Int)) = false := by simp
    go_wp2_with fail
    go_loopw [14] (fun i wr => ∃ k : Nat, k ≤ 8 * L ∧ i = .int .i64 (k : Int) ∧ wr = w11) (fun i _ => 8 * L - (intOf i).toNat)
    case atStart => exact ⟨0, Nat.zero_le _, rfl, rfl⟩
    case round =>
      obtain ⟨k, hk, rfl, rfl⟩ := hrel
      by_cases hlt : k < 8 * L
      · have hki : (k : Int) < 8 * (L : Int) := by omega
        have hk2 : (k : Int) ≤ 2147483648 := by omega
        have h8 : (k : Int) / 8 < (L : Int) := by omega
        obtain ⟨e1, o1, rfl, hb1, hc1⟩ := HCX.out (by omega)
        obtain ⟨e2, o2, rfl, hb2, hc2⟩ := HCD.out (by omega)
        have g1 := hc1 (k / 8) (by omega)
        have g2 := hc2 (k / 8) (by omega)
        clear hc1 hc2
        have HBIT := hide (bitAt_flipTo (fitted bs) bit mask k (by rw [HFL.out]; exact hlt) 32)
        rw [HFLIP.out] at HBIT
        unfold bitAt at HBIT
        obtain ⟨c1, hc1⟩ : ∃ c, fl.getD (k / 8) 0 = c := ⟨_, rfl⟩
        obtain ⟨c2, hc2⟩ : ∃ c, (fitted bs).getD (k / 8) 0 = c := ⟨_, rfl⟩
        rw [hc1] at g1 HBIT
        rw [hc2] at g2 HBIT
        clear hc1 hc2
        obtain ⟨S1, s1, t1⟩ := bit_walk c1 (k % 8)
        obtain ⟨S2, s2, t2⟩ := bit_walk c2 (k % 8)
        by_cases hA : bit ≤ k
        · have hAi : (bit : Int) ≤ (k : Int) := by omega
          by_cases hB : k < bit + 32
          · have hBi : (k : Int) < (bit : Int) + 32 := by omega
            obtain ⟨d, hd⟩ : ∃ d : Nat, (k : Int) - (bit : Int) = (d : Int) := ⟨k - bit, by omega⟩
            have HDD : Hid (k - bit = d) := by show _ = _; omega
            have hd32 : (d : Int) < 32 := by omega
            obtain ⟨X, hX⟩ : ∃ X, mask >>> d = X := ⟨_, rfl⟩
            have m1 : (mask.toNat : Int) / (2 : Int) ^ d = (X.toNat : Int) := by rw [bshr32, hX]
            have m2 := mask_bit mask X d hX
            rw [decide_eq_true (by omega : bit ≤ k ∧ k < bit + 32), Bool.true_and, HDD.out] at HBIT
            clear hX
            by_cases hm : mask.getLsbD d = true
            · rw [if_pos hm] at m2
              rw [hm, Bool.xor_true] at HBIT
              rw [HBIT.out] at t1
              clear HBIT
              generalize c2.getLsbD (k % 8) = z at t1 t2
              cases z <;> simp only [Bool.not_true, Bool.not_false, if_true, Bool.false_eq_true, if_false] at t1 t2
              · clear hm
                go_wp2_with fail
                go_roundw
                case rel => exact ⟨k + 1, by omega, by go_num, by first | trivial | rfl⟩
                case measure => simp [intOf]; omega
              · clear hm
                go_wp2_with fail
                go_roundw
                case rel => exact ⟨k + 1, by omega, by go_num, by first | trivial | rfl⟩
                case measure => simp [intOf]; omega
            · rw [if_neg hm] at m2
              have hm' : mask.getLsbD d = false := by simpa using hm
              rw [hm', Bool.xor_false] at HBIT
              rw [HBIT.out] at t1
              clear HBIT hm hm'
              obtain ⟨v, hv⟩ : ∃ v : Int, (if c2.getLsbD (k % 8) then (1 : Int) else 0) = v := ⟨_, rfl⟩
              rw [hv] at t1 t2
              have hq : (v != v) = false := by simp
              clear hv
              go_wp2_with fail
              go_roundw
              case rel => exact ⟨k + 1, by omega, by go_num, by first | trivial | rfl⟩
              case measure => simp [intOf]; omega
          · have hBi : ¬ (k : Int) < (bit : Int) + 32 := by omega
            rw [decide_eq_false (by omega : ¬ (bit ≤ k ∧ k < bit + 32)), Bool.false_and, Bool.xor_false] at HBIT
            rw [HBIT.out] at t1
            clear HBIT
            obtain ⟨v, hv⟩ : ∃ v : Int, (if c2.getLsbD (k % 8) then (1 : Int) else 0) = v := ⟨_, rfl⟩
            rw [hv] at t1 t2
            have hq : (v != v) = false := by simp
            clear hv
            go_wp2_with fail
            go_roundw
            case rel => exact ⟨k + 1, by omega, by go_num, by first | trivial | rfl⟩
            case measure => simp [intOf]; omega
        · have hAi : ¬ (bit : Int) ≤ (k : Int) := by omega
          rw [decide_eq_false (by omega : ¬ (bit ≤ k ∧ k < bit + 32)), Bool.false_and, Bool.xor_false] at HBIT
          rw [HBIT.out] at t1
          clear HBIT
          obtain ⟨v, hv⟩ : ∃ v : Int, (if c2.getLsbD (k % 8) then (1 : Int) else 0) = v := ⟨_, rfl⟩
          rw [hv] at t1 t2
          have hq : (v != v) = false := by simp
          clear hv
          go_wp2_with fail
          go_roundw
          case rel => exact ⟨k + 1, by omega, by go_num, by first | trivial | rfl⟩
          case measure => simp [intOf]; omega
      · have hki : ¬ (k : Int) < 8 * (L : Int) := by omega
        have HFO := hide (flipS_ok s bm 2 b1 g w3.heap.size bit D R10 B10 G10 NA L vc fl mask wr HS11.out okNA (by decide) HDA.out HE11.out.bat HE11.out.own (by omega) (by omega) (by omega) hL hbit hs_b1)
        rw [← HFLIP.out, flip_twice] at HFO
        go_wp2_with fail
        refine HFO.out.mono ?_
        rintro e w12 ⟨rfl, hs12, hb12', ho12, k12⟩
        have HS12 := hide hs12
        have HE12 : Hid (Out w0 w12 b1 w3.heap.size (.slice (some ⟨g, 0, none⟩) L vc) (fitted bs)) := ⟨hb12', ho12, below_kept HE11.out.bel k12 (fun i e => by have := Option.some.inj e; omega) (fun i e => by have := Option.some.inj e; omega)⟩
        clear hs12 hb12' ho12 k12 HFO
        have HRA := hide (readS_full s bm 2 b1 w3.heap.size D R10 B10 G10 NA (some ⟨g, 0, none⟩) L vc (fitted bs) w12 HS12.out okNA (by decide) HDA.out HE12.out.bat HE12.out.own (fun i e => by have h1 := HBK.out i e; omega) hL hs_b1 hG10 hG10')
        go_wp2_with fail
        refine HRA.out.mono ?_
        rintro e w13 ⟨za, zc, R13, B13, G13, rfl, ho13, hG13, hG13', hs13, k13⟩
        have HB13 : Hid (Below w0.heap.size w0 w13) := below_kept HE12.out.bel k13 (fun i e => by have := Option.some.inj e; omega) (fun i e => by cases e)
        have HSM := hide (same5_eq za a L zc L cap (fitted bs) w13 (Got.rd ho13 (by rw [HFL.out]; omega)) (HR.out.below HB13.out))
        clear ho13 hs13 k13 HRA
        go_wp2_with fail
        refine HSM.out.mono ?_
        rintro e w14 ⟨rfl, hb14⟩
        have HB14 := hide (below_trans HB13.out hb14)
        clear hb14
        go_wp2_with fail
        refine (head_any w14).mono ?_
        rintro e w15 ⟨rfl, hb15⟩
        have HB15 := hide (below_trans HB14.out hb15)
        clear hb15
        go_wp2_with fail
        go_ret
        exact ⟨rfl, HB15.out⟩
end Go.Proofs.Ytndodbfhigejfab.St
namespace Go.Proofs.Ytndodbfhigejfab.storeFlips
set_option linter.unusedVariables false
open Go.ChangeShapes Go.WideShapes Go.ChangeAt Go.RowKit
open Go.Proofs.Ytndodbfhigejfab.Base Go.Proofs.Ytndodbfhigejfab.St
theorem walk (a0 : Option Addr) (len0 cap0 : Nat) (b0 : List (BitVec 8)) (n1 : Int) (x2 : BitVec 32) (w : World) (r0 : Rd w a0 len0 b0) (l0 : len0 ≤ cap0) (m0 : cap0 ≤ 140737488351232) (z0 : a0 = none → len0 = 0 ∧ cap0 = 0) (w1 : (Lit.int .i64 n1).wf = true) :
    Calls Try.prog 6 #[.slice a0 len0 cap0, .int .i64 n1, .int .u32 (x2.toNat : Int)] w fun e w' => e = .returned (.bool true) ∧ Below w.heap.size w w' := flips_any a0 len0 cap0 b0 n1 x2 w r0 l0 m0 z0
end Go.Proofs.Ytndodbfhigejfab.storeFlips
