/-
  The walk of the statement FilterFew.
-/
import Derived.Test.YtpdlpahpefojbaaDoorFiFewC
import Derived.Test.YtpdlpahpefojbaaDoorFilterNeverWalk
import Derived.Lib.MinMax
namespace Go.Proofs.YtpdlpahpefojbaaDoor.filterFew
open Go.ChangeShapes Go.WideShapes Go.ChangeAt Go.RowKit
open Go.Proofs.YtpdlpahpefojbaaDoor.Base hiding hide unhide lt8
open Go.Proofs.YtpdlpahpefojbaaDoor.Filt
open Go.Proofs.YtpdlpahpefojbaaDoor.filterNever hiding walk
set_option linter.unusedVariables false
theorem built_nil (b : Int) (h0 : 0 ≤ b) (h1 : b ≤ 16) : builtF [] b = (⟨false, 0, []⟩, 0) := by unfold builtF; rw [if_neg (by omega)]; rfl
set_option maxHeartbeats 4000000 in
set_option maxRecDepth 100000 in
theorem walk (a0 : Option Addr) (len0 cap0 : Nat) (ss : List ByteArray) (n1 : Int) (a2 : Option Addr) (len2 cap2 : Nat) (ts : List ByteArray) (w : World) (hK : KAt w) (hJ : JAt w) (r0 : RdS w a0 len0 ss) (l0 : len0 ≤ cap0) (m0 : cap0 ≤ 8796093021952) (z0 : a0 = none → len0 = 0 ∧ cap0 = 0) (w1 : (Lit.int .i64 n1).wf = true) (r2 : RdS w a2 len2 ts) (l2 : len2 ≤ cap2) (m2 : cap2 ≤ 8796093021952) (z2 : a2 = none → len2 = 0 ∧ cap2 = 0) :
    Calls Tryd.prog 4 #[.slice a0 len0 cap0, .int .i64 n1, .slice a2 len2 cap2] w fun e w' => e = .returned (.bool true) ∧ Below w.heap.size w w' := by
  have HKW := hide hK
  have HJW := hide hJ
  have RS := hide r0
  have RT := hide r2
  have HLS := hide r0.1
  have HLT := hide r2.1
  have HSZ := hide r0.2.2.1
  have WF1 := hide w1
  obtain ⟨fe, fk, fh⟩ := built_ok ss (n1 % 17) (by omega) (by omega)
  have fl := builtF_len ss (n1 % 17)
  have fb := built_back ss (n1 % 17)
  obtain ⟨hh, fo1, fo2, fo3⟩ := built_ones ss (n1 % 17)
  obtain ⟨n, hn⟩ : ∃ n, min len0 len2 = n := ⟨_, rfl⟩
  have hn0 : n ≤ len0 := by omega
  have hn2 : n ≤ len2 := by omega
  have hlx : (ss.take n).length = n := by rw [List.length_take, HLS.out]; omega
  have hly : (ts.take n).length = n := by rw [List.length_take, HLT.out]; omega
  obtain ⟨pe1, pe2, pe3, pe4⟩ := built_pair (ss.take n) (ts.take n) (n1 % 17) (by omega) (by omega) (by rw [hlx, hly])
  have xe := (built_ok (ss.take n) (n1 % 17) (by omega) (by omega)).1
  have ye := (built_ok (ts.take n) (n1 % 17) (by omega) (by omega)).1
  have xl := builtF_len (ss.take n) (n1 % 17)
  have yl := builtF_len (ts.take n) (n1 % 17)
  have HNB := hide (built_nil (n1 % 17) (by omega) (by omega))
  obtain ⟨F, hF⟩ : ∃ F, builtF ss (n1 % 17) = F := ⟨_, rfl⟩
  obtain ⟨X, hX⟩ : ∃ X, builtF (ss.take n) (n1 % 17) = X := ⟨_, rfl⟩
  obtain ⟨Y, hY⟩ : ∃ Y, builtF (ts.take n) (n1 % 17) = Y := ⟨_, rfl⟩
  rw [hF] at fe fk fh fl fb fo1 fo3
  rw [hX] at pe1 pe2 pe3 pe4 xe xl
  rw [hY] at pe1 pe2 pe3 pe4 ye yl
  obtain ⟨⟨FA, FH, FD⟩, FE⟩ := F
  obtain ⟨⟨XA, XH, XD⟩, XE⟩ := X
  obtain ⟨⟨YA, YH, YD⟩, YE⟩ := Y
  simp only at fe fk fh fl fo1 fo3 pe1 pe2 pe3 pe4 xe xl ye yl
  subst fe xe ye pe1 pe2 fo1
  have HFB := hide hF
  have HRB := hide fb
  have HXB := hide hX
  have HYB := hide hY
  have HPJ := hide pe4
  have HXY := hide pe3
  obtain ⟨NF, hNF⟩ : ∃ N, FD.length = N := ⟨_, rfl⟩
  obtain ⟨NX, hNX⟩ : ∃ N, XD.length = N := ⟨_, rfl⟩
  have HNF := hide hNF
  have HNX := hide hNX
  have HNY : Hid (YD.length = NX) := by show _ = _; rw [← pe3]; exact hNX
  have HNZ : Hid ((orZip XD YD).length = NX) := by show _ = _; rw [orZip_len _ _ pe3]; exact hNX
  have HFL := hide fl
  have HXL := hide xl
  have HYL := hide yl
  have HZL : Hid ((orZip XD YD).length ≤ 4096) := by show _ ≤ _; rw [orZip_len _ _ pe3]; exact xl
  have HOG : Hid (∀ i, i < NX → (orZip XD YD).getD i 0 = XD.getD i 0 ||| YD.getD i 0) := fun i hi => orZip_get XD YD pe3 i (by omega)
  have hnfl : NF ≤ 4096 := by omega
  have hnxl : NX ≤ 4096 := by omega
  have HFK : Hid ((if kindN FA (hh : Int) NF = 3 then (70 : Int) else 0) = 0) := by show _ = _; rw [if_neg (by rw [← hNF]; exact fk)]
  obtain ⟨O, hO⟩ : ∃ O, onesL FD = O := ⟨_, rfl⟩
  obtain ⟨M, hM⟩ : ∃ M, hh * len0 = M := ⟨_, rfl⟩
  have hMw : IntKind.i64.wrap ((hh : Int) * (len0 : Int)) = (M : Int) := by
    have e : (hh : Int) * (len0 : Int) = (M : Int) := by rw [← hM]; simp
    have h8 : M ≤ 8 * 8796093021952 := by rw [← hM]; exact Nat.mul_le_mul fo2 (by omega)
    rw [e, IntKind.wrap_i64]; omega
  have hOM : O ≤ M := by rw [← hO, ← hM, ← HLS.out]; exact fo3
  have HO := hide hO
  have dOM : decide ((M : Int) < (O : Int)) = false := by simpa using (by omega : (O : Int) ≤ (M : Int))
  have dOM2 : decide (M < O) = false := by simpa using hOM
  generalize orZip XD YD = ZD at HPJ HNZ HZL HOG
  have hmin : min (len0 : Int) (len2 : Int) = (n : Int) := by omega
  have hnc0 : n ≤ cap0 := by omega
  have hnc2 : n ≤ cap2 := by omega
  clear hK hJ r0 r2 w1 hF hX hY fk fh fb fl fo3 pe3 pe4 xl yl hlx hly hNF hNX hO hM hOM hn
  have HBE1 := hide (fun W => bent_b n1 W WF1.out)
  generalize n1 % 17 = B1 at HFB HRB HXB HYB HNB HBE1
  go_enter Tryd.func4, Tryd.ntmps4
  go_wp2_with fail
  refine (HBE1.out w).mono ?_
  rintro e u1 ⟨rfl, hb1⟩
  have HB_1 := hide hb1
  clear hb1
  go_wp2_with fail
  refine (build_at a0 len0 cap0 ss B1 FA hh FD NF u1 HNF.out HFB.out (kat_below HKW.out HB_1.out) (RS.out.below HB_1.out) HFL.out).mono ?_
  rintro e u2 ⟨fa, fc, rfl, hrd, hnil, hb2⟩
  have RF_2 := hide hrd
  clear hrd
  have HB_2 := hide (below_trans HB_1.out hb2)
  clear HB_1 hb2
  have HFN := hide hnil
  clear hnil
  obtain ⟨u3, pBF, eBF, sBF, BF_3, hbBF, _⟩ := laid_new (Below.refl u2.heap.size u2) FA hh (.slice fa NF fc)
  have RF_3 := hide (RF_2.out.below hbBF.out)
  have HB_3 := hide (below_trans HB_2.out hbBF.out)
  clear RF_2 HB_2
  clear hbBF
  go_wp2_with fail
  have hl0i : (len0 : Int) ≤ 8796093021952 := by omega
  go_loopw [10, 11] (fun o i wr => ∃ (j : Nat) (ba : Option Addr) (bc : Nat), j ≤ len0 ∧ i = .int .i64 ((len0 : Int) - 1 - (j : Int)) ∧ o = .slice ba j bc ∧ Hid (OwnS wr u3.heap.size (.slice ba j bc) (ss.reverse.take j)) ∧ Hid (Below u3.heap.size u3 wr)) (fun _ i _ => (intOf i + 1).toNat)
  case atStart => exact ⟨0, _, _, Nat.zero_le _, by go_num, rfl, owns_none _ _, Below.refl _ _⟩
  case round =>
    obtain ⟨j, ba, bc, hj, rfl, rfl, HOB, HBW⟩ := hrel
    by_cases hlt : j < len0
    · obtain ⟨k, hk⟩ : ∃ k : Nat, len0 - 1 - j = k := ⟨_, rfl⟩
      have hki : (len0 : Int) - 1 - (j : Int) = (k : Int) := by omega
      have hkl : (k : Int) < (len0 : Int) := by omega
      have hk0 : 0 ≤ (k : Int) := by omega
      have HRk := hide (RS.out.below (below_trans HB_3.out HBW.out))
      obtain ⟨kb, koff, rfl, hkb, hcell⟩ := HRk.out.2.2.2 (by omega)
      have kc := hcell k (by omega)
      have HTK := hide (rev_take ss j (by rw [HLS.out]; exact hlt))
      rw [HLS.out, hk] at HTK
      generalize ss.getD k ⟨#[]⟩ = sk at kc HTK
      have HRL : Hid ((ss.reverse.take j).length = j) := by show _ = _; rw [List.length_take, List.length_reverse, HLS.out]; omega
      have HRL2 : Hid ((ss.reverse.take (j + 1)).length = j + 1) := by show _ = _; rw [List.length_take, List.length_reverse, HLS.out]; omega
      clear hcell hkb hk
      rw [hki]
      go_wp2_with (at_builtin; refine pushS _ rfl _ _ rfl u3.heap.size _ (ss.reverse.take j) rfl (HOB.out.below ((Below.refl _ _).alloc (Nat.le_refl _) _)) ⟨wr.heap.size, 0, none⟩ 1 sk rfl ?_ (by rw [HRL.out]; omega) (by have := HBW.out.size; simp; omega) ?_
                   · simpa using cell_one_new wr (.string sk) 9 0 _ rfl
                   intro v' w7 hown hgrow
                   have HG7 := hide hgrow
                   rw [← HTK.out] at hown
                   obtain ⟨a', c', hv'⟩ := hown.shape
                   rw [HRL2.out] at hv'
                   subst hv'
                   have HO7 := hide hown
                   clear hown hgrow)
      go_roundw
      case rel =>
        refine ⟨j + 1, a', c', by omega, by go_num, rfl, HO7, ?_⟩
        exact (HBW.out.alloc HBW.out.size _).grown HG7.out (by have := HBW.out.size; simp; omega) (fun i e => (World.ownsRow.lt HOB.out i e).1)
      case measure => (simp [intOf] <;> omega)
    · have hjl : j = len0 := by omega
      subst hjl
      have hki : (j : Int) - 1 - (j : Int) = -1 := by omega
      rw [hki]
      have HTK : Hid (ss.reverse.take j = ss.reverse) := List.take_of_length_le (by rw [List.length_reverse, HLS.out]; exact Nat.le_refl _)
      rw [HTK.out] at HOB
      have HRB2 : Hid (RdS wr ba j ss.reverse) := HOB.out.rds (by rw [List.length_reverse, HLS.out]; omega) (fun x hx => HSZ.out x (List.mem_reverse.1 hx))
      have RF_4 := hide (RF_3.out.below HBW.out)
      have BF_4 := hide (BF_3.out.below HBW.out)
      have HB_4 := hide (below_trans HB_3.out HBW.out)
      clear RF_3 BF_3 HB_3
      go_wp2_with fail
      refine (build_at ba j bc ss.reverse B1 FA hh FD NF wr HNF.out HRB.out (kat_below HKW.out HB_4.out) HRB2.out HFL.out).mono ?_
      rintro e u4 ⟨ra, rc, rfl, hrd, hnil, hb4⟩
      have RR_5 := hide hrd
      clear hrd
      have RF_5 := hide (RF_4.out.below hb4)
      have BF_5 := hide (BF_4.out.below hb4)
      have HB_5 := hide (below_trans HB_4.out hb4)
      clear RF_4 BF_4 HB_4 hb4
      clear hnil HRB2 HOB
      obtain ⟨u5, pBR, eBR, sBR, BR_6, hbBR, _⟩ := laid_new (Below.refl u4.heap.size u4) FA hh (.slice ra NF rc)
      have RF_6 := hide (RF_5.out.below hbBR.out)
      have BF_6 := hide (BF_5.out.below hbBR.out)
      have RR_6 := hide (RR_5.out.below hbBR.out)
      have HB_6 := hide (below_trans HB_5.out hbBR.out)
      clear RF_5 BF_5 RR_5 HB_5
      clear hbBR
      have x0 := BF_6.out.c0
      have x1 := BF_6.out.c1
      have x2 := BF_6.out.c2
      have x3 := BR_6.out.c0
      have x4 := BR_6.out.c1
      have x5 := BR_6.out.c2
      go_wp2_with fail
      have HAL : Hid (∀ W, Below u5.heap.size u5 W → Calls Tryd.prog 12 #[.agg #[.bool FA, .int .i64 (hh : Int), .slice fa NF fc], .agg #[.bool FA, .int .i64 (hh : Int), .slice ra NF rc]] W fun e w' => e = .returned (.bool true) ∧ Below u5.heap.size u5 w') := fun W hW =>
        (alike_eq FA hh fa ra NF fc NF rc FD W (RF_6.out.below hW) (RR_6.out.below hW)).mono fun e w' ⟨h1, h2⟩ => ⟨h1, hW.trans (h2.mono hW.size)⟩
      have HON : Hid (∀ W, Below u5.heap.size u5 W → Calls Tryd.prog 17 #[.slice fa NF fc] W fun e w' => e = .returned (.int .i64 (O : Int)) ∧ Below u5.heap.size u5 w') := fun W hW =>
        (ones_any fa NF fc FD W (RF_6.out.below hW) hnfl).mono fun e w' ⟨h1, h2⟩ => ⟨by rw [h1, HO.out], hW.trans (h2.mono hW.size)⟩
      have HCK : Hid (∀ W, Below u5.heap.size u5 W → Calls Tryd.prog 18 #[.agg #[.bool FA, .int .i64 (hh : Int), .slice fa NF fc]] W fun e w' => e = .returned (.int .i64 0) ∧ Below u5.heap.size u5 w') := fun W hW =>
        (check_any FA hh fa NF fc W (kat_below HKW.out (below_trans HB_6.out hW)) (by omega)).mono fun e w' ⟨h1, h2⟩ => ⟨by rw [h1, HFK.out], hW.trans (h2.mono hW.size)⟩
      have HSIX : Hid (∀ W, Below u5.heap.size u5 W → W.cell? ⟨pBF, 0, none⟩ = some (.bool FA) ∧ W.cell? ⟨pBF, 1, none⟩ = some (.int .i64 (hh : Int)) ∧ W.cell? ⟨pBF, 2, none⟩ = some (.slice fa NF fc) ∧ W.cell? ⟨pBR, 0, none⟩ = some (.bool FA) ∧ W.cell? ⟨pBR, 1, none⟩ = some (.int .i64 (hh : Int)) ∧ W.cell? ⟨pBR, 2, none⟩ = some (.slice ra NF rc)) := fun W hW =>
        ⟨(BF_6.out.below hW).c0, (BF_6.out.below hW).c1, (BF_6.out.below hW).c2, (BR_6.out.below hW).c0, (BR_6.out.below hW).c1, (BR_6.out.below hW).c2⟩
      go_region_held (fun V => V.cell? ⟨pBF, 0, none⟩ = some (.bool FA) ∧ V.cell? ⟨pBF, 1, none⟩ = some (.int .i64 (hh : Int)) ∧ V.cell? ⟨pBF, 2, none⟩ = some (.slice fa NF fc) ∧ V.cell? ⟨pBR, 0, none⟩ = some (.bool FA) ∧ V.cell? ⟨pBR, 1, none⟩ = some (.int .i64 (hh : Int)) ∧ V.cell? ⟨pBR, 2, none⟩ = some (.slice ra NF rc)) (first | go_keep | exact E6.out | exact E7.out | exact E8.out) (first
        | (go_at_call 12; refine (HAL.out _ ((Below.refl _ _).drew)).mono ?_; rintro e x6 ⟨rfl, hb6⟩; have HB6 := hide hb6; have E6 := hide (HSIX.out _ hb6); clear hb6)
        | (go_at_call 17; refine (HON.out _ HB6.out).mono ?_; rintro e x7 ⟨rfl, hb7⟩; have HB7 := hide hb7; have E7 := hide (HSIX.out _ hb7); clear hb7)
        | (go_at_call 18; refine (HCK.out _ HB7.out).mono ?_; rintro e x8 ⟨rfl, hb8⟩; have HB8 := hide hb8; have E8 := hide (HSIX.out _ hb8); clear hb8))
      have RF_7 := hide (RF_6.out.below HB8.out)
      have BF_7 := hide (BF_6.out.below HB8.out)
      have RR_7 := hide (RR_6.out.below HB8.out)
      have BR_7 := hide (BR_6.out.below HB8.out)
      have HB_7 := hide (below_trans HB_6.out HB8.out)
      clear RF_6 BF_6 RR_6 BR_6 HB_6 x0 x1 x2 x3 x4 x5
      clear HAL HON HCK HSIX
      go_wp2_with fail
      refine (build_at a0 n cap0 (ss.take n) B1 XA XH XD NX x8 HNX.out HXB.out (kat_below HKW.out HB_7.out) ((RS.out.below HB_7.out).cut n hn0) HXL.out).mono ?_
      rintro e u9 ⟨xa, xc, rfl, hrd, hnil, hb9⟩
      have RX_8 := hide hrd
      clear hrd
      have RF_8 := hide (RF_7.out.below hb9)
      have BF_8 := hide (BF_7.out.below hb9)
      have RR_8 := hide (RR_7.out.below hb9)
      have BR_8 := hide (BR_7.out.below hb9)
      have HB_8 := hide (below_trans HB_7.out hb9)
      clear RF_7 BF_7 RR_7 BR_7 HB_7 hb9
      have HXN := hide hnil
      clear hnil
      obtain ⟨u10, pBX, eBX, sBX, BX_9, hbBX, _⟩ := laid_new (Below.refl u9.heap.size u9) XA XH (.slice xa NX xc)
      have RF_9 := hide (RF_8.out.below hbBX.out)
      have BF_9 := hide (BF_8.out.below hbBX.out)
      have RR_9 := hide (RR_8.out.below hbBX.out)
      have BR_9 := hide (BR_8.out.below hbBX.out)
      have RX_9 := hide (RX_8.out.below hbBX.out)
      have HB_9 := hide (below_trans HB_8.out hbBX.out)
      clear RF_8 BF_8 RR_8 BR_8 RX_8 HB_8
      clear hbBX
      go_wp2_with fail
      refine (build_at a2 n cap2 (ts.take n) B1 XA XH YD NX u10 HNY.out HYB.out (kat_below HKW.out HB_9.out) ((RT.out.below HB_9.out).cut n hn2) HYL.out).mono ?_
      rintro e u11 ⟨ya, yc, rfl, hrd, hnil, hb11⟩
      have RY_10 := hide hrd
      clear hrd
      have RF_10 := hide (RF_9.out.below hb11)
      have BF_10 := hide (BF_9.out.below hb11)
      have RR_10 := hide (RR_9.out.below hb11)
      have BR_10 := hide (BR_9.out.below hb11)
      have RX_10 := hide (RX_9.out.below hb11)
      have BX_10 := hide (BX_9.out.below hb11)
      have HB_10 := hide (below_trans HB_9.out hb11)
      clear RF_9 BF_9 RR_9 BR_9 RX_9 BX_9 HB_9 hb11
      have HYN := hide hnil
      clear hnil
      obtain ⟨u12, pBY, eBY, sBY, BY_11, hbBY, _⟩ := laid_new (Below.refl u11.heap.size u11) XA XH (.slice ya NX yc)
      have RF_11 := hide (RF_10.out.below hbBY.out)
      have BF_11 := hide (BF_10.out.below hbBY.out)
      have RR_11 := hide (RR_10.out.below hbBY.out)
      have BR_11 := hide (BR_10.out.below hbBY.out)
      have RX_11 := hide (RX_10.out.below hbBY.out)
      have BX_11 := hide (BX_10.out.below hbBY.out)
      have RY_11 := hide (RY_10.out.below hbBY.out)
      have HB_11 := hide (below_trans HB_10.out hbBY.out)
      clear RF_10 BF_10 RR_10 BR_10 RX_10 BX_10 RY_10 HB_10
      clear hbBY
      have x0 := BX_11.out.c0
      have x1 := BX_11.out.c1
      have x2 := BX_11.out.c2
      have x3 := BY_11.out.c0
      have x4 := BY_11.out.c1
      have x5 := BY_11.out.c2
      go_wp2_with fail
      refine (join_to XA XH xa NX xc XD XA XH ya NX yc YD XA XH ZD 0 NX u12 HNZ.out HZL.out HPJ.out (kat_below HKW.out HB_11.out) (jat_below HJW.out HB_11.out) RX_11.out RY_11.out HXN.out HYN.out).mono ?_
      rintro e u13 ⟨za, zc, rfl, hrd, hnil, hb13⟩
      have RZ_12 := hide hrd
      clear hrd
      have RF_12 := hide (RF_11.out.below hb13)
      have BF_12 := hide (BF_11.out.below hb13)
      have RR_12 := hide (RR_11.out.below hb13)
      have BR_12 := hide (BR_11.out.below hb13)
      have RX_12 := hide (RX_11.out.below hb13)
      have BX_12 := hide (BX_11.out.below hb13)
      have RY_12 := hide (RY_11.out.below hb13)
      have BY_12 := hide (BY_11.out.below hb13)
      have HB_12 := hide (below_trans HB_11.out hb13)
      clear RF_11 BF_11 RR_11 BR_11 RX_11 BX_11 RY_11 BY_11 HB_11 x0 x1 x2 x3 x4 x5 hb13
      clear hnil
      obtain ⟨u14, pBZ, eBZ, sBZ, BZ_13, hbBZ, _⟩ := laid_new (Below.refl u13.heap.size u13) XA XH (.slice za NX zc)
      have RF_13 := hide (RF_12.out.below hbBZ.out)
      have BF_13 := hide (BF_12.out.below hbBZ.out)
      have RR_13 := hide (RR_12.out.below hbBZ.out)
      have BR_13 := hide (BR_12.out.below hbBZ.out)
      have RX_13 := hide (RX_12.out.below hbBZ.out)
      have BX_13 := hide (BX_12.out.below hbBZ.out)
      have RY_13 := hide (RY_12.out.below hbBZ.out)
      have BY_13 := hide (BY_12.out.below hbBZ.out)
      have RZ_13 := hide (RZ_12.out.below hbBZ.out)
      have HB_13 := hide (below_trans HB_12.out hbBZ.out)
      clear RF_12 BF_12 RR_12 BR_12 RX_12 BX_12 RY_12 BY_12 RZ_12 HB_12
      clear hbBZ
      have x0 := BX_13.out.c0
      have x1 := BX_13.out.c1
      have x2 := BX_13.out.c2
      have x3 := BY_13.out.c0
      have x4 := BY_13.out.c1
      have x5 := BY_13.out.c2
      have x6 := BZ_13.out.c0
      have x7 := BZ_13.out.c1
      have x8 := BZ_13.out.c2
      have nx : ((NX : Int) != (NX : Int)) = false := by simp
      go_wp2_with fail
      clear x0 x1 x2 x3 x4 x5 x6 x7 x8
      go_loopw [21] (fun i wr => ∃ k : Nat, k ≤ NX ∧ i = .int .i64 (k : Int) ∧ Hid (Below u14.heap.size u14 wr)) (fun i _ => NX - (intOf i).toNat)
      case atStart => exact ⟨0, Nat.zero_le _, rfl, Below.refl _ _⟩
      case round =>
        obtain ⟨k, hk, rfl, HBL⟩ := hrel
        have bz := (BZ_13.out.below HBL.out).c2
        have bx := (BX_13.out.below HBL.out).c2
        have b_y := (BY_13.out.below HBL.out).c2
        by_cases hlt : k < NX
        · have hki : (k : Int) < (NX : Int) := by omega
          obtain ⟨zb, zo, rfl, _, hcz⟩ := (RZ_13.out.below HBL.out).2.2 (by omega)
          obtain ⟨xb, xo, rfl, _, hcx⟩ := (RX_13.out.below HBL.out).2.2 (by omega)
          obtain ⟨yb, yo, rfl, _, hcy⟩ := (RY_13.out.below HBL.out).2.2 (by omega)
          have gz := hcz k hlt
          have gx := hcx k hlt
          have gy := hcy k hlt
          have hor := or8 (XD.getD k 0) (YD.getD k 0)
          rw [← HOG.out k hlt] at hor
          generalize ZD.getD k 0 = zz at gz hor
          generalize XD.getD k 0 = xx at gx hor
          generalize YD.getD k 0 = yy at gy hor
          have hne : ((zz.toNat : Int) != (zz.toNat : Int)) = false := by simp
          clear hcz hcx hcy
          go_wp2_with fail
          go_quiet (fail)
          go_wp2_with fail
          go_roundw
          case rel => exact ⟨k + 1, by omega, by go_num, below_trans HBL.out (below_drewN' _ _ _)⟩
          case measure => (simp [intOf] <;> omega)
        · have hkx : k = NX := by omega
          subst hkx
          have hki : ¬ (k : Int) < (k : Int) := by omega
          go_wp2_with fail
          have RF_14 := hide (RF_13.out.below HBL.out)
          have BF_14 := hide (BF_13.out.below HBL.out)
          have RR_14 := hide (RR_13.out.below HBL.out)
          have BR_14 := hide (BR_13.out.below HBL.out)
          have RX_14 := hide (RX_13.out.below HBL.out)
          have BX_14 := hide (BX_13.out.below HBL.out)
          have RY_14 := hide (RY_13.out.below HBL.out)
          have BY_14 := hide (BY_13.out.below HBL.out)
          have RZ_14 := hide (RZ_13.out.below HBL.out)
          have BZ_14 := hide (BZ_13.out.below HBL.out)
          have HB_14 := hide (below_trans HB_13.out HBL.out)
          clear RF_13 BF_13 RR_13 BR_13 RX_13 BX_13 RY_13 BY_13 RZ_13 BZ_13 HB_13
          clear bz bx b_y
          have HBN := hide (build_at none 0 0 [] B1 false 0 [] 0 wr rfl HNB.out (kat_below HKW.out HB_14.out) (rds_nil _) (by simp))
          refine (HBN.out).mono ?_
          rintro e u15 ⟨na, nc, rfl, hrd, hnil, hb15⟩
          have RF_15 := hide (RF_14.out.below hb15)
          have BF_15 := hide (BF_14.out.below hb15)
          have RR_15 := hide (RR_14.out.below hb15)
          have BR_15 := hide (BR_14.out.below hb15)
          have RX_15 := hide (RX_14.out.below hb15)
          have BX_15 := hide (BX_14.out.below hb15)
          have RY_15 := hide (RY_14.out.below hb15)
          have BY_15 := hide (BY_14.out.below hb15)
          have RZ_15 := hide (RZ_14.out.below hb15)
          have BZ_15 := hide (BZ_14.out.below hb15)
          have HB_15 := hide (below_trans HB_14.out hb15)
          clear RF_14 BF_14 RR_14 BR_14 RX_14 BX_14 RY_14 BY_14 RZ_14 BZ_14 HB_14 hb15
          clear hrd hnil HBN
          obtain ⟨u16, pBN, eBN, sBN, BN_16, hbBN, _⟩ := laid_new (Below.refl u15.heap.size u15) false 0 (.slice na 0 nc)
          have RF_16 := hide (RF_15.out.below hbBN.out)
          have BF_16 := hide (BF_15.out.below hbBN.out)
          have RR_16 := hide (RR_15.out.below hbBN.out)
          have BR_16 := hide (BR_15.out.below hbBN.out)
          have RX_16 := hide (RX_15.out.below hbBN.out)
          have BX_16 := hide (BX_15.out.below hbBN.out)
          have RY_16 := hide (RY_15.out.below hbBN.out)
          have BY_16 := hide (BY_15.out.below hbBN.out)
          have RZ_16 := hide (RZ_15.out.below hbBN.out)
          have BZ_16 := hide (BZ_15.out.below hbBN.out)
          have HB_16 := hide (below_trans HB_15.out hbBN.out)
          clear RF_15 BF_15 RR_15 BR_15 RX_15 BX_15 RY_15 BY_15 RZ_15 BZ_15 HB_15
          clear hbBN
          go_wp2_with fail
          have hl2i : (len2 : Int) ≤ 8796093021952 := by omega
          go_loopw [24] (fun i wy => ∃ q : Nat, q ≤ len2 ∧ i = .int .i64 (q : Int) ∧ Hid (Below u16.heap.size u16 wy)) (fun i _ => len2 - (intOf i).toNat)
          case atStart => exact ⟨0, Nat.zero_le _, rfl, Below.refl _ _⟩
          case round =>
            obtain ⟨q, hq, rfl, HBM⟩ := hrel
            by_cases hlt : q < len2
            · have hqi : (q : Int) < (len2 : Int) := by omega
              have HRq := hide (RT.out.below (below_trans HB_16.out HBM.out))
              obtain ⟨tb, toff, rfl, htb, hcell⟩ := HRq.out.2.2.2 (by omega)
              have tc := hcell q hlt
              have HTZ := hide (HRq.out.2.2.1 _ (getS_mem (i := q) (by rw [HLT.out]; exact hlt)))
              have HTL : Hid (tb < wr.heap.size) := htb
              generalize ts.getD q ⟨#[]⟩ = tq at tc HTZ
              clear hcell htb
              have HNr := hide (BN_16.out.below HBM.out)
              have nb0 := HNr.out.c0
              have nb1 := HNr.out.c1
              have nb2 := HNr.out.c2
              have HHC : Hid (∀ W, Below wr.heap.size wr W → Calls Tryd.prog 19 #[.agg #[.bool false, .int .i64 0, .slice na 0 nc], .string tq] W fun e w' => e = .returned (.bool false) ∧ Below wr.heap.size wr w') := fun W hW =>
                (has_any false 0 na 0 nc [] tq W (kat_below HKW.out (below_trans (below_trans HB_16.out HBM.out) hW)) (rd_zero _ _) (by omega) HTZ.out).mono fun e w' ⟨h1, h2⟩ => ⟨by rw [h1, has_none], hW.trans (h2.mono hW.size)⟩
              have HTC := hide tc
              go_wp2_with fail
              go_region_held (fun V => V.cell? ⟨pBN, 0, none⟩ = some (.bool false) ∧ V.cell? ⟨pBN, 1, none⟩ = some (.int .i64 0) ∧ V.cell? ⟨pBN, 2, none⟩ = some (.slice na 0 nc) ∧ V.cell? ⟨tb, toff + q, none⟩ = some (.string tq)) (first | go_keep | exact E8.out) (first
                | (go_at_call 19; refine (HHC.out _ ((Below.refl _ _).drew)).mono ?_; rintro e y6 ⟨rfl, hb6⟩; have HB6 := hide hb6; have E8 := hide (And.intro (HNr.out.below hb6).c0 (And.intro (HNr.out.below hb6).c1 (And.intro (HNr.out.below hb6).c2 ((hb6.cell (p := ⟨tb, toff + q, none⟩) HTL.out).trans HTC.out)))); clear hb6))
              all_goals
                go_wp2_with fail
                go_roundw
                case rel => exact ⟨q + 1, by omega, by go_num, below_trans HBM.out HB6.out⟩
                case measure => (simp [intOf] <;> omega)
            · have hql : q = len2 := by omega
              subst hql
              have hqi : ¬ (q : Int) < (q : Int) := by omega
              have HBZ := hide (below_trans HB_16.out HBM.out)
              go_wp2_with fail
              refine (works_any wr (kat_below HKW.out HBZ.out)).mono ?_
              rintro e v9 ⟨rfl, hb9⟩
              have HB9 := hide (below_trans HBZ.out hb9)
              clear hb9
              go_wp2_with fail
              go_ret
              exact ⟨rfl, HB9.out⟩
end Go.Proofs.YtpdlpahpefojbaaDoor.filterFew
