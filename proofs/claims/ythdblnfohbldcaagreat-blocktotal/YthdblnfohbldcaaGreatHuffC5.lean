/-
  Codes, of any lengths.
-/
import Derived.Test.YthdblnfohbldcaaGreatHuffC5m
namespace Go.Proofs.YthdblnfohbldcaaGreat.Huff
open Go.ChangeShapes Go.WideShapes Go.ChangeAt Go.RowKit
open Go.Proofs.YthdblnfohbldcaaGreat.Base
set_option linter.unusedVariables false
set_option maxHeartbeats 1000000 in
set_option maxRecDepth 100000 in
theorem codes_any (a : Option Addr) (len cap : Nat) (ls : List Int) (w : World) (hr : RdI w a len ls) :
    Calls Tryz.prog 54 #[.slice a len cap] w fun e w' => ∃ v, e = .returned (.tuple #[v, .int .i64 (coded ls).2]) ∧ OwnC w' w.heap.size v (coded ls).1 ∧ Below w.heap.size w w' := by
  have HL := hide hr.1
  have HR := hide hr
  have hm := hr.2.1
  clear hr
  by_cases h1 : 256 < len
  · have e : coded ls = ([], 2) := by unfold coded; rw [if_pos (by rw [HL.out]; exact h1)]
    rw [e]
    have h1i : (256 : Int) < (len : Int) := by omega
    go_enter Tryz.func54, Tryz.ntmps54
    go_wp2_with fail
    go_ret2
    exact ⟨_, rfl, ownC_none _ _, Below.refl _ _⟩
  have h1i : ¬ (256 : Int) < (len : Int) := by omega
  have HA := hide (areLengths_any a len cap ls w HR.out)
  cases hA : allIn 15 ls with
  | false =>
    have e : coded ls = ([], 3) := by unfold coded; rw [if_neg (by rw [HL.out]; exact h1), if_pos hA]
    rw [e]
    rw [hA] at HA
    clear hA e
    go_enter Tryz.func54, Tryz.ntmps54
    go_wp2_with fail
    refine HA.out.mono ?_
    rintro e w1 ⟨rfl, rfl⟩
    go_wp2_with fail
    go_ret2
    exact ⟨_, rfl, ownC_none _ _, Below.refl _ _⟩
  | true =>
  rw [hA] at HA
  have HAT := hide hA
  have HE : Hid (coded ls = if right ls = true then (codesOf ls, 0) else ([], 41)) := by
    show _ = _
    unfold coded; rw [if_neg (by rw [HL.out]; exact h1), if_neg (by rw [hA]; decide)]
  clear hA
  rw [HE.out]
  have HNW := hide (fun wx h => newWords_any a len cap ls wx h (by omega) HAT.out)
  obtain ⟨R, hR⟩ : ∃ R, right ls = R := ⟨_, rfl⟩
  rw [hR] at HNW ⊢
  have HCO : Hid ((if R = true then (codesOf ls, (0 : Int)) else ([], 41)) = if R = true then (codesOf ls, (0 : Int)) else ([], 41)) := rfl
  cases R with
  | false =>
    rw [if_neg (by decide)]
    clear hR HCO
    go_enter Tryz.func54, Tryz.ntmps54
    go_wp2_with fail
    refine HA.out.mono ?_
    rintro e w1 ⟨rfl, rfl⟩
    go_wp2_with fail
    refine (HNW.out w1 HR.out).mono ?_
    rintro e w2 ⟨rfl, hb2⟩
    have HB2 := hide hb2
    have HRd2 := hide (HR.out.below hb2)
    have HLW := hide (wordsOf_len ls)
    have HN : Hid (RowI 81 (w2.alloc (.cells Z48 81)) w2.heap.size (List.replicate 48 0)) := rowi_new _ _ _
    have HRS : Hid (RowI 81 ((w2.alloc (.cells Z48 81)).setCells w2.heap.size 0 (ivals (wordsOf ls))) w2.heap.size (wordsOf ls)) := row_setAll HN.out (by rw [List.length_replicate, HLW.out])
    have HONE := hide (ivals_one (wordsOf ls))
    have HBA : Hid (Below w1.heap.size w1 ((w2.alloc (.cells Z48 81)).setCells w2.heap.size 0 (ivals (wordsOf ls)))) :=
      (HB2.out.alloc HB2.out.size _).grown (setCells_grown _ _ _ (World.grownBy.refl _ _)) (HB2.out.alloc HB2.out.size _).size (fun i e => by cases e; exact HB2.out.size)
    have HTH : Hid ((w2.alloc (.cells Z48 81)).there w2.heap.size 0 (ivals (wordsOf ls)).toArray.size) := hide (by
      have e48 : (ivals (wordsOf ls)).toArray.size = 48 := by rw [List.size_toArray, length_ivals, HLW.out]
      rw [e48]
      exact row_there HN.out 0 48 (by rw [List.length_replicate]; omega))
    have I2 : Hid ((Tryz.prog.info? 81).map (·.size) = some (ivals (wordsOf ls)).toArray.size) := by show _ = _; rw [List.size_toArray, length_ivals, HLW.out]; exact info48
    have HSZ : Hid (w2.heap.size < ((w2.alloc (.cells Z48 81)).setCells w2.heap.size 0 (ivals (wordsOf ls))).heap.size) := HRS.out.lt
    obtain ⟨V, hV⟩ : ∃ V, ivals (wordsOf ls) = V := ⟨_, rfl⟩
    rw [hV] at HRS HONE HBA HTH I2 HSZ ⊢
    obtain ⟨w3, hw3⟩ : ∃ w3, (w2.alloc (.cells Z48 81)).setCells w2.heap.size 0 V = w3 := ⟨_, rfl⟩
    have HW3 := hide hw3
    rw [hw3] at HRS HBA HSZ
    have HRd3 : Hid (RdI w3 a len ls) := HR.out.below HBA.out
    clear hb2 hV hw3 HRd2
    go_wp2_with (refine wpList_store_mid rfl 81 (.tmp 4) (.tmp 19) rfl w2.heap.size 0 V.toArray rfl rfl HTH.out I2.out (all_oneCell_toArray HONE.out) ?_
                 rw [z48, List.toList_toArray, HW3.out])
    go_ret2
    exact ⟨_, rfl, ownC_none _ _, HBA.out⟩
  | true =>
  rw [if_pos rfl]
  clear hR HCO
  go_enter Tryz.func54, Tryz.ntmps54
  go_wp2_with fail
  refine HA.out.mono ?_
  rintro e w1 ⟨rfl, rfl⟩
  go_wp2_with fail
  refine (HNW.out w1 HR.out).mono ?_
  rintro e w2 ⟨rfl, hb2⟩
  have HB2 := hide hb2
  have HRd2 := hide (HR.out.below hb2)
  have HLW := hide (wordsOf_len ls)
  have HN : Hid (RowI 81 (w2.alloc (.cells Z48 81)) w2.heap.size (List.replicate 48 0)) := rowi_new _ _ _
  have HRS : Hid (RowI 81 ((w2.alloc (.cells Z48 81)).setCells w2.heap.size 0 (ivals (wordsOf ls))) w2.heap.size (wordsOf ls)) := row_setAll HN.out (by rw [List.length_replicate, HLW.out])
  have HONE := hide (ivals_one (wordsOf ls))
  have HBA : Hid (Below w1.heap.size w1 ((w2.alloc (.cells Z48 81)).setCells w2.heap.size 0 (ivals (wordsOf ls)))) :=
    (HB2.out.alloc HB2.out.size _).grown (setCells_grown _ _ _ (World.grownBy.refl _ _)) (HB2.out.alloc HB2.out.size _).size (fun i e => by cases e; exact HB2.out.size)
  have HTH : Hid ((w2.alloc (.cells Z48 81)).there w2.heap.size 0 (ivals (wordsOf ls)).toArray.size) := hide (by
    have e48 : (ivals (wordsOf ls)).toArray.size = 48 := by rw [List.size_toArray, length_ivals, HLW.out]
    rw [e48]
    exact row_there HN.out 0 48 (by rw [List.length_replicate]; omega))
  have I2 : Hid ((Tryz.prog.info? 81).map (·.size) = some (ivals (wordsOf ls)).toArray.size) := by show _ = _; rw [List.size_toArray, length_ivals, HLW.out]; exact info48
  have HSZ : Hid (w2.heap.size < ((w2.alloc (.cells Z48 81)).setCells w2.heap.size 0 (ivals (wordsOf ls))).heap.size) := HRS.out.lt
  obtain ⟨V, hV⟩ : ∃ V, ivals (wordsOf ls) = V := ⟨_, rfl⟩
  rw [hV] at HRS HONE HBA HTH I2 HSZ ⊢
  obtain ⟨w3, hw3⟩ : ∃ w3, (w2.alloc (.cells Z48 81)).setCells w2.heap.size 0 V = w3 := ⟨_, rfl⟩
  have HW3 := hide hw3
  rw [hw3] at HRS HBA HSZ
  have HRd3 : Hid (RdI w3 a len ls) := HR.out.below HBA.out
  clear hb2 hV hw3 HRd2
  go_upto_region 6 with (refine wpList_store_mid rfl 81 (.tmp 4) (.tmp 19) rfl w2.heap.size 0 V.toArray rfl rfl HTH.out I2.out (all_oneCell_toArray HONE.out) ?_
                         rw [z48, List.toList_toArray, HW3.out])
  obtain ⟨gw, hgw⟩ : ∃ gw, w2.heap.size = gw := ⟨_, rfl⟩
  rw [hgw] at HRS HSZ ⊢
  have HGW : Hid (w1.heap.size ≤ gw) := by rw [← hgw]; exact HB2.out.size
  clear HN HTH HW3 I2 HONE hgw HB2
  have HNL : Hid ((((wordsOf ls).drop 16).take 16).length = 16) := by show _ = _; rw [List.length_take, List.length_drop, HLW.out]; rfl
  have HRGa : Hid (w3.rangeAt gw 16 (ivals (((wordsOf ls).drop 16).take 16))) := row_range HRS.out 16 16 (by rw [HLW.out]; omega)
  have HRGb : Hid ((w3.alloc (.cells Z16 79)).rangeAt gw 16 (ivals (((wordsOf ls).drop 16).take 16))) := World.rangeAt_alloc HRGa.out _
  have HN0 : Hid (RowI 79 (w3.alloc (.cells Z16 79)) w3.heap.size (List.replicate 16 0)) := rowi_new _ _ _
  have HNX : Hid (RowI 79 ((w3.alloc (.cells Z16 79)).setCells w3.heap.size 0 (ivals (((wordsOf ls).drop 16).take 16))) w3.heap.size (((wordsOf ls).drop 16).take 16)) := row_setAll HN0.out (by rw [List.length_replicate, HNL.out])
  have HONE := hide (ivals_one (((wordsOf ls).drop 16).take 16))
  have HBB : Hid (Below w1.heap.size w1 ((w3.alloc (.cells Z16 79)).setCells w3.heap.size 0 (ivals (((wordsOf ls).drop 16).take 16)))) :=
    (HBA.out.alloc HBA.out.size _).grown (setCells_grown _ _ _ (World.grownBy.refl _ _)) (HBA.out.alloc HBA.out.size _).size (fun i e => by cases e; exact HBA.out.size)
  have HTH : Hid ((w3.alloc (.cells Z16 79)).there w3.heap.size 0 (ivals (((wordsOf ls).drop 16).take 16)).toArray.size) := hide (by
    have e16 : (ivals (((wordsOf ls).drop 16).take 16)).toArray.size = 16 := by rw [List.size_toArray, length_ivals, HNL.out]
    rw [e16]
    exact row_there HN0.out 0 16 (by rw [List.length_replicate]; omega))
  have I1 : Hid ((Tryz.prog.info? 79).map (·.size) = some (ivals (((wordsOf ls).drop 16).take 16)).length) := by show _ = _; rw [length_ivals, HNL.out]; exact info16
  have I2 : Hid ((Tryz.prog.info? 79).map (·.size) = some (ivals (((wordsOf ls).drop 16).take 16)).toArray.size) := by show _ = _; rw [List.size_toArray, length_ivals, HNL.out]; exact info16
  have HNA := hide (nextAt_zero ls)
  have u16 := Tryz.underlying79
  generalize ((wordsOf ls).drop 16).take 16 = NX at HNL HRGa HRGb HNX HONE HBB HTH I1 I2 HNA
  obtain ⟨V2, hV2⟩ : ∃ V2, ivals NX = V2 := ⟨_, rfl⟩
  rw [hV2] at HRGa HRGb HNX HONE HBB HTH I1 I2
  obtain ⟨w4, hw4⟩ : ∃ w4, (w3.alloc (.cells Z16 79)).setCells w3.heap.size 0 V2 = w4 := ⟨_, rfl⟩
  have HW4 := hide hw4
  rw [hw4] at HNX HBB
  have HGN : Hid (gw < w3.heap.size) := HSZ.out
  clear hV2 hw4
  obtain ⟨i0, hi, hz0, hz1, hz2⟩ := info_parts infoC
  have hs4 : w1.heap.size ≤ w4.heap.size := HBB.out.size
  go_wp2_with (first
    | (refine wpList_load_mid rfl 79 (.tmp 23) rfl gw 16 rfl V2 _ (by first | exact HRGb.out | exact HRGa.out) u16 rfl I1.out ?_)
    | (refine wpList_store_mid rfl 79 (.tmp 6) (.tmp 24) rfl w3.heap.size 0 V2.toArray rfl rfl HTH.out I2.out (all_oneCell_toArray HONE.out) ?_
       rw [z16, List.toList_toArray, HW4.out])
    | (at_make; refine wpList_make_full _ rfl _ _ 99 rfl w1.heap.size 163 i0 (.agg #[.int .i64 0, .int .u32 0]) 2 Tryz.underlying99 hi hz0 hz1 .i64 .i64 _ _ len rfl rfl rfl rfl (by rw [hz2]; omega) (by unfold maxLen; omega) hs4 ?_
       intro w5 hown hgrow))
  have HC0 : Hid (OwnC w5 w1.heap.size (.slice (some ⟨w4.heap.size, 0, none⟩) len len) (codesTo ls 0)) := by
    show OwnC _ _ _ _
    rw [codesTo_zero, HL.out]
    exact ownC_zero hown
  have HN5 : Hid (RowI 79 w5 w3.heap.size NX) := HNX.out.grown hgrow (by simp)
  have HB5 : Hid (Below w1.heap.size w1 w5) := HBB.out.grown hgrow hs4 (fun i e => by cases e)
  have HGC : Hid (w3.heap.size < w4.heap.size) := HNX.out.lt
  have HCN := hide HR.out.2.2
  have HIN := hide (fun k h => allIn_get HAT.out k h)
  obtain ⟨gn, hgn⟩ : ∃ gn, w3.heap.size = gn := ⟨_, rfl⟩
  obtain ⟨gc, hgc⟩ : ∃ gc, w4.heap.size = gc := ⟨_, rfl⟩
  have HLO : Hid (w1.heap.size ≤ gn ∧ w1.heap.size ≤ gc) := by rw [← hgn, ← hgc]; exact ⟨HBA.out.size, hs4⟩
  rw [hgn] at HN5 HGC ⊢
  rw [hgc] at HC0 HGC ⊢
  clear hown hgrow hgn hgc HNX HBB HN0 HTH HW4 HRGa HRGb HONE I1 I2 hi hz0 hz1 hz2 HBA HSZ HRS hs4 u16
  go_loopw [30] (fun i wr => ∃ (k : Nat) (NX : List Int), k ≤ len ∧ i = .int .i64 (k : Int) ∧ Hid (NextAt ls NX k) ∧ Hid (RowI 79 wr gn NX) ∧ Hid (OwnC wr w1.heap.size (.slice (some ⟨gc, 0, none⟩) len len) (codesTo ls k)) ∧ Hid (Below w1.heap.size w1 wr)) (fun i _ => len - (intOf i).toNat)
  case atStart => exact ⟨0, NX, Nat.zero_le _, rfl, HNA, HN5, HC0, HB5⟩
  case round =>
    clear HNA HN5 HC0 HB5 HNL
    obtain ⟨k, NX, hk, rfl, HNA, HNR, HOC, HB⟩ := hrel
    by_cases hlt : k < len
    · obtain ⟨b1, o1, rfl, hb1, hc1⟩ := unhide HCN (by omega)
      have g1 := hc1 k hlt
      have hx := HIN.out k (by have := HL.out; omega)
      rw [← HB.out.cell (p := ⟨b1, o1 + k, none⟩) hb1] at g1
      clear hc1
      have hki : (k : Int) < (len : Int) := by omega
      obtain ⟨x, hxe⟩ : ∃ x, ls.getD k 0 = x := ⟨_, rfl⟩
      rw [hxe] at g1 hx
      by_cases hp : 0 < x
      · obtain ⟨q, hq⟩ : ∃ q : Nat, x = (q : Int) := ⟨x.toNat, by omega⟩
        subst hq
        have HNI := hide (nextAt_inc HNA.out hxe (by omega) (by omega))
        have g2 := HNR.out.cell q (by rw [HNA.out.1]; omega)
        rw [HNA.out.2 q (by omega) (by omega)] at g2
        have f2 := HNR.out.frozen q
        have hcl := cnt_le ls q k
        have hfl := first_le ls (by rw [HL.out]; omega) q
        have hpw : 512 * 2 ^ q ≤ 512 * 2 ^ 15 := Nat.mul_le_mul_left _ (Nat.pow_le_pow_right (by decide) (by omega))
        have HCA : Hid (codeAt ls k = ((q : Int), first ls q + cnt ls q k)) := by
          show _ = _
          unfold codeAt
          rw [hxe, if_neg (by omega), Int.toNat_natCast]
        have HCS := hide (codesTo_set ls k (by rw [HL.out]; exact hlt))
        rw [HCA.out] at HCS
        obtain ⟨U, hU⟩ : ∃ U, first ls q + cnt ls q k = U := ⟨_, rfl⟩
        rw [hU] at g2 HNI HCS
        have hUi : (U : Int) ≤ 16777472 := by omega
        obtain ⟨c1, c2⟩ := HOC.out.cells (by rw [codesTo_len, HL.out]) k hlt
        have f3 := HOC.out.frozen (by rw [codesTo_len, HL.out]) (k * 2)
        have f4 := HOC.out.frozen (by rw [codesTo_len, HL.out]) (k * 2 + 1)
        generalize ((codesTo ls k).getD k (0, 0)).1 = C1 at c1
        generalize ((codesTo ls k).getD k (0, 0)).2 = C2 at c2
        have HST := hide (HOC.out.store (by rw [codesTo_len, HL.out]) k (q : Int) U)
        rw [HCS.out] at HST
        have HBS : Hid (Below w1.heap.size w1 ((wr.setCell ⟨gc, k * 2, none⟩ (.int .i64 (q : Int))).setCell ⟨gc, k * 2 + 1, none⟩ (.int .u32 (U : Int)))) := (HB.out.setCell HLO.out.2 _).setCell HLO.out.2 _
        have hgne : gn ≠ gc := by have := HGC.out; omega
        have HG2 : Hid (wr.grownBy ((wr.setCell ⟨gc, k * 2, none⟩ (.int .i64 (q : Int))).setCell ⟨gc, k * 2 + 1, none⟩ (.int .u32 (U : Int))) (some gc)) := grown_cell (grown_cell (World.grownBy.refl _ _) _ _) _ _
        have HNS : Hid (RowI 79 ((wr.setCell ⟨gc, k * 2, none⟩ (.int .i64 (q : Int))).setCell ⟨gc, k * 2 + 1, none⟩ (.int .u32 (U : Int))) gn NX) := HNR.out.grown HG2.out (fun e => hgne (Option.some.inj e).symm)
        have g5 := HNS.out.cell q (by rw [HNA.out.1]; omega)
        rw [HNA.out.2 q (by omega) (by omega), hU] at g5
        have f5 := HNS.out.frozen q
        have hq1 : (q : Int) < 16 := by omega
        have hq0 : 0 < (q : Int) := hp
        clear hxe hx hp hcl hfl hpw hU HCA HCS
        go_wp2_with fail
        go_roundw
        case rel =>
          refine ⟨k + 1, _, by omega, by go_num, HNI, HNS.out.store q _, ?_, HBS.out.setCell HLO.out.1 _⟩
          exact ownC_keep HST.out (grown_cell (World.grownBy.refl _ _) _ _) (fun i e e2 => hgne (by have h1 := blk_eq e; have h2 := Option.some.inj e2; omega))
        case measure => simp [intOf]; omega
      · obtain rfl : x = 0 := by omega
        have HNI := hide (nextAt_skip HNA.out hxe)
        have HCI := hide (codesTo_skip ls k hxe)
        rw [HCI.out] at HOC
        clear hxe hx hp
        go_wp2_with fail
        go_roundw
        case rel => exact ⟨k + 1, NX, by omega, by go_num, HNI, HNR, HOC, HB⟩
        case measure => simp [intOf]; omega
    · obtain rfl : k = len := by omega
      have HOF : Hid (OwnC wr w1.heap.size (.slice (some ⟨gc, 0, none⟩) k k) (codesOf ls)) := by
        have h := HOC.out
        rw [← HL.out, codesTo_all, HL.out] at h
        exact h
      go_wp2_with fail
      go_ret2
      exact ⟨_, rfl, HOF.out, HB.out⟩
end Go.Proofs.YthdblnfohbldcaaGreat.Huff
