/-
  LinesSplits: the splits of any text, at any places, or the error; and again, when the same list holds other places.
-/
import Derived.Test.YtckfjhgnmegbhabLnSpl
import Derived.Test.YtckfjhgnmegbhabLinesCutsWalk
namespace Go.Proofs.Ytckfjhgnmegbhab.Ln
open Go.ChangeShapes Go.WideShapes Go.ChangeAt Go.RowKit
open Go.Proofs.Ytckfjhgnmegbhab.Base Go.Proofs.Ytckfjhgnmegbhab.Rf
set_option linter.unusedVariables false
set_option maxHeartbeats 8000000 in
set_option maxRecDepth 100000 in
theorem splitsWalk (T : ByteArray) (a : Option Addr) (len cap : Nat) (xs : List Int) (w : World) (hz : T.size ≤ 140737488351232) (hr : RdI w a len xs) (hlc : len ≤ cap) (hcm : cap ≤ 17592186043904) :
    Calls Try.prog 3 #[.string T, .slice a len cap] w fun e w' => e = .returned (.bool true) ∧ Below w.heap.size w w' := by
  have HXL := hide hr.1
  have HR := hide hr
  have HX1 : Hid ((bk1 xs).length = len) := (bk1_len xs).trans hr.1
  have HRO : Hid (∀ W, RdI W a len xs → Calls Try.prog 4 #[.slice a len cap] W fun e w' => e = .returned (.slice (some ⟨W.heap.size, 0, none⟩) (len + 64) (len + 64)) ∧ RowI 3 w' W.heap.size (xs ++ marksI) ∧ Below W.heap.size W w') := fun W h => roomy_any a len cap xs W h (by omega)
  have HCU : Hid (∀ (W : World) (b : Option Addr) (c : Nat) (ys : List Int), ys.length = len → RdI W b len ys → Calls Try.prog 5 #[.string T, .slice b len c] W fun e w' => ∃ v, e = .returned (.tuple #[v, .int .i64 (spErr T ys)]) ∧ OwnF w' W.heap.size 29 2 v (spN T ys) (xf T ys) ∧ Below W.heap.size W w') := fun W b c ys hy h => by
    have := splits_any T b c ys W (by omega) (by rw [hy]; exact h)
    rwa [hy] at this
  have HRC : Hid (∀ (W : World) (b : Option Addr) (c : Nat) (ys : List Int), ys.length = len → RdI W b len ys → Calls Try.prog 6 #[.string T, .slice b len c] W fun e w' => ∃ v, e = .returned (.tuple #[v, .int .i64 (spErr T ys)]) ∧ OwnF w' W.heap.size 29 2 v (spN T ys) (xf T ys) ∧ Below W.heap.size W w') := fun W b c ys hy h => by
    have := refSplits_any T b c ys W (by omega) (by rw [hy]; exact h)
    rwa [hy] at this
  have HC1 := hide (fun W b c => HCU.out W b c xs HXL.out)
  have HC2 := hide (fun W b c => HCU.out W b c (bk1 xs) HX1.out)
  have HQR1 := hide (fun W b c => HRC.out W b c xs HXL.out)
  have HQR2 := hide (fun W b c => HRC.out W b c (bk1 xs) HX1.out)
  have hNN := spN_le T xs
  have hMM := spN_le T (bk1 xs)
  obtain ⟨N, hN⟩ : ∃ N, spN T xs = N := ⟨_, rfl⟩
  obtain ⟨ER, hER⟩ : ∃ ER, spErr T xs = ER := ⟨_, rfl⟩
  obtain ⟨M, hM⟩ : ∃ M, spN T (bk1 xs) = M := ⟨_, rfl⟩
  obtain ⟨ES, hES⟩ : ∃ ES, spErr T (bk1 xs) = ES := ⟨_, rfl⟩
  rw [hN] at hNN
  rw [hM] at hMM
  rw [hN, hER] at HC1 HQR1
  rw [hM, hES] at HC2 HQR2
  clear hN hER hM hES hr HCU HRC
  have hs1 := fun (g : Nat) => slice_to (some ⟨g, 0, none⟩) (len + 64) (len + 64) len (by omega)
  have HRD := hide (fun (W : World) (g : Nat) (h : RowI 3 W g (xs ++ marksI)) => (by have := rowi_rd h (by rw [HXL.out]; omega); rwa [HXL.out] at this : RdI W (some ⟨g, 0, none⟩) len xs))
  go_enter Try.func3, Try.ntmps3
  go_upto_region 2 with (go_at_call 4; refine (HRO.out _ HR.out).mono ?_; rintro e w1 ⟨rfl, hr1, hb1⟩; have HR1 := hide hr1; have HB1 := hide hb1; clear hr1 hb1)
  obtain ⟨g1, hg1⟩ : ∃ g, w.heap.size = g := ⟨_, rfl⟩
  rw [hg1] at HR1 ⊢
  have HG1 := hide hg1
  clear hg1
  have HLT1 : Hid (g1 < w1.heap.size) := HR1.out.lt
  go_upto_region 3 with (go_at_call 5; refine (HC1.out _ _ _ (HRD.out _ _ HR1.out)).mono ?_; rintro e w2 ⟨va, rfl, ho2, hb2⟩; obtain ⟨aa, ac, ea, hac, _, _⟩ := ho2.shape; subst ea; have HA2 := hide ho2; have HB2 := hide hb2; clear ho2 hb2)
  go_upto_region 4 with (go_at_call 5; refine (HC1.out _ _ _ (HRD.out _ _ (HR1.out.below HB2.out))).mono ?_; rintro e w3 ⟨vb, rfl, ho3, hb3⟩; obtain ⟨ba, bc, eb, hbc, _, _⟩ := ho3.shape; subst eb; have HV3 := hide ho3; have HB3 := hide hb3; clear ho3 hb3)
  have HA3 := hide (HA2.out.below HB3.out)
  go_wp2_with fail
  go_loopw [10] (fun i wr => ∃ (k : Nat) (h : Nat → List Value), k ≤ N ∧ i = .int .i64 (k : Int) ∧ Hid (∀ k, (h k).length = 2) ∧ Hid (∀ k, ∀ u ∈ h k, u.oneCell' = true) ∧ Hid (OwnF wr w1.heap.size 29 2 (.slice aa N ac) N h) ∧ Hid (Turns w3 wr (.slice aa N ac) (.slice aa N ac))) (fun i _ => N - (intOf i).toNat)
  case atStart => exact ⟨0, _, Nat.zero_le _, rfl, xf_len T xs, xf_one T xs, HA3.out, Turns.refl _ _⟩
  case round =>
    obtain ⟨k, h, hk, rfl, HF, HF1, HO1, HT⟩ := hrel
    by_cases hlt : k < N
    · have hki : (k : Int) < (N : Int) := by omega
      obtain ⟨g, c', e, _, _, _⟩ := HO1.out.has (by omega)
      simp only [Value.slice.injEq] at e
      obtain ⟨rfl, _, rfl⟩ := e
      obtain ⟨x0, x1, hx⟩ : ∃ x0 x1, h k = [x0, x1] := by
        have := HF.out k
        match h k, this with
        | [p, q], _ => exact ⟨p, q, rfl⟩
      have c0 := HO1.out.cellAt HF.out k 0 x0 hlt (by omega) (by rw [hx]; rfl)
      have c1 := HO1.out.cellAt HF.out k 1 x1 hlt (by omega) (by rw [hx]; rfl)
      rw [Nat.add_zero] at c0
      have z0 := HO1.out.frozenAt (k * 2)
      have z1 := HO1.out.frozenAt (k * 2 + 1)
      have HS := hide (HO1.out.store2 HF.out k (.int .i64 (-5)) (.string ⟨#[]⟩) hlt)
      go_wp2_with fail
      go_roundw
      case rel => exact ⟨k + 1, _, hlt, by go_num, Rf.setF_len HF.out k _ rfl, setF_one HF1.out k _ (by simp [Value.oneCell']), HS.out.1, HT.out.step (.inl ⟨rfl, HS.out.2⟩)⟩
      case measure => simp [intOf]; omega
    · obtain rfl : N = k := by omega
      clear hlt hk
      go_wp2_with fail
      go_loopw [6, 11] (fun l i wr2 => ∃ (u : Value) (k : Nat) (h2 : Nat → List Value), u = l ∧ k ≤ 64 ∧ i = .int .i64 (k : Int) ∧ Hid (∀ k, (h2 k).length = 2) ∧ Hid (∀ k, ∀ u ∈ h2 k, u.oneCell' = true) ∧ Hid (OwnF wr2 w1.heap.size 29 2 u (N + k) h2) ∧ Hid (Turns w3 wr2 (.slice aa N ac) u)) (fun _ i _ => 64 - (intOf i).toNat)
      case atStart => exact ⟨_, 0, h, rfl, Nat.zero_le _, rfl, HF.out, HF1.out, HO1.out, HT.out⟩
      case round =>
        obtain ⟨u, k, h2, rfl, hk, rfl, HF2, HF3, HO2, HT2⟩ := hrel
        by_cases hlt : k < 64
        · have hki : (k : Int) < 64 := by omega
          obtain ⟨wa, hwa⟩ : ∃ wa, wr.alloc (.cells #[.int .i64 (-6), .string ⟨#[]⟩] 29) = wa := ⟨_, rfl⟩
          have HBA : Hid (Below wr.heap.size wr wa) := by rw [← hwa]; exact (Below.refl _ _).alloc (Nat.le_refl _) _
          have HFE : Hid (setF h2 (N + k) [.int .i64 (-6), .string ⟨#[]⟩] (N + k) = [.int .i64 (-6), .string ⟨#[]⟩]) := by show setF _ _ _ _ = _; unfold setF; rw [if_pos rfl]
          have HW : Hid (∀ (j : Nat) (u : Value), (setF h2 (N + k) [.int .i64 (-6), .string ⟨#[]⟩] (N + k))[j]? = some u → wa.cell? ((⟨wr.heap.size, 0, none⟩ : Addr).add j) = some u) := fun j u h => by rw [HFE.out] at h; rw [← hwa]; exact news wr _ _ j u h
          have HL := hide (Rf.setF_len HF2.out (N + k) [.int .i64 (-6), .string ⟨#[]⟩] rfl)
          have H1 := hide (setF_one HF3.out (N + k) [.int .i64 (-6), .string ⟨#[]⟩] (by simp [Value.oneCell']))
          have HOA : Hid (OwnF wa w1.heap.size 29 2 u (N + k) (setF h2 (N + k) [.int .i64 (-6), .string ⟨#[]⟩])) := (HO2.out.below HBA.out).congr (fun j hj => by unfold setF; rw [if_neg (by omega)])
          have HTA := hide (HT2.out.below HBA.out)
          go_wp2_with (at_builtin; refine pushF2 wa rfl _ _ rfl Try.underlying24 infoX rfl (by omega) (by omega) w1.heap.size u (N + k) (setF h2 (N + k) [.int .i64 (-6), .string ⟨#[]⟩]) (fun j _ => HL.out j) (fun j _ => H1.out j) (HL.out _) rfl HOA.out ⟨wr.heap.size, 0, none⟩ 1 rfl HW.out (H1.out _) (by omega) (by have := HTA.out.1.size; have := HB2.out.size; have := HB3.out.size; omega) ?_; intro g' c' w' ho' hg'; have HO3 := hide ho'; have HG3 := hide hg'; clear ho' hg')
          go_roundw
          case rel =>
            refine ⟨_, k + 1, _, rfl, hlt, by go_num, HL.out, H1.out, HO3.out, HTA.out.step ?_⟩
            rcases HG3.out with ⟨e, g⟩ | ⟨e, g⟩
            · left; exact ⟨e.symm, by rw [e]; exact g⟩
            · right; exact ⟨(fun i hi => by cases hi; exact e), g⟩
          case measure => simp [intOf]; omega
        · obtain rfl : k = 64 := by omega
          obtain ⟨ua, uc, eu, _⟩ := HO2.out.shape
          subst eu
          obtain ⟨w4, rfl⟩ : ∃ w4, w4 = wr := ⟨_, rfl⟩
          have HB14 : Hid (Below w1.heap.size w1 w4) := below_turn (below_trans HB2.out HB3.out) HT2.out.1 (fun i hi => (HA2.out.lt i hi).1)
          have HV4 : Hid (OwnF w4 w2.heap.size 29 2 (.slice ba N bc) N (xf T xs)) := HV3.out.kept HT2.out.1 (fun i hi e => by have q1 := (HV3.out.lt i hi).1; have q2 := (HA2.out.lt i e).2; omega)
          have HB04 := hide (below_trans HB1.out HB14.out)
          have HR4 := hide (HR1.out.below HB14.out)
          have HPT := hide (fun (W : World) (nn : Nat) (hnn : nn ≤ 256) (va vb : Option Addr) (ca cb : Nat) (ys : List Int) => splits_true nn (fun k => (so T ys k : Nat)) (fun k => T.extract (lo T ys k) (hi T ys k)) va vb ca cb W (by omega))
          clear HF HF1 HO1 HT HF2 HF3
          go_upto_region 13 with (go_at_call 6; refine (HQR1.out _ _ _ (HR.out.below HB04.out)).mono ?_; rintro e w5 ⟨vw, rfl, ho5, hb5⟩; obtain ⟨pa, pc, ew, _, _, _⟩ := ho5.shape; subst ew; have HW5 := hide ho5; have HB5 := hide hb5; clear ho5 hb5)
          have HV5 := hide (HV4.out.below HB5.out)
          have HR5 := hide (HR4.out.below HB5.out)
          have HB05 := hide (below_trans HB04.out HB5.out)
          have HP5 := hide (HPT.out w5 N hNN ba pa bc pc xs (HV5.out.rdf (xf_len T xs)) (HW5.out.rdf (xf_len T xs)))
          have HSI : Hid (∀ (W : World) (g g' : Nat), RowI 3 W g (xs ++ marksI) → RowI 3 W g' (xs ++ marksI) → Calls Try.prog 8 #[.slice (some ⟨g, 0, none⟩) (len + 64) (len + 64), .slice (some ⟨g', 0, none⟩) (len + 64) (len + 64)] W fun e w' => e = .returned (.bool true) ∧ Below W.heap.size W w') := fun W g g' h1 h2 => by
            have hl : (xs ++ marksI).length = len + 64 := by rw [List.length_append, HXL.out]; rfl
            have q1 := h1.rd (len + 64) (by rw [hl]; exact Nat.le_refl _) (by omega)
            have q2 := h2.rd (len + 64) (by rw [hl]; exact Nat.le_refl _) (by omega)
            rw [List.take_of_length_le (by rw [hl]; exact Nat.le_refl _)] at q1 q2
            exact sameInts_eq _ _ _ _ _ _ W q1 q2
          go_upto_region 15 with (first
            | (go_at_call 7; refine HP5.out.mono ?_; rintro e w6 ⟨rfl, hb6⟩; have HB6 := hide hb6; clear hb6)
            | (go_at_call 4; refine (HRO.out _ (HR.out.below (below_trans HB05.out HB6.out))).mono ?_; rintro e w7 ⟨rfl, hr7, hb7⟩; have HR7 := hide hr7; have HB7 := hide hb7; clear hr7 hb7)
            | (go_at_call 8; refine (HSI.out _ _ _ ((HR5.out.below HB6.out).below HB7.out) HR7.out).mono ?_; rintro e w8 ⟨rfl, hb8⟩; have HB8 := hide hb8; clear hb8))
          have HB58 := hide (below_trans HB6.out (below_trans HB7.out HB8.out))
          have HR8 := hide (HR5.out.below HB58.out)
          have HV8 := hide (HV5.out.below HB58.out)
          have HW8 := hide (HW5.out.below HB58.out)
          have HB08 := hide (below_trans HB05.out HB58.out)
          have HBK : Hid (∀ (W : World) (g : Nat), RowI 3 W g (xs ++ marksI) → Calls Try.prog 9 #[.slice (some ⟨g, 0, none⟩) len (len + 64)] W fun e w' => e = .returned (.slice (some ⟨g, 0, none⟩) len (len + 64)) ∧ RowI 3 w' g (bk1 xs ++ marksI) ∧ W.grownBy w' (some g)) := fun W g h => back_any g len (len + 64) xs marksI W h HXL.out (by omega)
          have HRB := hide (fun (W : World) (g : Nat) (h : RowI 3 W g (bk1 xs ++ marksI)) => (by have := rowi_rd h (by rw [HX1.out]; omega); rwa [HX1.out] at this : RdI W (some ⟨g, 0, none⟩) len (bk1 xs)))
          have HGB : Hid (∀ i, (Value.slice ba N bc).ownBlock = some i → i ≠ g1) := fun i hi e => by have q1 := (HV3.out.lt i hi).1; have q2 := HLT1.out; have q3 := HB2.out.size; omega
          have HGW : Hid (∀ i, (Value.slice pa N pc).ownBlock = some i → i ≠ g1) := fun i hi e => by have q1 := (HW5.out.lt i hi).1; have q2 := HLT1.out; have q3 := HB14.out.size; omega
          clear HP5 HSI HR1 HR4 HR5 HV4 HV5 HW5
          go_upto_region 16 with (first
            | (go_at_call 9; refine (HBK.out _ _ HR8.out).mono ?_; rintro e w9 ⟨rfl, hr9, hg9⟩; have HR9 := hide hr9; have HG9 := hide hg9; clear hr9 hg9)
            | (go_at_call 5; refine (HC2.out _ _ _ (HRB.out _ _ HR9.out)).mono ?_; rintro e w10 ⟨vc, rfl, ho10, hb10⟩; obtain ⟨ca, cc, ec, _, _, _⟩ := ho10.shape; subst ec; have HC10 := hide ho10; have HB10 := hide hb10; clear ho10 hb10))
          have HB09 : Hid (Below w.heap.size w w9) := below_turn HB08.out HG9.out (fun i hi => by cases hi; have := HG1.out; omega)
          have HV9 := hide (HV8.out.kept HG9.out (fun i hi e => HGB.out i hi (Option.some.inj e).symm))
          have HW9 := hide (HW8.out.kept HG9.out (fun i hi e => HGW.out i hi (Option.some.inj e).symm))
          have HB010 := hide (below_trans HB09.out HB10.out)
          clear HV8 HW8 HR8 HR9
          go_upto_region 17 with (first
            | (go_at_call 4; refine (HRO.out _ (HR.out.below HB010.out)).mono ?_; rintro e w11 ⟨rfl, hr11, hb11⟩; have HR11 := hide hr11; have HB11 := hide hb11; clear hr11 hb11)
            | (go_at_call 9; refine (HBK.out _ _ HR11.out).mono ?_; rintro e w12 ⟨rfl, hr12, hg12⟩; have HR12 := hide hr12; have HG12 := hide hg12; clear hr12 hg12)
            | (go_at_call 6; refine (HQR2.out _ _ _ (HRB.out _ _ HR12.out)).mono ?_; rintro e w13 ⟨vl, rfl, ho13, hb13⟩; obtain ⟨la, lc, el, _, _, _⟩ := ho13.shape; subst el; have HL13 := hide ho13; have HB13 := hide hb13; clear ho13 hb13))
          have HB12 : Hid (Below w10.heap.size w10 w12) := below_turn HB11.out HG12.out (fun i hi => by cases hi; exact Nat.le_refl _)
          have HB1013 := hide (below_trans HB12.out HB13.out)
          have HQ1 := hide (HPT.out w13 M hMM ca la cc lc (bk1 xs) ((HC10.out.below HB1013.out).rdf (xf_len T (bk1 xs))) (HL13.out.rdf (xf_len T (bk1 xs))))
          have HV13 := hide ((HV9.out.below HB10.out).below HB1013.out)
          have HW13 := hide ((HW9.out.below HB10.out).below HB1013.out)
          have HQ2 : Hid (∀ W, Below w13.heap.size w13 W → Calls Try.prog 7 #[.slice ba N bc, .slice pa N pc] W fun e w' => e = .returned (.bool true) ∧ Below W.heap.size W w') := fun W hW => HPT.out W N hNN ba pa bc pc xs ((HV13.out.below hW).rdf (xf_len T xs)) ((HW13.out.below hW).rdf (xf_len T xs))
          go_wp2_with (first
            | (go_at_call 7; refine HQ1.out.mono ?_; clear HQ1; rintro e w14 ⟨rfl, hb14⟩; have HB14' := hide hb14; clear hb14)
            | (go_at_call 7; refine (HQ2.out _ HB14'.out).mono ?_; rintro e w15 ⟨rfl, hb15⟩; have HB15 := hide hb15; clear hb15))
          go_ret
          exact ⟨rfl, below_trans HB010.out (below_trans HB1013.out (below_trans HB14'.out HB15.out))⟩
end Go.Proofs.Ytckfjhgnmegbhab.Ln
