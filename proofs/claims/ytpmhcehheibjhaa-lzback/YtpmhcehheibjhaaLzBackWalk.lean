/-
  The walk of the statement LzBack.
-/
import Derived.Test.YtpmhcehheibjhaaLzBackMath
namespace Go.Proofs.Ytpmhcehheibjhaa.lzBack
open Go.ChangeShapes Go.WideShapes Go.ChangeAt Go.RowKit
open Go.Proofs.Ytpmhcehheibjhaa.Base Go.Proofs.Ytpmhcehheibjhaa.Nums Go.Proofs.Ytpmhcehheibjhaa.Lz
set_option linter.unusedVariables false
set_option maxHeartbeats 1000000 in
set_option maxRecDepth 100000 in
theorem walk (a0 : Option Addr) (len0 cap0 : Nat) (b0 : List (BitVec 8)) (n1 : Int) (w : World) (r0 : Rd w a0 len0 b0) (l0 : len0 ≤ cap0) (m0 : cap0 ≤ 140737488351232) (z0 : a0 = none → len0 = 0 ∧ cap0 = 0) (w1 : (Lit.int .i64 n1).wf = true) :
    Calls Try.prog 3 #[.slice a0 len0 cap0, .int .i64 n1] w fun e w' => e = .returned (.bool true) ∧ Below w.heap.size w w' := by
  have hbn := bounds_i64 w1
  have HL := hide r0.1
  have R0 := hide r0
  clear r0 w1
  go_enter Try.func3, Try.ntmps3
  go_wp2_with fail
  refine (works_any w).mono ?_
  rintro e w3 ⟨rfl, hb3⟩
  have HB3 := hide hb3
  clear hb3
  by_cases hbig : 65536 < len0
  · have hbi : (65536 : Int) < (len0 : Int) := by omega
    go_wp2_with fail
    refine (encode_long a0 len0 cap0 w3 hbig (by omega)).mono ?_
    rintro e w4 ⟨rfl, rfl⟩
    go_wp2_with fail
    go_ret
    exact ⟨rfl, HB3.out⟩
  · have hbi : ¬ (65536 : Int) < (len0 : Int) := by omega
    have hli : (len0 : Int) ≤ 65536 := by omega
    have hx : b0.length ≤ 65536 := by have := HL.out; omega
    have HED := hide (enc_dec b0 hx)
    have HET := hide (enc_tok b0 hx)
    have HBD := hide (own_bound b0 hx)
    have HOT := hide (dec_other b0 hx n1)
    have HGD := hide (own_good b0 hx b0.length 0 0 (by omega) (Nat.le_refl _) (Nat.zero_le _))
    rw [HL.out] at HED HET HBD HOT HGD
    have hgb := good_bytes _ 0 len0 (by omega) HGD.out.1
    have HWR := hide (written_good _ len0 (by omega) HGD.out.1)
    have HEX := hide (expanded_good _ len0 (by omega) HGD.out.1)
    have HXX : Hid (expand [] (ownFrom b0 0 0) = b0) := HGD.out.2
    rw [HXX.out] at HEX
    have HENC := hide (encode_any a0 len0 cap0 b0 w3 (R0.out.below HB3.out) l0 (by omega) (by omega) z0)
    generalize hT : ownFrom b0 0 0 = T at HED HET HBD HOT HGD hgb HWR HEX HXX HENC
    generalize hBt : bytesOf T = B at HED HET HBD HOT hgb HWR HENC
    have hBl : B.length ≤ 1835008 := by omega
    have HBL := hide hBl
    clear hT hBt hgb hBl hx
    go_wp2_with fail
    refine HENC.out.mono ?_
    rintro e w4 ⟨v4, rfl, ho4, hb4⟩
    obtain ⟨a4, n4, c4, rfl, HN4⟩ := own_named ho4
    have HB4 := hide (below_trans HB3.out hb4)
    have HO4 := hide ho4
    have hr4 := ho4.room
    have hc4 := (Got.cap ho4).1
    clear hb4 ho4 HENC HB3
    go_wp2_with fail
    refine (decode_any a4 n4 c4 B (len0 : Int) w4 (Got.rd HO4.out (by have := HBL.out; omega)) hc4 hr4).mono ?_
    rintro e w5 ⟨v5, rfl, ho5, hb5⟩
    rw [HED.out] at ho5 ⊢
    simp only at ho5 ⊢
    obtain ⟨a5, n5, c5, rfl, HN5⟩ := own_named ho5
    have HB5 := hide (below_trans HB4.out hb5)
    have HB45 := hide (HO4.out.below hb5)
    have HX5 := hide ho5
    clear hb5 ho5 HB4 HO4
    go_wp2_with fail
    refine (tokens_any a4 n4 c4 B (len0 : Int) w5 (Got.rd HB45.out (by have := HBL.out; omega)) hc4 hr4).mono ?_
    rintro e w6 ⟨v6, ps, rfl, ho6, hps, hb6⟩
    rw [HET.out] at hps ⊢
    simp only at hps ⊢
    obtain ⟨a6, n6, c6, rfl, HN6⟩ := toks_named ho6
    have HB6 := hide (below_trans HB5.out hb6)
    have HB46 := hide (HB45.out.below hb6)
    have HX6 := hide (HX5.out.below hb6)
    have HTR6 := hide (toks_trd ho6 hps HGD.out.1 (by omega))
    clear hb6 ho6 hps HB5 HB45 HX5
    go_wp2_with fail
    refine (expand_any a6 n6 c6 T w6 HTR6.out).mono ?_
    rintro e w7 ⟨v7, rfl, ho7, hb7⟩
    rw [HEX.out] at ho7 ⊢
    simp only at ho7 ⊢
    obtain ⟨a7, n7, c7, rfl, HN7⟩ := own_named ho7
    have HB7 := hide (below_trans HB6.out hb7)
    have HB47 := hide (HB46.out.below hb7)
    have HX7 := hide (HX6.out.below hb7)
    have HE7 := hide ho7
    have HTR7 := hide (HTR6.out.below hb7)
    clear hb7 ho7 HB6 HB46 HX6 HTR6
    go_wp2_with fail
    refine (write_any a6 n6 c6 T w7 HTR7.out).mono ?_
    rintro e w8 ⟨v8, rfl, ho8, hb8⟩
    rw [HWR.out] at ho8 ⊢
    simp only at ho8 ⊢
    obtain ⟨a8, n8, c8, rfl, HN8⟩ := own_named ho8
    have HB8 := hide (below_trans HB7.out hb8)
    have HB48 := hide (HB47.out.below hb8)
    have HX8 := hide (HX7.out.below hb8)
    have HE8 := hide (HE7.out.below hb8)
    have HW8 := hide ho8
    clear hb8 ho8 HB7 HB47 HX7 HE7 HTR7
    go_wp2_with fail
    refine (decode_any a4 n4 c4 B n1 w8 (Got.rd HB48.out (by have := HBL.out; omega)) hc4 hr4).mono ?_
    rintro e w9 ⟨v9, rfl, ho9, hb9⟩
    have HB9 := hide (below_trans HB8.out hb9)
    have HB49 := hide (HB48.out.below hb9)
    have HX9 := hide (HX8.out.below hb9)
    have HE9 := hide (HE8.out.below hb9)
    have HW9 := hide (HW8.out.below hb9)
    clear hb9 ho9 HB8 HB48 HX8 HE8 HW8
    generalize (decoded B n1).2 = k at HOT
    obtain ⟨bd, hbd⟩ : ∃ bd : Int, bound (len0 : Int) = bd := ⟨_, rfl⟩
    rw [hbd] at HBD
    have HBC : Hid (Calls Try.prog 12 #[.int .i64 (len0 : Int)] w9 fun e w' => e = .returned (.int .i64 bd) ∧ w' = w9) := by
      have h := bound_any (len0 : Int) w9
      rw [hbd] at h; exact h
    have hbd2 : (n4 : Int) ≤ bd := by have h1 := HN4.out; have h2 := HBD.out; omega
    clear hbd
    by_cases hne : n1 = (len0 : Int)
    · have hneb : (n1 != (len0 : Int)) = false := by rw [bne_eq_false_iff_eq]; exact hne
      clear HOT hne
      go_wp2_with fail
      refine HBC.out.mono ?_
      rintro e w10 ⟨rfl, rfl⟩
      go_wp2_with fail
      refine (sameBytes_eq _ _ _ _ _ _ b0 _ (Got.rd HX9.out (by have := HL.out; omega)) (R0.out.below HB9.out)).mono ?_
      rintro e w11 ⟨rfl, hb11⟩
      have HB11 := hide (below_trans HB9.out hb11)
      have HE11 := hide (HE9.out.below hb11)
      have HW11 := hide (HW9.out.below hb11)
      have HB411 := hide (HB49.out.below hb11)
      clear hb11 HB9 HX9 HE9 HW9 HB49
      go_wp2_with fail
      refine (sameBytes_eq _ _ _ _ _ _ b0 _ (Got.rd HE11.out (by have := HL.out; omega)) (R0.out.below HB11.out)).mono ?_
      rintro e w12 ⟨rfl, hb12⟩
      have HB12 := hide (below_trans HB11.out hb12)
      have HW12 := hide (HW11.out.below hb12)
      have HB412 := hide (HB411.out.below hb12)
      clear hb12 HB11 HE11 HW11 HB411
      go_wp2_with fail
      refine (sameBytes_eq _ _ _ _ _ _ B _ (Got.rd HW12.out (by have := HBL.out; omega)) (Got.rd HB412.out (by have := HBL.out; omega))).mono ?_
      rintro e w13 ⟨rfl, hb13⟩
      have HB13 := hide (below_trans HB12.out hb13)
      clear hb13
      go_wp2_with fail
      go_ret
      exact ⟨rfl, HB13.out⟩
    · have hneb : (n1 != (len0 : Int)) = true := by rw [bne_iff_ne]; exact hne
      rcases HOT.out hne with hk | hk
      · subst hk
        clear HOT hne
        go_wp2_with fail
        refine HBC.out.mono ?_
        rintro e w10 ⟨rfl, rfl⟩
        go_wp2_with fail
        refine (sameBytes_eq _ _ _ _ _ _ b0 _ (Got.rd HX9.out (by have := HL.out; omega)) (R0.out.below HB9.out)).mono ?_
        rintro e w11 ⟨rfl, hb11⟩
        have HB11 := hide (below_trans HB9.out hb11)
        have HE11 := hide (HE9.out.below hb11)
        have HW11 := hide (HW9.out.below hb11)
        have HB411 := hide (HB49.out.below hb11)
        clear hb11 HB9 HX9 HE9 HW9 HB49
        go_wp2_with fail
        refine (sameBytes_eq _ _ _ _ _ _ b0 _ (Got.rd HE11.out (by have := HL.out; omega)) (R0.out.below HB11.out)).mono ?_
        rintro e w12 ⟨rfl, hb12⟩
        have HB12 := hide (below_trans HB11.out hb12)
        have HW12 := hide (HW11.out.below hb12)
        have HB412 := hide (HB411.out.below hb12)
        clear hb12 HB11 HE11 HW11 HB411
        go_wp2_with fail
        refine (sameBytes_eq _ _ _ _ _ _ B _ (Got.rd HW12.out (by have := HBL.out; omega)) (Got.rd HB412.out (by have := HBL.out; omega))).mono ?_
        rintro e w13 ⟨rfl, hb13⟩
        have HB13 := hide (below_trans HB12.out hb13)
        clear hb13
        go_wp2_with fail
        go_ret
        exact ⟨rfl, HB13.out⟩
      · subst hk
        clear HOT hne
        go_wp2_with fail
        refine HBC.out.mono ?_
        rintro e w10 ⟨rfl, rfl⟩
        go_wp2_with fail
        refine (sameBytes_eq _ _ _ _ _ _ b0 _ (Got.rd HX9.out (by have := HL.out; omega)) (R0.out.below HB9.out)).mono ?_
        rintro e w11 ⟨rfl, hb11⟩
        have HB11 := hide (below_trans HB9.out hb11)
        have HE11 := hide (HE9.out.below hb11)
        have HW11 := hide (HW9.out.below hb11)
        have HB411 := hide (HB49.out.below hb11)
        clear hb11 HB9 HX9 HE9 HW9 HB49
        go_wp2_with fail
        refine (sameBytes_eq _ _ _ _ _ _ b0 _ (Got.rd HE11.out (by have := HL.out; omega)) (R0.out.below HB11.out)).mono ?_
        rintro e w12 ⟨rfl, hb12⟩
        have HB12 := hide (below_trans HB11.out hb12)
        have HW12 := hide (HW11.out.below hb12)
        have HB412 := hide (HB411.out.below hb12)
        clear hb12 HB11 HE11 HW11 HB411
        go_wp2_with fail
        refine (sameBytes_eq _ _ _ _ _ _ B _ (Got.rd HW12.out (by have := HBL.out; omega)) (Got.rd HB412.out (by have := HBL.out; omega))).mono ?_
        rintro e w13 ⟨rfl, hb13⟩
        have HB13 := hide (below_trans HB12.out hb13)
        clear hb13
        go_wp2_with fail
        go_ret
        exact ⟨rfl, HB13.out⟩
end Go.Proofs.Ytpmhcehheibjhaa.lzBack
