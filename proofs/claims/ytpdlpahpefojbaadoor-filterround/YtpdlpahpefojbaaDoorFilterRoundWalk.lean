/-
  The walk of the statement FilterRound.
-/
import Derived.Test.YtpdlpahpefojbaaDoorFiRoundM
import Derived.Test.YtpdlpahpefojbaaDoorFiWorks
namespace Go.Proofs.YtpdlpahpefojbaaDoor.filterRound
open Go.ChangeShapes Go.WideShapes Go.ChangeAt Go.RowKit
open Go.Proofs.YtpdlpahpefojbaaDoor.Base hiding hide unhide lt8
open Go.Proofs.YtpdlpahpefojbaaDoor.Filt
set_option linter.unusedVariables false
theorem enc_err (f : Fw) : (encF f).2 = 0 ∨ (encF f).2 = 70 := by
  unfold encF
  split
  · exact .inl rfl
  · split
    · exact .inl rfl
    · split
      · exact .inl rfl
      · exact .inr rfl
theorem decF_len (ys : List (BitVec 8)) : (decF ys).1.data.length ≤ ys.length := by
  unfold decF
  split
  · exact readF_len ys
  · simp [zeroF]
set_option maxHeartbeats 4000000 in
set_option maxRecDepth 100000 in
theorem walk (A : Bool) (H : Int) (a : Option Addr) (len cap : Nat) (xs : List (BitVec 8)) (b : Option Addr) (n c : Nat) (ys : List (BitVec 8)) (w : World) (hK : KAt w)
    (r0 : Rd w a len xs) (l0 : len ≤ cap) (m0 : cap ≤ 140737488351232) (z0 : a = none → len = 0 ∧ cap = 0) (r1 : Rd w b n ys) (l1 : n ≤ c) (m1 : c ≤ 140737488351232) (z1 : b = none → n = 0 ∧ c = 0) :
    Calls Tryd.prog 6 #[.agg #[.bool A, .int .i64 H, .slice a len cap], .slice b n c] w fun e w' => e = .returned (.bool true) ∧ Below w.heap.size w w' := by
  obtain ⟨w0, hw0⟩ : ∃ w0, w.alloc (.cells #[.bool A, .int .i64 H, .slice a len cap] 24) = w0 := ⟨_, rfl⟩
  have hb0 : Below w.heap.size w w0 := by rw [← hw0]; exact (Below.refl _ _).alloc (Nat.le_refl _) _
  have hF0 : FB w0 w.heap.size A H (.slice a len cap) := by rw [← hw0]; exact FB.new _ _ _ _
  obtain ⟨p, hp⟩ : ∃ p, w.heap.size = p := ⟨_, rfl⟩
  rw [hp] at hF0
  have HS := hide hp
  have HP0 := hide hF0
  have HB0 := hide hb0
  have HKW := hide hK
  have RX := hide r0
  have RY := hide r1
  have HX0 := hide (r0.below hb0)
  have f0 := hF0.c0
  have f1 := hF0.c1
  have f2 := hF0.c2
  have HEE := hide (enc_err ⟨A, H, xs⟩)
  have HDE := hide (dec_enc ⟨A, H, xs⟩)
  have HEN := hide (encode_any A H a len cap xs w0 (kat_below hK hb0) HX0.out (by omega) z0)
  have HZ1 := hide z1
  obtain ⟨E, hE⟩ : ∃ E, encF ⟨A, H, xs⟩ = E := ⟨_, rfl⟩
  rw [hE] at HEE HDE HEN
  obtain ⟨EB, EE⟩ := E
  simp only at HEE HDE HEN
  clear hK r0 r1 hb0 hF0 hE
  go_enter Tryd.func6, Tryd.ntmps6
  go_wp2_with fail
  refine HEN.out.mono ?_
  rintro e w1 ⟨v, rfl, ho1, hb1⟩
  obtain ⟨va, vc, rfl⟩ := ho1.shape
  obtain ⟨EL, hEL⟩ : ∃ EL, EB.length = EL := ⟨_, rfl⟩
  rw [hEL] at ho1 ⊢
  have HEL := hide hEL
  have HO1 := hide ho1
  have HP1 := hide (HP0.out.below hb1)
  have HB1 := hide (below_trans HB0.out hb1)
  clear ho1 hb1 hEL f0 f1 f2
  by_cases hee : EE = 0
  · subst hee
    obtain ⟨hd1, hd2⟩ := HDE.out rfl
    have hELb : EL ≤ 4099 := by rw [← HEL.out]; exact hd2
    have HD1 := hide (decode_any va EL vc EB w1 (kat_below HKW.out HB1.out) (Got.rd HO1.out (by rw [HEL.out]; omega)) (Got.cap HO1.out).1 (Got.nil HO1.out))
    rw [hd1] at HD1
    clear hd1 hd2
    go_wp2_with fail
    refine HD1.out.mono ?_
    rintro e w2 ⟨ga, gn, gc, rfl, hrd, hgnil, hb2⟩
    simp only at hrd ⊢
    obtain ⟨w3, hw3⟩ : ∃ w3, w2.alloc (.cells #[.bool A, .int .i64 H, .slice ga gn gc] 24) = w3 := ⟨_, rfl⟩
    have hb3 : Below w2.heap.size w2 w3 := by rw [← hw3]; exact (Below.refl _ _).alloc (Nat.le_refl _) _
    have HG3 : Hid (FB w3 w2.heap.size A H (.slice ga gn gc)) := by rw [← hw3]; exact FB.new _ _ _ _
    obtain ⟨g, hg⟩ : ∃ g, w2.heap.size = g := ⟨_, rfl⟩
    rw [hg] at HG3
    have HP3 := hide ((HP1.out.below hb2).below hb3)
    have HB3 := hide (below_trans (below_trans HB1.out hb2) hb3)
    have HR3 := hide (hrd.below hb3)
    clear hrd hgnil hb2 hb3 HD1
    have g0 := HG3.out.c0
    have g1 := HG3.out.c1
    have g2 := HG3.out.c2
    have f0 := HP3.out.c0
    have f1 := HP3.out.c1
    have f2 := HP3.out.c2
    have hel : decide (4099 < (EL : Int)) = false := by simpa using (by omega : (EL : Int) ≤ 4099)
    go_wp2_with fail
    refine (alike_eq A H ga a gn gc len cap xs _ HR3.out (RX.out.below HB3.out)).mono ?_
    rintro e w4 ⟨rfl, hb4⟩
    have HB4 := hide (below_trans HB3.out hb4)
    clear hb4 g0 g1 g2 f0 f1 f2
    go_wp2_with fail
    have HD2 := hide (decode_any b n c ys w4 (kat_below HKW.out HB4.out) (RY.out.below HB4.out) l1 HZ1.out)
    have HED := hide (enc_dec ys)
    have HDX := hide (dec_err ys)
    have HYL := hide (decF_len ys)
    obtain ⟨Z, hZ⟩ : ∃ Z, decF ys = Z := ⟨_, rfl⟩
    rw [hZ] at HD2 HED HDX HYL
    obtain ⟨⟨ZA, ZH, ZD⟩, ZE⟩ := Z
    simp only at HD2 HED HDX HYL
    clear hZ
    refine HD2.out.mono ?_
    rintro e u2 ⟨ya, yn, yc, rfl, hrd2, hynil, hub2⟩
    obtain ⟨u3, hu3⟩ : ∃ u3, u2.alloc (.cells #[.bool ZA, .int .i64 ZH, .slice ya yn yc] 24) = u3 := ⟨_, rfl⟩
    have hub3 : Below u2.heap.size u2 u3 := by rw [← hu3]; exact (Below.refl _ _).alloc (Nat.le_refl _) _
    have HY3 : Hid (FB u3 u2.heap.size ZA ZH (.slice ya yn yc)) := by rw [← hu3]; exact FB.new _ _ _ _
    obtain ⟨y, hy⟩ : ∃ y, u2.heap.size = y := ⟨_, rfl⟩
    rw [hy] at HY3
    have HUB3 := hide (below_trans (below_trans HB4.out hub2) hub3)
    have HYR3 := hide (hrd2.below hub3)
    have HYN := hide hynil
    clear hrd2 hynil hub2 hub3 HD2
    have y0 := HY3.out.c0
    have y1 := HY3.out.c1
    have y2 := HY3.out.c2
    by_cases hz : ZE = 0
    · subst hz
      have hen : encF ⟨ZA, ZH, ZD⟩ = (ys, 0) := HED.out rfl
      have hzl : ZD.length = yn := HYR3.out.1
      have HE3 := hide (encode_any ZA ZH ya yn yc ZD u3 (kat_below HKW.out HUB3.out) HYR3.out (by have h1 := HYL.out; have h2 := RY.out.1; omega) HYN.out)
      rw [hen] at HE3
      clear hen hzl HED HDX
      go_wp2_with fail
      refine HE3.out.mono ?_
      rintro e u4 ⟨ev, rfl, hoe, hub4⟩
      obtain ⟨ea, ec, rfl⟩ := hoe.shape
      simp only at hoe ⊢
      have HUB4 := hide (below_trans HUB3.out hub4)
      have HRE := hide (Got.rd hoe (by have := RY.out.1; have := RY.out.2.1; omega))
      clear hoe hub4 y0 y1 y2
      go_wp2_with fail
      refine (same_eq _ _ _ _ _ _ ys u4 HRE.out (RY.out.below HUB4.out)).mono ?_
      rintro e u5 ⟨rfl, hub5⟩
      have HUB5 := hide (below_trans HUB4.out hub5)
      clear hub5
      go_wp2_with fail
      refine (works_any u5 (kat_below HKW.out HUB5.out)).mono ?_
      rintro e u6 ⟨rfl, hub6⟩
      have HUB6 := hide (below_trans HUB5.out hub6)
      clear hub6
      go_wp2_with fail
      go_ret
      exact ⟨rfl, by first | exact HUB6.out | (rw [← HS.out]; exact HUB6.out)⟩
    · have hz2 : (⟨⟨ZA, ZH, ZD⟩, ZE⟩ : Fw × Int) = (⟨false, 0, []⟩, 70) := by
        rcases HDX.out with h | h
        · exact absurd h hz
        · exact h
      obtain ⟨h1, h2⟩ := Prod.mk.inj hz2
      obtain ⟨h3, h4, h5⟩ := Fw.mk.inj h1
      subst h2 h3 h4 h5
      clear hz2 h1 hz HED HDX
      have hyn : yn = 0 := HYR3.out.1.symm
      subst hyn
      go_wp2_with fail
      refine (alike_eq false 0 ya none 0 yc 0 0 [] _ (rd_zero _ _) (rd_nil _)).mono ?_
      rintro e u4 ⟨rfl, hub4⟩
      have HUB4 := hide (below_trans HUB3.out hub4)
      clear hub4 y0 y1 y2
      go_wp2_with fail
      refine (works_any u4 (kat_below HKW.out HUB4.out)).mono ?_
      rintro e u5 ⟨rfl, hub5⟩
      have HUB5 := hide (below_trans HUB4.out hub5)
      clear hub5
      go_wp2_with fail
      go_ret
      exact ⟨rfl, by first | exact HUB5.out | (rw [← HS.out]; exact HUB5.out)⟩
  · have hee2 : (EE == 0) = false := by rw [beq_eq_false_iff_ne]; exact hee
    go_wp2_with fail
    have HD2 := hide (decode_any b n c ys w1 (kat_below HKW.out HB1.out) (RY.out.below HB1.out) l1 HZ1.out)
    have HED := hide (enc_dec ys)
    have HDX := hide (dec_err ys)
    have HYL := hide (decF_len ys)
    obtain ⟨Z, hZ⟩ : ∃ Z, decF ys = Z := ⟨_, rfl⟩
    rw [hZ] at HD2 HED HDX HYL
    obtain ⟨⟨ZA, ZH, ZD⟩, ZE⟩ := Z
    simp only at HD2 HED HDX HYL
    clear hZ
    refine HD2.out.mono ?_
    rintro e u2 ⟨ya, yn, yc, rfl, hrd2, hynil, hub2⟩
    obtain ⟨u3, hu3⟩ : ∃ u3, u2.alloc (.cells #[.bool ZA, .int .i64 ZH, .slice ya yn yc] 24) = u3 := ⟨_, rfl⟩
    have hub3 : Below u2.heap.size u2 u3 := by rw [← hu3]; exact (Below.refl _ _).alloc (Nat.le_refl _) _
    have HY3 : Hid (FB u3 u2.heap.size ZA ZH (.slice ya yn yc)) := by rw [← hu3]; exact FB.new _ _ _ _
    obtain ⟨y, hy⟩ : ∃ y, u2.heap.size = y := ⟨_, rfl⟩
    rw [hy] at HY3
    have HUB3 := hide (below_trans (below_trans HB1.out hub2) hub3)
    have HYR3 := hide (hrd2.below hub3)
    have HYN := hide hynil
    clear hrd2 hynil hub2 hub3 HD2
    have y0 := HY3.out.c0
    have y1 := HY3.out.c1
    have y2 := HY3.out.c2
    by_cases hz : ZE = 0
    · subst hz
      have hen : encF ⟨ZA, ZH, ZD⟩ = (ys, 0) := HED.out rfl
      have hzl : ZD.length = yn := HYR3.out.1
      have HE3 := hide (encode_any ZA ZH ya yn yc ZD u3 (kat_below HKW.out HUB3.out) HYR3.out (by have h1 := HYL.out; have h2 := RY.out.1; omega) HYN.out)
      rw [hen] at HE3
      clear hen hzl HED HDX
      go_wp2_with fail
      refine HE3.out.mono ?_
      rintro e u4 ⟨ev, rfl, hoe, hub4⟩
      obtain ⟨ea, ec, rfl⟩ := hoe.shape
      simp only at hoe ⊢
      have HUB4 := hide (below_trans HUB3.out hub4)
      have HRE := hide (Got.rd hoe (by have := RY.out.1; have := RY.out.2.1; omega))
      clear hoe hub4 y0 y1 y2
      go_wp2_with fail
      refine (same_eq _ _ _ _ _ _ ys u4 HRE.out (RY.out.below HUB4.out)).mono ?_
      rintro e u5 ⟨rfl, hub5⟩
      have HUB5 := hide (below_trans HUB4.out hub5)
      clear hub5
      go_wp2_with fail
      refine (works_any u5 (kat_below HKW.out HUB5.out)).mono ?_
      rintro e u6 ⟨rfl, hub6⟩
      have HUB6 := hide (below_trans HUB5.out hub6)
      clear hub6
      go_wp2_with fail
      go_ret
      exact ⟨rfl, by first | exact HUB6.out | (rw [← HS.out]; exact HUB6.out)⟩
    · have hz2 : (⟨⟨ZA, ZH, ZD⟩, ZE⟩ : Fw × Int) = (⟨false, 0, []⟩, 70) := by
        rcases HDX.out with h | h
        · exact absurd h hz
        · exact h
      obtain ⟨h1, h2⟩ := Prod.mk.inj hz2
      obtain ⟨h3, h4, h5⟩ := Fw.mk.inj h1
      subst h2 h3 h4 h5
      clear hz2 h1 hz HED HDX
      have hyn : yn = 0 := HYR3.out.1.symm
      subst hyn
      go_wp2_with fail
      refine (alike_eq false 0 ya none 0 yc 0 0 [] _ (rd_zero _ _) (rd_nil _)).mono ?_
      rintro e u4 ⟨rfl, hub4⟩
      have HUB4 := hide (below_trans HUB3.out hub4)
      clear hub4 y0 y1 y2
      go_wp2_with fail
      refine (works_any u4 (kat_below HKW.out HUB4.out)).mono ?_
      rintro e u5 ⟨rfl, hub5⟩
      have HUB5 := hide (below_trans HUB4.out hub5)
      clear hub5
      go_wp2_with fail
      go_ret
      exact ⟨rfl, by first | exact HUB5.out | (rw [← HS.out]; exact HUB5.out)⟩
end Go.Proofs.YtpdlpahpefojbaaDoor.filterRound
