/-
  The walk of the statement FilterCodes.
-/
import Derived.Test.YtmndjgmlndpgaaaDoorFiRefD
import Derived.Test.YtmndjgmlndpgaaaDoorFiDecM
import Derived.Test.YtmndjgmlndpgaaaDoorFiOpenS
namespace Go.Proofs.YtmndjgmlndpgaaaDoor.filterCodes
open Go.ChangeShapes Go.WideShapes Go.ChangeAt Go.RowKit
open Go.Proofs.YtmndjgmlndpgaaaDoor.Base hiding hide unhide lt8
open Go.Proofs.YtmndjgmlndpgaaaDoor.Filt
set_option linter.unusedVariables false
theorem enc_own (A : Bool) (H : Int) (a : Option Addr) (len cap : Nat) (bs : List (BitVec 8)) (EB : List (BitVec 8)) (EE : Int) (N : Nat) (w : World) (hN : EB.length = N) (hE : encF ⟨A, H, bs⟩ = (EB, EE)) (hK : KAt w) (hr : Rd w a len bs) (hl : len ≤ 140737488351232) (hz : a = none → len = 0 ∧ cap = 0) :
    Calls Tryd.prog 5 #[.agg #[.bool A, .int .i64 H, .slice a len cap]] w fun e w' => ∃ va vc, e = .returned (.tuple #[.slice va N vc, .int .i64 EE]) ∧ Own w' w.heap.size (.slice va N vc) EB ∧ Below w.heap.size w w' :=
  (encode_any A H a len cap bs w hK hr hl hz).mono fun e w' ⟨v, h1, h2, h3⟩ => by
    rw [hE] at h1 h2
    obtain ⟨va, vc, rfl⟩ := h2.shape
    simp only at h1 h2
    rw [hN] at h1 h2
    exact ⟨va, vc, h1, h2, h3⟩
theorem renc_own (A : Bool) (H : Int) (a : Option Addr) (len cap : Nat) (bs : List (BitVec 8)) (EB : List (BitVec 8)) (EE : Int) (N : Nat) (w : World) (hN : EB.length = N) (hE : encF ⟨A, H, bs⟩ = (EB, EE)) (hr : Rd w a len bs) (hl : len ≤ 140737488351232) (hz : a = none → len = 0 ∧ cap = 0) :
    Calls Tryd.prog 7 #[.agg #[.bool A, .int .i64 H, .slice a len cap]] w fun e w' => ∃ va vc, e = .returned (.tuple #[.slice va N vc, .int .i64 EE]) ∧ Own w' w.heap.size (.slice va N vc) EB ∧ Below w.heap.size w w' :=
  (refEncode_any A H a len cap bs w hr hl hz).mono fun e w' ⟨v, h1, h2, h3⟩ => by
    rw [hE] at h1 h2
    obtain ⟨va, vc, rfl⟩ := h2.shape
    simp only at h1 h2
    rw [hN] at h1 h2
    exact ⟨va, vc, h1, h2, h3⟩
theorem dec_own (a : Option Addr) (n c : Nat) (bs : List (BitVec 8)) (DA : Bool) (DH : Int) (DD : List (BitVec 8)) (DE : Int) (N : Nat) (w : World) (hN : DD.length = N) (hE : decF bs = (⟨DA, DH, DD⟩, DE)) (hK : KAt w) (hr : Rd w a n bs) (hn : n ≤ c) (hz : a = none → n = 0 ∧ c = 0) :
    Calls Tryd.prog 9 #[.slice a n c] w fun e w' => ∃ va vc, e = .returned (.tuple #[.agg #[.bool DA, .int .i64 DH, .slice va N vc], .int .i64 DE]) ∧ MO w' w.heap.size (.slice va N vc) DD ∧ Below w.heap.size w w' :=
  (decodeM_any a n c bs w hK hr hn hz).mono fun e w' ⟨va, vn, vc, h1, h2, h3⟩ => by
    rw [hE] at h1 h2
    simp only at h1 h2
    have h4 := h2.len
    rw [hN] at h4
    subst h4
    exact ⟨va, vc, h1, h2, h3⟩
theorem rdec_own (a : Option Addr) (n c : Nat) (bs : List (BitVec 8)) (DA : Bool) (DH : Int) (DD : List (BitVec 8)) (DE : Int) (N : Nat) (w : World) (hN : DD.length = N) (hE : decF bs = (⟨DA, DH, DD⟩, DE)) (hr : Rd w a n bs) (hn : n ≤ c) (hc : c ≤ 9223372036854775807) :
    Calls Tryd.prog 10 #[.slice a n c] w fun e w' => ∃ va vc, e = .returned (.tuple #[.agg #[.bool DA, .int .i64 DH, .slice va N vc], .int .i64 DE]) ∧ Own w' w.heap.size (.slice va N vc) DD ∧ Below w.heap.size w w' :=
  (refDecode_any a n c bs w hr hn hc).mono fun e w' ⟨v, h1, h2, h3⟩ => by
    rw [hE] at h1 h2
    obtain ⟨va, vc, rfl⟩ := h2.shape
    simp only at h1 h2
    rw [hN] at h1 h2
    exact ⟨va, vc, h1, h2, h3⟩
theorem own_bl {w : World} {base n c : Nat} {a : Option Addr} {xs : List (BitVec 8)} (h : Own w base (.slice a n c) xs) : ∀ i, (Value.slice a n c).ownBlock = some i → base ≤ i ∧ i < w.heap.size := fun i e => World.ownsRow.lt h i e
theorem fb_ne_mo {w : World} {base g : Nat} {v : Value} {xs : List (BitVec 8)} {A : Bool} {H : Int} {u : Value} (hf : FB w g A H u) (h : MO w base v xs) : v.ownBlock ≠ some g := fun e => mo_fb h hf g g e rfl rfl
theorem room_all {w : World} {base g n : Nat} {ys : List (BitVec 8)} (h : Own w base (.slice (some ⟨g, 0, none⟩) (n + 64) (n + 64)) (ys ++ marks8)) (hl : ys.length = n) (hm : n ≤ 140737488351232) : Rd w (some ⟨g, 0, none⟩) (n + 64) (ys ++ marks8) := Got.rd h (by rw [List.length_append, marks8_len, hl]; omega)
theorem encF_len (f : Fw) : (encF f).1.length ≤ 8192 := by
  unfold encF
  split
  · simp
  · split
    · simp
    · split
      · rename_i h
        have := fw_two h
        have h2 := (Nums.put_nine f.data.length (by omega)).2
        simp only [List.length_cons, List.length_append]
        omega
      · simp
theorem decF_len (ys : List (BitVec 8)) : (decF ys).1.data.length ≤ ys.length := by
  unfold decF
  split
  · exact readF_len ys
  · simp [zeroF]
theorem laid_set (w : World) (A : Bool) (H : Int) (v : Value) (H9 : Int) : ∃ w' w'' p, w.alloc (.cells #[.bool A, .int .i64 H, v] 24) = w' ∧ w'.setCell ⟨p, 1, none⟩ (.int .i64 H9) = w'' ∧ w.heap.size = p ∧ Hid (FB w' p A H v) ∧ Hid (FB w'' p A H9 v) ∧ Hid (Below w.heap.size w w') ∧ Hid (Below w.heap.size w w'') := by
  have b1 : Below w.heap.size w (w.alloc (.cells #[.bool A, .int .i64 H, v] 24)) := (Below.refl _ _).alloc (Nat.le_refl _) _
  exact ⟨_, _, _, rfl, rfl, rfl, FB.new _ _ _ _, heap_setCell_same _ _ _ _ _ _ (FB.new w A H v), b1, b1.setCell (Nat.le_refl _) _⟩
set_option maxHeartbeats 4000000 in
set_option maxRecDepth 100000 in
theorem walk (A : Bool) (H : Int) (a : Option Addr) (len cap : Nat) (xs : List (BitVec 8)) (b : Option Addr) (n c : Nat) (ys : List (BitVec 8)) (a2 : Option Addr) (len2 cap2 : Nat) (ts : List ByteArray) (w : World) (hK : KAt w)
    (r0 : Rd w a len xs) (l0 : len ≤ cap) (m0 : cap ≤ 140737488351232) (z0 : a = none → len = 0 ∧ cap = 0) (r1 : Rd w b n ys) (l1 : n ≤ c) (m1 : c ≤ 140737488351232) (z1 : b = none → n = 0 ∧ c = 0) (r2 : RdS w a2 len2 ts) (l2 : len2 ≤ cap2) (m2 : cap2 ≤ 8796093021952) (z2 : a2 = none → len2 = 0 ∧ cap2 = 0) :
    Calls Tryd.prog 3 #[.agg #[.bool A, .int .i64 H, .slice a len cap], .slice b n c, .slice a2 len2 cap2] w fun e w' => e = .returned (.bool true) ∧ Below w.heap.size w w' := by
  have HKW := hide hK
  have RX := hide r0
  have RY := hide r1
  have RT := hide r2
  have HXL := hide r0.1
  have HYL := hide r1.1
  have HLT := hide r2.1
  have HZA := hide z0
  have HTXL : Hid ((turnL xs).length = len) := (turnL_len xs).trans HXL.out
  have HTYL : Hid ((turnL ys).length = n) := (turnL_len ys).trans HYL.out
  have el := encF_len ⟨A, H, xs⟩
  have tl := encF_len ⟨A, H, turnL xs⟩
  have dl := decF_len ys
  have ul := decF_len (turnL ys)
  rw [HYL.out] at dl
  rw [HTYL.out] at ul
  obtain ⟨E1, hE⟩ : ∃ F, encF ⟨A, H, xs⟩ = F := ⟨_, rfl⟩
  obtain ⟨E2, hT⟩ : ∃ F, encF ⟨A, H, turnL xs⟩ = F := ⟨_, rfl⟩
  obtain ⟨D1, hD⟩ : ∃ F, decF ys = F := ⟨_, rfl⟩
  obtain ⟨D2, hU⟩ : ∃ F, decF (turnL ys) = F := ⟨_, rfl⟩
  rw [hE] at el
  rw [hT] at tl
  rw [hD] at dl
  rw [hU] at ul
  obtain ⟨EB, EE⟩ := E1
  obtain ⟨TB, TE⟩ := E2
  obtain ⟨⟨DA, DH, DD⟩, DE⟩ := D1
  obtain ⟨⟨UA, UH, UD⟩, UE⟩ := D2
  simp only at el tl dl ul
  have HEF := hide hE
  have HTF := hide hT
  have HDF := hide hD
  have HUF := hide hU
  obtain ⟨NE, hNE⟩ : ∃ N, EB.length = N := ⟨_, rfl⟩
  obtain ⟨NT, hNT⟩ : ∃ N, TB.length = N := ⟨_, rfl⟩
  obtain ⟨ND, hND⟩ : ∃ N, DD.length = N := ⟨_, rfl⟩
  obtain ⟨NU, hNU⟩ : ∃ N, UD.length = N := ⟨_, rfl⟩
  rw [hNE] at el
  rw [hNT] at tl
  rw [hND] at dl
  rw [hNU] at ul
  have HNE := hide hNE
  have HNT := hide hNT
  have HND := hide hND
  have HNU := hide hNU
  have hlen : len ≤ 140737488351232 := by omega
  have hn : n ≤ 140737488351232 := by omega
  have hni : (n : Int) ≤ 140737488351232 := by omega
  have hnd : ND ≤ 140737488351232 := by omega
  have hnu : NU ≤ 140737488351232 := by omega
  have hNei : (NE : Int) ≤ 8192 := by omega
  have hNdi : (ND : Int) ≤ 140737488351232 := by omega
  have hn64 : n ≤ n + 64 := by omega
  have HRDE : Hid (∀ W base va vc, Own W base (.slice va NE vc) EB → Rd W va NE EB) := fun W base va vc h => Got.rd h (by rw [HNE.out]; omega)
  have HRDT : Hid (∀ W base va vc, Own W base (.slice va NT vc) TB → Rd W va NT TB) := fun W base va vc h => Got.rd h (by rw [HNT.out]; omega)
  have HRDD : Hid (∀ W base va vc, Own W base (.slice va ND vc) DD → Rd W va ND DD) := fun W base va vc h => Got.rd h (by rw [HND.out]; omega)
  have HRDU : Hid (∀ W base va vc, Own W base (.slice va NU vc) UD → Rd W va NU UD) := fun W base va vc h => Got.rd h (by rw [HNU.out]; omega)
  have HMDD : Hid (∀ W base va vc, MO W base (.slice va ND vc) DD → Rd W va ND DD) := fun W base va vc h => h.rd (by rw [HND.out]; omega)
  have HMDU : Hid (∀ W base va vc, MO W base (.slice va NU vc) UD → Rd W va NU UD) := fun W base va vc h => h.rd (by rw [HNU.out]; omega)
  clear hK r0 r1 r2 hE hT hD hU hNE hNT hND hNU el tl dl ul
  obtain ⟨u0, pBF, eBF, sBF, BF_1, hbBF, _⟩ := laid_new (Below.refl w.heap.size w) A H (.slice a len cap)
  have SZ_1 : Hid (w.heap.size ≤ u0.heap.size) := (hbBF.out).size
  have HB_1 := hide hbBF.out
  skip
  clear hbBF
  go_enter Tryd.func3, Tryd.ntmps3
  have x0 := BF_1.out.c0
  have x1 := BF_1.out.c1
  have x2 := BF_1.out.c2
  go_wp2_with fail
  refine (given_any A H a len cap xs u0 (RX.out.below HB_1.out) hlen).mono ?_
  rintro e u1 ⟨gx, rfl, hgx, hox, hb1⟩
  have OX_2 := hide hox
  clear hox
  have SZ_2 : Hid (u0.heap.size ≤ u1.heap.size) := (hb1).size
  have BF_2 := hide (BF_1.out.below hb1)
  have HB_2 := hide (below_trans HB_1.out hb1)
  clear BF_1 HB_1 x0 x1 x2 hb1
  clear hgx
  have L_OX : Hid (∀ i, (Value.slice (some ⟨gx, 0, none⟩) (len + 64) (len + 64)).ownBlock = some i → u0.heap.size ≤ i ∧ i < u1.heap.size) := (own_bl OX_2.out)
  obtain ⟨u2, pBX, eBX, sBX, BX_3, hbBX, _⟩ := laid_new (Below.refl u1.heap.size u1) A H (.slice (some ⟨gx, 0, none⟩) len (len + 64))
  have SZ_3 : Hid (u1.heap.size ≤ u2.heap.size) := (hbBX.out).size
  have BF_3 := hide (BF_2.out.below hbBX.out)
  have OX_3 := hide (OX_2.out.below hbBX.out)
  have HB_3 := hide (below_trans HB_2.out hbBX.out)
  clear BF_2 OX_2 HB_2
  clear hbBX
  have x0 := BX_3.out.c0
  have x1 := BX_3.out.c1
  have x2 := BX_3.out.c2
  go_wp2_with fail
  refine (enc_own A H _ len _ xs EB EE NE u2 HNE.out HEF.out (kat_below HKW.out HB_3.out) (given_rd OX_3.out HXL.out hlen) hlen (fun h => by cases h)).mono ?_
  rintro e u3 ⟨ya, yc, rfl, hoy, hb3⟩
  have OY_4 := hide hoy
  clear hoy
  have SZ_4 : Hid (u2.heap.size ≤ u3.heap.size) := (hb3).size
  have BF_4 := hide (BF_3.out.below hb3)
  have OX_4 := hide (OX_3.out.below hb3)
  have BX_4 := hide (BX_3.out.below hb3)
  have HB_4 := hide (below_trans HB_3.out hb3)
  clear BF_3 OX_3 BX_3 HB_3 x0 x1 x2 hb3
  have L_OY : Hid (∀ i, (Value.slice ya NE yc).ownBlock = some i → u2.heap.size ≤ i ∧ i < u3.heap.size) := (own_bl OY_4.out)
  have x0 := BX_4.out.c0
  have x1 := BX_4.out.c1
  have x2 := BX_4.out.c2
  go_wp2_with fail
  refine (enc_own A H _ len _ xs EB EE NE u3 HNE.out HEF.out (kat_below HKW.out HB_4.out) (given_rd OX_4.out HXL.out hlen) hlen (fun h => by cases h)).mono ?_
  rintro e u4 ⟨za, zc, rfl, hoz, hb4⟩
  have OZ_5 := hide hoz
  clear hoz
  have SZ_5 : Hid (u3.heap.size ≤ u4.heap.size) := (hb4).size
  have BF_5 := hide (BF_4.out.below hb4)
  have OX_5 := hide (OX_4.out.below hb4)
  have BX_5 := hide (BX_4.out.below hb4)
  have OY_5 := hide (OY_4.out.below hb4)
  have HB_5 := hide (below_trans HB_4.out hb4)
  clear BF_4 OX_4 BX_4 OY_4 HB_4 x0 x1 x2 hb4
  have L_OZ : Hid (∀ i, (Value.slice za NE zc).ownBlock = some i → u3.heap.size ≤ i ∧ i < u4.heap.size) := (own_bl OZ_5.out)
  go_wp2_with fail
  refine (fill_any u2.heap.size NE yc ya EB u4 OY_5.out (by omega) (by have c4 := SZ_4.out; have c5 := SZ_5.out; omega)).mono ?_
  rintro e u5 ⟨rfl, hg5⟩
  have BF_6 := hide (BF_5.out.grown hg5 (fb_ne_own BF_5.out OY_5.out))
  have OX_6 := hide (keep OX_5.out hg5 (fun i j e1 e2 => by have h1 := L_OX.out i e1; have h2 := L_OY.out j e2; have c3 := SZ_3.out; omega))
  have BX_6 := hide (BX_5.out.grown hg5 (fb_ne_own BX_5.out OY_5.out))
  have OZ_6 := hide (keep OZ_5.out hg5 (fun i j e1 e2 => by have h1 := L_OZ.out i e1; have h2 := L_OY.out j e2;  omega))
  have HB_6 := hide (HB_5.out.grown hg5 HB_5.out.size (fun i e => by have h1 := L_OY.out i e; have c1 := SZ_1.out; have c2 := SZ_2.out; have c3 := SZ_3.out; omega))
  have SZ_6 : Hid (u4.heap.size ≤ u5.heap.size) := hg5.size
  clear hg5 BF_5 OX_5 BX_5 OY_5 OZ_5 HB_5
  have x0 := BF_6.out.c0
  have x1 := BF_6.out.c1
  have x2 := BF_6.out.c2
  go_wp2_with fail
  refine (renc_own A H a len cap xs EB EE NE u5 HNE.out HEF.out (RX.out.below HB_6.out) hlen HZA.out).mono ?_
  rintro e u6 ⟨va, vc, rfl, hov, hb6⟩
  have OV_7 := hide hov
  clear hov
  have SZ_7 : Hid (u5.heap.size ≤ u6.heap.size) := (hb6).size
  have BF_7 := hide (BF_6.out.below hb6)
  have OX_7 := hide (OX_6.out.below hb6)
  have BX_7 := hide (BX_6.out.below hb6)
  have OZ_7 := hide (OZ_6.out.below hb6)
  have HB_7 := hide (below_trans HB_6.out hb6)
  clear BF_6 OX_6 BX_6 OZ_6 HB_6 x0 x1 x2 hb6
  have L_OV : Hid (∀ i, (Value.slice va NE vc).ownBlock = some i → u5.heap.size ≤ i ∧ i < u6.heap.size) := (own_bl OV_7.out)
  go_wp2_with fail
  refine (roomy_any b n c ys u6 (RY.out.below HB_7.out) hn).mono ?_
  rintro e u7 ⟨gf, rfl, hgf, hof, hb7⟩
  have OF_8 := hide hof
  clear hof
  have SZ_8 : Hid (u6.heap.size ≤ u7.heap.size) := (hb7).size
  have BF_8 := hide (BF_7.out.below hb7)
  have OX_8 := hide (OX_7.out.below hb7)
  have BX_8 := hide (BX_7.out.below hb7)
  have OZ_8 := hide (OZ_7.out.below hb7)
  have OV_8 := hide (OV_7.out.below hb7)
  have HB_8 := hide (below_trans HB_7.out hb7)
  clear BF_7 OX_7 BX_7 OZ_7 OV_7 HB_7 hb7
  clear hgf
  have L_OF : Hid (∀ i, (Value.slice (some ⟨gf, 0, none⟩) (n + 64) (n + 64)).ownBlock = some i → u6.heap.size ≤ i ∧ i < u7.heap.size) := (own_bl OF_8.out)
  go_wp2_with fail
  refine (dec_own (some ⟨gf, 0, none⟩) n (n + 64) ys DA DH DD DE ND u7 HND.out HDF.out (kat_below HKW.out HB_8.out) (given_rd OF_8.out HYL.out hn) hn64 (fun h => by cases h)).mono ?_
  rintro e u8 ⟨pa, pc, rfl, hmp, hb8⟩
  have MP_9 := hide hmp
  clear hmp
  have SZ_9 : Hid (u7.heap.size ≤ u8.heap.size) := (hb8).size
  have BF_9 := hide (BF_8.out.below hb8)
  have OX_9 := hide (OX_8.out.below hb8)
  have BX_9 := hide (BX_8.out.below hb8)
  have OZ_9 := hide (OZ_8.out.below hb8)
  have OV_9 := hide (OV_8.out.below hb8)
  have OF_9 := hide (OF_8.out.below hb8)
  have HB_9 := hide (below_trans HB_8.out hb8)
  clear BF_8 OX_8 BX_8 OZ_8 OV_8 OF_8 HB_8 hb8
  have L_MP : Hid (∀ i, (Value.slice pa ND pc).ownBlock = some i → u7.heap.size ≤ i ∧ i < u8.heap.size) := (MP_9.out.blk)
  obtain ⟨u9, pBP, eBP, sBP, BP_10, hbBP, _⟩ := laid_new (Below.refl u8.heap.size u8) DA DH (.slice pa ND pc)
  have SZ_10 : Hid (u8.heap.size ≤ u9.heap.size) := (hbBP.out).size
  have BF_10 := hide (BF_9.out.below hbBP.out)
  have OX_10 := hide (OX_9.out.below hbBP.out)
  have BX_10 := hide (BX_9.out.below hbBP.out)
  have OZ_10 := hide (OZ_9.out.below hbBP.out)
  have OV_10 := hide (OV_9.out.below hbBP.out)
  have OF_10 := hide (OF_9.out.below hbBP.out)
  have MP_10 := hide (MP_9.out.below hbBP.out)
  have HB_10 := hide (below_trans HB_9.out hbBP.out)
  clear BF_9 OX_9 BX_9 OZ_9 OV_9 OF_9 MP_9 HB_9
  clear hbBP
  go_wp2_with fail
  refine (dec_own (some ⟨gf, 0, none⟩) n (n + 64) ys DA DH DD DE ND u9 HND.out HDF.out (kat_below HKW.out HB_10.out) (given_rd OF_10.out HYL.out hn) hn64 (fun h => by cases h)).mono ?_
  rintro e u10 ⟨qa, qc, rfl, hmq, hb10⟩
  have MQ_11 := hide hmq
  clear hmq
  have SZ_11 : Hid (u9.heap.size ≤ u10.heap.size) := (hb10).size
  have BF_11 := hide (BF_10.out.below hb10)
  have OX_11 := hide (OX_10.out.below hb10)
  have BX_11 := hide (BX_10.out.below hb10)
  have OZ_11 := hide (OZ_10.out.below hb10)
  have OV_11 := hide (OV_10.out.below hb10)
  have OF_11 := hide (OF_10.out.below hb10)
  have MP_11 := hide (MP_10.out.below hb10)
  have BP_11 := hide (BP_10.out.below hb10)
  have HB_11 := hide (below_trans HB_10.out hb10)
  clear BF_10 OX_10 BX_10 OZ_10 OV_10 OF_10 MP_10 BP_10 HB_10 hb10
  have L_MQ : Hid (∀ i, (Value.slice qa ND qc).ownBlock = some i → u9.heap.size ≤ i ∧ i < u10.heap.size) := (MQ_11.out.blk)
  obtain ⟨u11, pBQ, eBQ, sBQ, BQ_12, hbBQ, _⟩ := laid_new (Below.refl u10.heap.size u10) DA DH (.slice qa ND qc)
  have SZ_12 : Hid (u10.heap.size ≤ u11.heap.size) := (hbBQ.out).size
  have BF_12 := hide (BF_11.out.below hbBQ.out)
  have OX_12 := hide (OX_11.out.below hbBQ.out)
  have BX_12 := hide (BX_11.out.below hbBQ.out)
  have OZ_12 := hide (OZ_11.out.below hbBQ.out)
  have OV_12 := hide (OV_11.out.below hbBQ.out)
  have OF_12 := hide (OF_11.out.below hbBQ.out)
  have MP_12 := hide (MP_11.out.below hbBQ.out)
  have BP_12 := hide (BP_11.out.below hbBQ.out)
  have MQ_12 := hide (MQ_11.out.below hbBQ.out)
  have HB_12 := hide (below_trans HB_11.out hbBQ.out)
  clear BF_11 OX_11 BX_11 OZ_11 OV_11 OF_11 MP_11 BP_11 MQ_11 HB_11
  clear hbBQ
  have x0 := BP_12.out.c0
  have x1 := BP_12.out.c1
  have x2 := BP_12.out.c2
  go_wp2_with fail
  refine (fill9_any _ ND pc pa DD u11 MP_12.out hnd).mono ?_
  rintro e u12 ⟨rfl, hg12⟩
  have BF_13 := hide (BF_12.out.grown hg12 (fb_ne_mo BF_12.out MP_12.out))
  have OX_13 := hide (keep OX_12.out hg12 (fun i j e1 e2 => by have h1 := L_OX.out i e1; have h2 := L_MP.out j e2; have c3 := SZ_3.out; have c4 := SZ_4.out; have c5 := SZ_5.out; have c6 := SZ_6.out; have c7 := SZ_7.out; have c8 := SZ_8.out; omega))
  have BX_13 := hide (BX_12.out.grown hg12 (fb_ne_mo BX_12.out MP_12.out))
  have OZ_13 := hide (keep OZ_12.out hg12 (fun i j e1 e2 => by have h1 := L_OZ.out i e1; have h2 := L_MP.out j e2; have c6 := SZ_6.out; have c7 := SZ_7.out; have c8 := SZ_8.out; omega))
  have OV_13 := hide (keep OV_12.out hg12 (fun i j e1 e2 => by have h1 := L_OV.out i e1; have h2 := L_MP.out j e2; have c8 := SZ_8.out; omega))
  have OF_13 := hide (keep OF_12.out hg12 (fun i j e1 e2 => by have h1 := L_OF.out i e1; have h2 := L_MP.out j e2;  omega))
  have MQ_13 := hide (MQ_12.out.keep hg12 (fun i j e1 e2 => by have h1 := L_MQ.out i e1; have h2 := L_MP.out j e2; have c10 := SZ_10.out; omega))
  have BQ_13 := hide (BQ_12.out.grown hg12 (fb_ne_mo BQ_12.out MP_12.out))
  have HB_13 := hide (HB_12.out.grown hg12 HB_12.out.size (fun i e => by have h1 := L_MP.out i e; have c1 := SZ_1.out; have c2 := SZ_2.out; have c3 := SZ_3.out; have c4 := SZ_4.out; have c5 := SZ_5.out; have c6 := SZ_6.out; have c7 := SZ_7.out; have c8 := SZ_8.out; omega))
  have SZ_13 : Hid (u11.heap.size ≤ u12.heap.size) := hg12.size
  clear hg12 BF_12 OX_12 BX_12 OZ_12 OV_12 OF_12 MP_12 BP_12 MQ_12 BQ_12 HB_12 x0 x1 x2
  go_wp2_with fail
  refine (rdec_own b n c ys DA DH DD DE ND u12 HND.out HDF.out (RY.out.below HB_13.out) l1 (by omega)).mono ?_
  rintro e u13 ⟨oa, oc, rfl, hoo, hb13⟩
  have OO_14 := hide hoo
  clear hoo
  have SZ_14 : Hid (u12.heap.size ≤ u13.heap.size) := (hb13).size
  have BF_14 := hide (BF_13.out.below hb13)
  have OX_14 := hide (OX_13.out.below hb13)
  have BX_14 := hide (BX_13.out.below hb13)
  have OZ_14 := hide (OZ_13.out.below hb13)
  have OV_14 := hide (OV_13.out.below hb13)
  have OF_14 := hide (OF_13.out.below hb13)
  have MQ_14 := hide (MQ_13.out.below hb13)
  have BQ_14 := hide (BQ_13.out.below hb13)
  have HB_14 := hide (below_trans HB_13.out hb13)
  clear BF_13 OX_13 BX_13 OZ_13 OV_13 OF_13 MQ_13 BQ_13 HB_13 hb13
  have L_OO : Hid (∀ i, (Value.slice oa ND oc).ownBlock = some i → u12.heap.size ≤ i ∧ i < u13.heap.size) := (own_bl OO_14.out)
  obtain ⟨u14, pBO, eBO, sBO, BO_15, hbBO, _⟩ := laid_new (Below.refl u13.heap.size u13) DA DH (.slice oa ND oc)
  have SZ_15 : Hid (u13.heap.size ≤ u14.heap.size) := (hbBO.out).size
  have BF_15 := hide (BF_14.out.below hbBO.out)
  have OX_15 := hide (OX_14.out.below hbBO.out)
  have BX_15 := hide (BX_14.out.below hbBO.out)
  have OZ_15 := hide (OZ_14.out.below hbBO.out)
  have OV_15 := hide (OV_14.out.below hbBO.out)
  have OF_15 := hide (OF_14.out.below hbBO.out)
  have MQ_15 := hide (MQ_14.out.below hbBO.out)
  have BQ_15 := hide (BQ_14.out.below hbBO.out)
  have OO_15 := hide (OO_14.out.below hbBO.out)
  have HB_15 := hide (below_trans HB_14.out hbBO.out)
  clear BF_14 OX_14 BX_14 OZ_14 OV_14 OF_14 MQ_14 BQ_14 OO_14 HB_14
  clear hbBO
  go_wp2_with fail
  have hl2i : (len2 : Int) ≤ 8796093021952 := by omega
  go_loopw [23] (fun i wr => ∃ q : Nat, q ≤ len2 ∧ i = .int .i64 (q : Int) ∧ Hid (Below u14.heap.size u14 wr)) (fun i _ => len2 - (intOf i).toNat)
  case atStart => exact ⟨0, Nat.zero_le _, rfl, Below.refl _ _⟩
  case round =>
    obtain ⟨q, hq, rfl, HBM⟩ := hrel
    by_cases hlt : q < len2
    · have hqi : (q : Int) < (len2 : Int) := by omega
      have HRq := hide (RT.out.below (below_trans HB_15.out HBM.out))
      obtain ⟨tb, toff, rfl, htb, hcell⟩ := HRq.out.2.2.2 (by omega)
      have tc := hcell q hlt
      have HTZ := hide (HRq.out.2.2.1 _ (getS_mem (i := q) (by rw [HLT.out]; exact hlt)))
      have HTL : Hid (tb < wr.heap.size) := htb
      generalize ts.getD q ⟨#[]⟩ = tq at tc HTZ
      clear hcell htb
      have HBr := hide (BX_15.out.below HBM.out)
      have HWr := hide (BF_15.out.below HBM.out)
      have nb0 := HBr.out.c0
      have nb1 := HBr.out.c1
      have nb2 := HBr.out.c2
      have nw0 := HWr.out.c0
      have nw1 := HWr.out.c1
      have nw2 := HWr.out.c2
      obtain ⟨hv, hhv⟩ : ∃ hv, hasF A H (xs) tq = hv := ⟨_, rfl⟩
      have HHC : Hid (∀ W, Below wr.heap.size wr W → Calls Tryd.prog 11 #[.agg #[.bool A, .int .i64 H, .slice (some ⟨gx, 0, none⟩) len (len + 64)], .string tq] W fun e w' => e = .returned (.bool hv) ∧ Below wr.heap.size wr w') := fun W hW =>
        (has_any A H _ _ _ (xs) tq W (kat_below HKW.out (below_trans (below_trans HB_15.out HBM.out) hW)) ((given_rd OX_15.out HXL.out hlen).below (below_trans HBM.out hW)) hlen HTZ.out).mono fun e w' ⟨h1, h2⟩ => ⟨by rw [h1, hhv], hW.trans (h2.mono hW.size)⟩
      have HHR : Hid (∀ W, Below wr.heap.size wr W → Calls Tryd.prog 12 #[.agg #[.bool A, .int .i64 H, .slice a len cap], .string tq] W fun e w' => e = .returned (.bool hv) ∧ Below wr.heap.size wr w') := fun W hW =>
        (refHas_any A H _ _ _ (xs) tq W ((RX.out.below HB_15.out).below (below_trans HBM.out hW)) hlen HTZ.out).mono fun e w' ⟨h1, h2⟩ => ⟨by rw [h1, hhv], hW.trans (h2.mono hW.size)⟩
      have HTC := hide tc
      have HSEV : Hid (∀ W, Below wr.heap.size wr W → W.cell? ⟨pBX, 0, none⟩ = some (.bool A) ∧ W.cell? ⟨pBX, 1, none⟩ = some (.int .i64 H) ∧ W.cell? ⟨pBX, 2, none⟩ = some (.slice (some ⟨gx, 0, none⟩) len (len + 64)) ∧ W.cell? ⟨pBF, 0, none⟩ = some (.bool A) ∧ W.cell? ⟨pBF, 1, none⟩ = some (.int .i64 H) ∧ W.cell? ⟨pBF, 2, none⟩ = some (.slice a len cap) ∧ W.cell? ⟨tb, toff + q, none⟩ = some (.string tq)) := fun W hW =>
        ⟨(HBr.out.below hW).c0, (HBr.out.below hW).c1, (HBr.out.below hW).c2, (HWr.out.below hW).c0, (HWr.out.below hW).c1, (HWr.out.below hW).c2, (hW.cell (p := ⟨tb, toff + q, none⟩) HTL.out).trans HTC.out⟩
      have hvv : (hv != hv) = false := by simp
      clear hhv
      go_wp2_with fail
      go_region_held (fun V => V.cell? ⟨pBX, 0, none⟩ = some (.bool A) ∧ V.cell? ⟨pBX, 1, none⟩ = some (.int .i64 H) ∧ V.cell? ⟨pBX, 2, none⟩ = some (.slice (some ⟨gx, 0, none⟩) len (len + 64)) ∧ V.cell? ⟨pBF, 0, none⟩ = some (.bool A) ∧ V.cell? ⟨pBF, 1, none⟩ = some (.int .i64 H) ∧ V.cell? ⟨pBF, 2, none⟩ = some (.slice a len cap) ∧ V.cell? ⟨tb, toff + q, none⟩ = some (.string tq)) (first | go_keep | exact E6.out | exact E7.out) (first
        | (go_at_call 11; refine (HHC.out _ ((Below.refl _ _).drew)).mono ?_; rintro e y6 ⟨rfl, hb6⟩; have HB6 := hide hb6; have E6 := hide (HSEV.out _ hb6); clear hb6)
        | (go_at_call 12; refine (HHR.out _ HB6.out).mono ?_; rintro e y7 ⟨rfl, hb7⟩; have HB7 := hide hb7; have E7 := hide (HSEV.out _ hb7); clear hb7))
      all_goals
        go_wp2_with fail
        go_roundw
        case rel => exact ⟨q + 1, by omega, by go_num, below_trans HBM.out HB7.out⟩
        case measure => (simp [intOf] <;> omega)
    · have hql : len2 = q := by omega
      subst hql
      have hqi : ¬ (len2 : Int) < (len2 : Int) := by omega
      have SZ_16 : Hid (u14.heap.size ≤ wr.heap.size) := (HBM.out).size
      have BF_16 := hide (BF_15.out.below HBM.out)
      have OX_16 := hide (OX_15.out.below HBM.out)
      have BX_16 := hide (BX_15.out.below HBM.out)
      have OZ_16 := hide (OZ_15.out.below HBM.out)
      have OV_16 := hide (OV_15.out.below HBM.out)
      have OF_16 := hide (OF_15.out.below HBM.out)
      have MQ_16 := hide (MQ_15.out.below HBM.out)
      have BQ_16 := hide (BQ_15.out.below HBM.out)
      have OO_16 := hide (OO_15.out.below HBM.out)
      have BO_16 := hide (BO_15.out.below HBM.out)
      have HB_16 := hide (below_trans HB_15.out HBM.out)
      clear BF_15 OX_15 BX_15 OZ_15 OV_15 OF_15 MQ_15 BQ_15 OO_15 BO_15 HB_15
      obtain ⟨u15, hu15⟩ : ∃ u, u = wr := ⟨_, rfl⟩
      rw [← hu15] at BF_16 OX_16 BX_16 OZ_16 OV_16 OF_16 MQ_16 BQ_16 OO_16 BO_16 HB_16 SZ_16 ⊢
      clear hu15 hq
      have x0 := BX_16.out.c0
      have x1 := BX_16.out.c1
      have x2 := BX_16.out.c2
      have x3 := BF_16.out.c0
      have x4 := BF_16.out.c1
      have x5 := BF_16.out.c2
      go_wp2_with fail
      have HC1 : Hid (∀ W, Below u15.heap.size u15 W → Calls Tryd.prog 13 #[.agg #[.bool A, .int .i64 H, .slice (some ⟨gx, 0, none⟩) len (len + 64)]] W fun e w' => e = .returned (.int .i64 (if kindN A H len = 3 then (70 : Int) else 0)) ∧ Below u15.heap.size u15 w') := fun W hW =>
        (check_any A H _ len _ W (kat_below HKW.out (below_trans HB_16.out hW)) (by omega)).mono fun e w' ⟨h1, h2⟩ => ⟨by first | exact h1 | (rw [h1]; rfl), hW.trans (h2.mono hW.size)⟩
      have HC2 : Hid (∀ W, Below u15.heap.size u15 W → Calls Tryd.prog 14 #[.agg #[.bool A, .int .i64 H, .slice a len cap]] W fun e w' => e = .returned (.int .i64 (if kindN A H len = 3 then (70 : Int) else 0)) ∧ Below u15.heap.size u15 w') := fun W hW =>
        (refCheck_any A H a len cap W (by omega)).mono fun e w' ⟨h1, h2⟩ => ⟨by first | exact h1 | (rw [h1]; rfl), hW.trans (h2.mono hW.size)⟩
      have HSEV : Hid (∀ W, Below u15.heap.size u15 W → W.cell? ⟨pBX, 0, none⟩ = some (.bool A) ∧ W.cell? ⟨pBX, 1, none⟩ = some (.int .i64 H) ∧ W.cell? ⟨pBX, 2, none⟩ = some (.slice (some ⟨gx, 0, none⟩) len (len + 64)) ∧ W.cell? ⟨pBF, 0, none⟩ = some (.bool A) ∧ W.cell? ⟨pBF, 1, none⟩ = some (.int .i64 H) ∧ W.cell? ⟨pBF, 2, none⟩ = some (.slice a len cap)) := fun W hW =>
        ⟨(BX_16.out.below hW).c0, (BX_16.out.below hW).c1, (BX_16.out.below hW).c2, (BF_16.out.below hW).c0, (BF_16.out.below hW).c1, (BF_16.out.below hW).c2⟩
      have HC3 : Hid (∀ W, Below u15.heap.size u15 W → Calls Tryd.prog 15 #[.slice za NE zc, .slice va NE vc] W fun e w' => e = .returned (.bool true) ∧ Below u15.heap.size u15 w') := fun W hW =>
        (same_eq za va NE zc NE vc EB W ((HRDE.out _ _ _ _ OZ_16.out).below hW) ((HRDE.out _ _ _ _ OV_16.out).below hW)).mono fun e w' ⟨h1, h2⟩ => ⟨h1, hW.trans (h2.mono hW.size)⟩
      have HC4 : Hid (∀ W, Below u15.heap.size u15 W → Calls Tryd.prog 16 #[.agg #[.bool A, .int .i64 H, .slice (some ⟨gx, 0, none⟩) len (len + 64)], .agg #[.bool A, .int .i64 H, .slice a len cap]] W fun e w' => e = .returned (.bool true) ∧ Below u15.heap.size u15 w') := fun W hW =>
        (kept_any A H gx len _ a cap xs W (OX_16.out.below hW) ((RX.out.below HB_16.out).below hW) hlen).mono fun e w' ⟨h1, h2⟩ => ⟨h1, hW.trans (h2.mono hW.size)⟩
      have eee : (EE == EE) = true := by simp
      have wNE : IntKind.i64.wrap ((NE : Int) + 64) = (NE : Int) + 64 := by rw [IntKind.wrap_i64]; omega
      have kkk : (((NE : Int) + 64) == ((NE : Int) + 64)) = true := by simp
      obtain ⟨ck, hck⟩ : ∃ ck, (if kindN A H len = 3 then (70 : Int) else 0) = ck := ⟨_, rfl⟩
      rw [hck] at HC1 HC2
      have ckk : (ck == ck) = true := by simp
      clear hck
      go_region_held (fun V => V.cell? ⟨pBX, 0, none⟩ = some (.bool A) ∧ V.cell? ⟨pBX, 1, none⟩ = some (.int .i64 H) ∧ V.cell? ⟨pBX, 2, none⟩ = some (.slice (some ⟨gx, 0, none⟩) len (len + 64)) ∧ V.cell? ⟨pBF, 0, none⟩ = some (.bool A) ∧ V.cell? ⟨pBF, 1, none⟩ = some (.int .i64 H) ∧ V.cell? ⟨pBF, 2, none⟩ = some (.slice a len cap)) (first | go_keep | exact E1.out | exact E2.out | exact E3.out | exact E4.out) (first
        | (go_at_call 13; refine (HC1.out _ ((Below.refl _ _).drew)).mono ?_; rintro e y1 ⟨rfl, hb1⟩; have HB1 := hide hb1; have E1 := hide (HSEV.out _ hb1); clear hb1)
        | (go_at_call 14; refine (HC2.out _ HB1.out).mono ?_; rintro e y2 ⟨rfl, hb2⟩; have HB2 := hide hb2; have E2 := hide (HSEV.out _ hb2); clear hb2)
        | (go_at_call 15; refine (HC3.out _ HB2.out).mono ?_; rintro e y3 ⟨rfl, hb3⟩; have HB3 := hide hb3; have E3 := hide (HSEV.out _ hb3); clear hb3)
        | (go_at_call 16; refine (HC4.out _ HB3.out).mono ?_; rintro e y4 ⟨rfl, hb4⟩; have HB4 := hide hb4; have E4 := hide (HSEV.out _ hb4); clear hb4))
      have SZ_17 : Hid (u15.heap.size ≤ y4.heap.size) := (HB4.out).size
      have BF_17 := hide (BF_16.out.below HB4.out)
      have OX_17 := hide (OX_16.out.below HB4.out)
      have BX_17 := hide (BX_16.out.below HB4.out)
      have OZ_17 := hide (OZ_16.out.below HB4.out)
      have OV_17 := hide (OV_16.out.below HB4.out)
      have OF_17 := hide (OF_16.out.below HB4.out)
      have MQ_17 := hide (MQ_16.out.below HB4.out)
      have BQ_17 := hide (BQ_16.out.below HB4.out)
      have OO_17 := hide (OO_16.out.below HB4.out)
      have BO_17 := hide (BO_16.out.below HB4.out)
      have HB_17 := hide (below_trans HB_16.out HB4.out)
      clear BF_16 OX_16 BX_16 OZ_16 OV_16 OF_16 MQ_16 BQ_16 OO_16 BO_16 HB_16 x0 x1 x2 x3 x4 x5
      clear HC1 HC2 HC3 HC4 HSEV E1 E2 E3 HB1 HB2 HB3 ckk eee kkk wNE
      have dd : (DE != DE) = false := by simp
      have kd : (((ND : Int) + 64) != ((ND : Int) + 64)) = false := by simp
      have x0 := BQ_17.out.c0
      have x1 := BQ_17.out.c1
      have x2 := BQ_17.out.c2
      have x3 := BO_17.out.c0
      have x4 := BO_17.out.c1
      have x5 := BO_17.out.c2
      go_wp2_with fail
      refine (alike_eq DA DH qa oa ND qc ND oc DD y4 (HMDD.out _ _ _ _ MQ_17.out) (HRDD.out _ _ _ _ OO_17.out)).mono ?_
      rintro e u16 ⟨rfl, hb16⟩
      have SZ_18 : Hid (y4.heap.size ≤ u16.heap.size) := (hb16).size
      have BF_18 := hide (BF_17.out.below hb16)
      have OX_18 := hide (OX_17.out.below hb16)
      have BX_18 := hide (BX_17.out.below hb16)
      have OZ_18 := hide (OZ_17.out.below hb16)
      have OV_18 := hide (OV_17.out.below hb16)
      have OF_18 := hide (OF_17.out.below hb16)
      have MQ_18 := hide (MQ_17.out.below hb16)
      have BQ_18 := hide (BQ_17.out.below hb16)
      have OO_18 := hide (OO_17.out.below hb16)
      have BO_18 := hide (BO_17.out.below hb16)
      have HB_18 := hide (below_trans HB_17.out hb16)
      clear BF_17 OX_17 BX_17 OZ_17 OV_17 OF_17 MQ_17 BQ_17 OO_17 BO_17 HB_17 x0 x1 x2 x3 x4 x5 hb16
      have x0 := BO_18.out.c0
      have x1 := BO_18.out.c1
      have x2 := BO_18.out.c2
      go_wp2_with fail
      refine (roomy_any b n c ys u16 (RY.out.below HB_18.out) hn).mono ?_
      rintro e u17 ⟨gr, rfl, hgr, hor, hb17⟩
      have OR_19 := hide hor
      clear hor
      have SZ_19 : Hid (u16.heap.size ≤ u17.heap.size) := (hb17).size
      have BF_19 := hide (BF_18.out.below hb17)
      have OX_19 := hide (OX_18.out.below hb17)
      have BX_19 := hide (BX_18.out.below hb17)
      have OZ_19 := hide (OZ_18.out.below hb17)
      have OV_19 := hide (OV_18.out.below hb17)
      have OF_19 := hide (OF_18.out.below hb17)
      have MQ_19 := hide (MQ_18.out.below hb17)
      have BQ_19 := hide (BQ_18.out.below hb17)
      have OO_19 := hide (OO_18.out.below hb17)
      have BO_19 := hide (BO_18.out.below hb17)
      have HB_19 := hide (below_trans HB_18.out hb17)
      clear BF_18 OX_18 BX_18 OZ_18 OV_18 OF_18 MQ_18 BQ_18 OO_18 BO_18 HB_18 x0 x1 x2 hb17
      clear hgr
      go_wp2_with fail
      refine (same_eq _ _ (n + 64) (n + 64) (n + 64) (n + 64) (ys ++ marks8) u17 (room_all OF_19.out HYL.out hn) (room_all OR_19.out HYL.out hn)).mono ?_
      rintro e u18 ⟨rfl, hb18⟩
      have SZ_20 : Hid (u17.heap.size ≤ u18.heap.size) := (hb18).size
      have BF_20 := hide (BF_19.out.below hb18)
      have OX_20 := hide (OX_19.out.below hb18)
      have BX_20 := hide (BX_19.out.below hb18)
      have OZ_20 := hide (OZ_19.out.below hb18)
      have OV_20 := hide (OV_19.out.below hb18)
      have OF_20 := hide (OF_19.out.below hb18)
      have MQ_20 := hide (MQ_19.out.below hb18)
      have BQ_20 := hide (BQ_19.out.below hb18)
      have OO_20 := hide (OO_19.out.below hb18)
      have BO_20 := hide (BO_19.out.below hb18)
      have OR_20 := hide (OR_19.out.below hb18)
      have HB_20 := hide (below_trans HB_19.out hb18)
      clear BF_19 OX_19 BX_19 OZ_19 OV_19 OF_19 MQ_19 BQ_19 OO_19 BO_19 OR_19 HB_19 hb18
      clear OR_20
      have x0 := BF_20.out.c0
      have x1 := BF_20.out.c1
      have x2 := BF_20.out.c2
      go_wp2_with fail
      refine (given_any A H a len cap xs u18 (RX.out.below HB_20.out) hlen).mono ?_
      rintro e u19 ⟨gp, rfl, hgp, hop, hb19⟩
      have OP_21 := hide hop
      clear hop
      have SZ_21 : Hid (u18.heap.size ≤ u19.heap.size) := (hb19).size
      have BF_21 := hide (BF_20.out.below hb19)
      have OX_21 := hide (OX_20.out.below hb19)
      have BX_21 := hide (BX_20.out.below hb19)
      have OZ_21 := hide (OZ_20.out.below hb19)
      have OV_21 := hide (OV_20.out.below hb19)
      have OF_21 := hide (OF_20.out.below hb19)
      have MQ_21 := hide (MQ_20.out.below hb19)
      have BQ_21 := hide (BQ_20.out.below hb19)
      have OO_21 := hide (OO_20.out.below hb19)
      have BO_21 := hide (BO_20.out.below hb19)
      have HB_21 := hide (below_trans HB_20.out hb19)
      clear BF_20 OX_20 BX_20 OZ_20 OV_20 OF_20 MQ_20 BQ_20 OO_20 BO_20 HB_20 x0 x1 x2 hb19
      clear hgp
      have L_OP : Hid (∀ i, (Value.slice (some ⟨gp, 0, none⟩) (len + 64) (len + 64)).ownBlock = some i → u18.heap.size ≤ i ∧ i < u19.heap.size) := (own_bl OP_21.out)
      obtain ⟨u20, pBT, eBT, sBT, BT_22, hbBT, _⟩ := laid_new (Below.refl u19.heap.size u19) A H (.slice (some ⟨gp, 0, none⟩) len (len + 64))
      have SZ_22 : Hid (u19.heap.size ≤ u20.heap.size) := (hbBT.out).size
      have BF_22 := hide (BF_21.out.below hbBT.out)
      have OX_22 := hide (OX_21.out.below hbBT.out)
      have BX_22 := hide (BX_21.out.below hbBT.out)
      have OZ_22 := hide (OZ_21.out.below hbBT.out)
      have OV_22 := hide (OV_21.out.below hbBT.out)
      have OF_22 := hide (OF_21.out.below hbBT.out)
      have MQ_22 := hide (MQ_21.out.below hbBT.out)
      have BQ_22 := hide (BQ_21.out.below hbBT.out)
      have OO_22 := hide (OO_21.out.below hbBT.out)
      have BO_22 := hide (BO_21.out.below hbBT.out)
      have OP_22 := hide (OP_21.out.below hbBT.out)
      have HB_22 := hide (below_trans HB_21.out hbBT.out)
      clear BF_21 OX_21 BX_21 OZ_21 OV_21 OF_21 MQ_21 BQ_21 OO_21 BO_21 OP_21 HB_21
      clear hbBT
      obtain ⟨H9, hH9⟩ : ∃ H9, IntKind.i64.wrap (H + 9) = H9 := ⟨_, rfl⟩
      have hH9b : wrap64 (H + 9) = H9 := by first | exact hH9 | (rw [← hH9, IntKind.wrap_i64]; unfold wrap64; rfl) | (rw [← hH9, IntKind.wrap_i64]; unfold wrap64; omega)
      have q0 := (BX_22.out).c0
      have q1 := (BX_22.out).c1
      have q2 := (BX_22.out).c2
      obtain ⟨u21, u22, pBW, eBW, fBW, sBW, FBW, BW_23, gBW, hbBW⟩ := laid_set u20 A H (.slice (some ⟨gx, 0, none⟩) len (len + 64)) H9
      have q3 := (BX_22.out.below gBW.out).c1
      have q4 := (FBW.out).c1
      have q5 := (FBW.out).fz 1
      have SZ_23 : Hid (u20.heap.size ≤ u22.heap.size) := (hbBW.out).size
      have BF_23 := hide (BF_22.out.below hbBW.out)
      have OX_23 := hide (OX_22.out.below hbBW.out)
      have BX_23 := hide (BX_22.out.below hbBW.out)
      have OZ_23 := hide (OZ_22.out.below hbBW.out)
      have OV_23 := hide (OV_22.out.below hbBW.out)
      have OF_23 := hide (OF_22.out.below hbBW.out)
      have MQ_23 := hide (MQ_22.out.below hbBW.out)
      have BQ_23 := hide (BQ_22.out.below hbBW.out)
      have OO_23 := hide (OO_22.out.below hbBW.out)
      have BO_23 := hide (BO_22.out.below hbBW.out)
      have OP_23 := hide (OP_22.out.below hbBW.out)
      have BT_23 := hide (BT_22.out.below hbBW.out)
      have HB_23 := hide (below_trans HB_22.out hbBW.out)
      clear BF_22 OX_22 BX_22 OZ_22 OV_22 OF_22 MQ_22 BQ_22 OO_22 BO_22 OP_22 BT_22 HB_22
      clear hbBW gBW FBW
      have q6 := (BT_23.out).c0
      have q7 := (BT_23.out).c1
      have q8 := (BT_23.out).c2
      obtain ⟨u23, u24, pBB, eBB, fBB, sBB, FBB, BB_24, gBB, hbBB⟩ := laid_set u22 A H (.slice (some ⟨gp, 0, none⟩) len (len + 64)) H9
      have q9 := (BF_23.out.below gBB.out).c1
      have q10 := (FBB.out).c1
      have q11 := (FBB.out).fz 1
      have SZ_24 : Hid (u22.heap.size ≤ u24.heap.size) := (hbBB.out).size
      have BF_24 := hide (BF_23.out.below hbBB.out)
      have OX_24 := hide (OX_23.out.below hbBB.out)
      have BX_24 := hide (BX_23.out.below hbBB.out)
      have OZ_24 := hide (OZ_23.out.below hbBB.out)
      have OV_24 := hide (OV_23.out.below hbBB.out)
      have OF_24 := hide (OF_23.out.below hbBB.out)
      have MQ_24 := hide (MQ_23.out.below hbBB.out)
      have BQ_24 := hide (BQ_23.out.below hbBB.out)
      have OO_24 := hide (OO_23.out.below hbBB.out)
      have BO_24 := hide (BO_23.out.below hbBB.out)
      have OP_24 := hide (OP_23.out.below hbBB.out)
      have BT_24 := hide (BT_23.out.below hbBB.out)
      have BW_24 := hide (BW_23.out.below hbBB.out)
      have HB_24 := hide (below_trans HB_23.out hbBB.out)
      clear BF_23 OX_23 BX_23 OZ_23 OV_23 OF_23 MQ_23 BQ_23 OO_23 BO_23 OP_23 BT_23 BW_23 HB_23
      clear hbBB gBB FBB
      go_wp2_with fail
      clear hH9 hH9b q0 q1 q2 q3 q4 q5 q6 q7 q8 q9 q10 q11
      have x0 := BW_24.out.c0
      have x1 := BW_24.out.c1
      have x2 := BW_24.out.c2
      have x3 := BB_24.out.c0
      have x4 := BB_24.out.c1
      have x5 := BB_24.out.c2
      have HC1 : Hid (∀ W, Below u24.heap.size u24 W → Calls Tryd.prog 13 #[.agg #[.bool A, .int .i64 H9, .slice (some ⟨gx, 0, none⟩) len (len + 64)]] W fun e w' => e = .returned (.int .i64 (if kindN A H9 len = 3 then (70 : Int) else 0)) ∧ Below u24.heap.size u24 w') := fun W hW =>
        (check_any A H9 _ len _ W (kat_below HKW.out (below_trans HB_24.out hW)) (by omega)).mono fun e w' ⟨h1, h2⟩ => ⟨by first | exact h1 | (rw [h1]; rfl), hW.trans (h2.mono hW.size)⟩
      have HC2 : Hid (∀ W, Below u24.heap.size u24 W → Calls Tryd.prog 14 #[.agg #[.bool A, .int .i64 H9, .slice (some ⟨gp, 0, none⟩) len (len + 64)]] W fun e w' => e = .returned (.int .i64 (if kindN A H9 len = 3 then (70 : Int) else 0)) ∧ Below u24.heap.size u24 w') := fun W hW =>
        (refCheck_any A H9 _ len _ W (by omega)).mono fun e w' ⟨h1, h2⟩ => ⟨by first | exact h1 | (rw [h1]; rfl), hW.trans (h2.mono hW.size)⟩
      have HSEV : Hid (∀ W, Below u24.heap.size u24 W → W.cell? ⟨pBW, 0, none⟩ = some (.bool A) ∧ W.cell? ⟨pBW, 1, none⟩ = some (.int .i64 H9) ∧ W.cell? ⟨pBW, 2, none⟩ = some (.slice (some ⟨gx, 0, none⟩) len (len + 64)) ∧ W.cell? ⟨pBB, 0, none⟩ = some (.bool A) ∧ W.cell? ⟨pBB, 1, none⟩ = some (.int .i64 H9) ∧ W.cell? ⟨pBB, 2, none⟩ = some (.slice (some ⟨gp, 0, none⟩) len (len + 64))) := fun W hW =>
        ⟨(BW_24.out.below hW).c0, (BW_24.out.below hW).c1, (BW_24.out.below hW).c2, (BB_24.out.below hW).c0, (BB_24.out.below hW).c1, (BB_24.out.below hW).c2⟩
      obtain ⟨ck, hck⟩ : ∃ ck, (if kindN A H9 len = 3 then (70 : Int) else 0) = ck := ⟨_, rfl⟩
      rw [hck] at HC1 HC2
      have ckk : (ck != ck) = false := by simp
      clear hck
      go_region_held (fun V => V.cell? ⟨pBW, 0, none⟩ = some (.bool A) ∧ V.cell? ⟨pBW, 1, none⟩ = some (.int .i64 H9) ∧ V.cell? ⟨pBW, 2, none⟩ = some (.slice (some ⟨gx, 0, none⟩) len (len + 64)) ∧ V.cell? ⟨pBB, 0, none⟩ = some (.bool A) ∧ V.cell? ⟨pBB, 1, none⟩ = some (.int .i64 H9) ∧ V.cell? ⟨pBB, 2, none⟩ = some (.slice (some ⟨gp, 0, none⟩) len (len + 64))) (first | go_keep | exact E1.out | exact E2.out) (first
        | (go_at_call 13; refine (HC1.out _ ((Below.refl _ _).drew)).mono ?_; rintro e y1 ⟨rfl, hb1⟩; have HB1 := hide hb1; have E1 := hide (HSEV.out _ hb1); clear hb1)
        | (go_at_call 14; refine (HC2.out _ HB1.out).mono ?_; rintro e y2 ⟨rfl, hb2⟩; have HB2 := hide hb2; have E2 := hide (HSEV.out _ hb2); clear hb2))
      have SZ_25 : Hid (u24.heap.size ≤ y2.heap.size) := (HB2.out).size
      have BF_25 := hide (BF_24.out.below HB2.out)
      have OX_25 := hide (OX_24.out.below HB2.out)
      have BX_25 := hide (BX_24.out.below HB2.out)
      have OZ_25 := hide (OZ_24.out.below HB2.out)
      have OV_25 := hide (OV_24.out.below HB2.out)
      have OF_25 := hide (OF_24.out.below HB2.out)
      have MQ_25 := hide (MQ_24.out.below HB2.out)
      have BQ_25 := hide (BQ_24.out.below HB2.out)
      have OO_25 := hide (OO_24.out.below HB2.out)
      have BO_25 := hide (BO_24.out.below HB2.out)
      have OP_25 := hide (OP_24.out.below HB2.out)
      have BT_25 := hide (BT_24.out.below HB2.out)
      have BW_25 := hide (BW_24.out.below HB2.out)
      have BB_25 := hide (BB_24.out.below HB2.out)
      have HB_25 := hide (below_trans HB_24.out HB2.out)
      clear BF_24 OX_24 BX_24 OZ_24 OV_24 OF_24 MQ_24 BQ_24 OO_24 BO_24 OP_24 BT_24 BW_24 BB_24 HB_24 x0 x1 x2 x3 x4 x5
      clear HC1 HC2 HSEV E1 HB1 ckk BW_25 BB_25
      have x0 := BT_25.out.c0
      have x1 := BT_25.out.c1
      have x2 := BT_25.out.c2
      go_wp2_with fail
      refine (turned_any gp len _ xs y2 HXL.out OP_25.out hlen).mono ?_
      rintro e u26 ⟨rfl, ho, hg⟩
      have BF_26 := hide (BF_25.out.grown hg (fb_ne_own BF_25.out OP_25.out))
      have OX_26 := hide (keep OX_25.out hg (fun i j e1 e2 => by have h1 := L_OX.out i e1; have h2 := L_OP.out gp rfl; have h3 := Option.some.inj e2; have c3 := SZ_3.out; have c4 := SZ_4.out; have c5 := SZ_5.out; have c6 := SZ_6.out; have c7 := SZ_7.out; have c8 := SZ_8.out; have c9 := SZ_9.out; have c10 := SZ_10.out; have c11 := SZ_11.out; have c12 := SZ_12.out; have c13 := SZ_13.out; have c14 := SZ_14.out; have c15 := SZ_15.out; have c16 := SZ_16.out; have c17 := SZ_17.out; have c18 := SZ_18.out; have c19 := SZ_19.out; have c20 := SZ_20.out; omega))
      have BX_26 := hide (BX_25.out.grown hg (fb_ne_own BX_25.out OP_25.out))
      have OZ_26 := hide (keep OZ_25.out hg (fun i j e1 e2 => by have h1 := L_OZ.out i e1; have h2 := L_OP.out gp rfl; have h3 := Option.some.inj e2; have c6 := SZ_6.out; have c7 := SZ_7.out; have c8 := SZ_8.out; have c9 := SZ_9.out; have c10 := SZ_10.out; have c11 := SZ_11.out; have c12 := SZ_12.out; have c13 := SZ_13.out; have c14 := SZ_14.out; have c15 := SZ_15.out; have c16 := SZ_16.out; have c17 := SZ_17.out; have c18 := SZ_18.out; have c19 := SZ_19.out; have c20 := SZ_20.out; omega))
      have OV_26 := hide (keep OV_25.out hg (fun i j e1 e2 => by have h1 := L_OV.out i e1; have h2 := L_OP.out gp rfl; have h3 := Option.some.inj e2; have c8 := SZ_8.out; have c9 := SZ_9.out; have c10 := SZ_10.out; have c11 := SZ_11.out; have c12 := SZ_12.out; have c13 := SZ_13.out; have c14 := SZ_14.out; have c15 := SZ_15.out; have c16 := SZ_16.out; have c17 := SZ_17.out; have c18 := SZ_18.out; have c19 := SZ_19.out; have c20 := SZ_20.out; omega))
      have OF_26 := hide (keep OF_25.out hg (fun i j e1 e2 => by have h1 := L_OF.out i e1; have h2 := L_OP.out gp rfl; have h3 := Option.some.inj e2; have c9 := SZ_9.out; have c10 := SZ_10.out; have c11 := SZ_11.out; have c12 := SZ_12.out; have c13 := SZ_13.out; have c14 := SZ_14.out; have c15 := SZ_15.out; have c16 := SZ_16.out; have c17 := SZ_17.out; have c18 := SZ_18.out; have c19 := SZ_19.out; have c20 := SZ_20.out; omega))
      have MQ_26 := hide (MQ_25.out.keep hg (fun i j e1 e2 => by have h1 := L_MQ.out i e1; have h2 := L_OP.out gp rfl; have h3 := Option.some.inj e2; have c12 := SZ_12.out; have c13 := SZ_13.out; have c14 := SZ_14.out; have c15 := SZ_15.out; have c16 := SZ_16.out; have c17 := SZ_17.out; have c18 := SZ_18.out; have c19 := SZ_19.out; have c20 := SZ_20.out; omega))
      have BQ_26 := hide (BQ_25.out.grown hg (fb_ne_own BQ_25.out OP_25.out))
      have OO_26 := hide (keep OO_25.out hg (fun i j e1 e2 => by have h1 := L_OO.out i e1; have h2 := L_OP.out gp rfl; have h3 := Option.some.inj e2; have c15 := SZ_15.out; have c16 := SZ_16.out; have c17 := SZ_17.out; have c18 := SZ_18.out; have c19 := SZ_19.out; have c20 := SZ_20.out; omega))
      have BO_26 := hide (BO_25.out.grown hg (fb_ne_own BO_25.out OP_25.out))
      have BT_26 := hide (BT_25.out.grown hg (fb_ne_own BT_25.out OP_25.out))
      have HB_26 := hide (HB_25.out.grown hg HB_25.out.size (fun i e => by have h1 := L_OP.out gp rfl; have h3 := Option.some.inj e; have c1 := SZ_1.out; have c2 := SZ_2.out; have c3 := SZ_3.out; have c4 := SZ_4.out; have c5 := SZ_5.out; have c6 := SZ_6.out; have c7 := SZ_7.out; have c8 := SZ_8.out; have c9 := SZ_9.out; have c10 := SZ_10.out; have c11 := SZ_11.out; have c12 := SZ_12.out; have c13 := SZ_13.out; have c14 := SZ_14.out; have c15 := SZ_15.out; have c16 := SZ_16.out; have c17 := SZ_17.out; have c18 := SZ_18.out; have c19 := SZ_19.out; have c20 := SZ_20.out; omega))
      have SZ_26 : Hid (y2.heap.size ≤ u26.heap.size) := hg.size
      have OP_26 := hide ho
      clear ho hg BF_25 OX_25 BX_25 OZ_25 OV_25 OF_25 MQ_25 BQ_25 OO_25 BO_25 OP_25 BT_25 HB_25 x0 x1 x2
      have x0 := BX_26.out.c0
      have x1 := BX_26.out.c1
      have x2 := BX_26.out.c2
      go_wp2_with fail
      refine (turned_any gx len _ xs u26 HXL.out OX_26.out hlen).mono ?_
      rintro e u27 ⟨rfl, ho, hg⟩
      have BF_27 := hide (BF_26.out.grown hg (fb_ne_own BF_26.out OX_26.out))
      have BX_27 := hide (BX_26.out.grown hg (fb_ne_own BX_26.out OX_26.out))
      have OZ_27 := hide (keep OZ_26.out hg (fun i j e1 e2 => by have h1 := L_OZ.out i e1; have h2 := L_OX.out gx rfl; have h3 := Option.some.inj e2; have c3 := SZ_3.out; have c4 := SZ_4.out; omega))
      have OV_27 := hide (keep OV_26.out hg (fun i j e1 e2 => by have h1 := L_OV.out i e1; have h2 := L_OX.out gx rfl; have h3 := Option.some.inj e2; have c3 := SZ_3.out; have c4 := SZ_4.out; have c5 := SZ_5.out; have c6 := SZ_6.out; omega))
      have OF_27 := hide (keep OF_26.out hg (fun i j e1 e2 => by have h1 := L_OF.out i e1; have h2 := L_OX.out gx rfl; have h3 := Option.some.inj e2; have c3 := SZ_3.out; have c4 := SZ_4.out; have c5 := SZ_5.out; have c6 := SZ_6.out; have c7 := SZ_7.out; omega))
      have MQ_27 := hide (MQ_26.out.keep hg (fun i j e1 e2 => by have h1 := L_MQ.out i e1; have h2 := L_OX.out gx rfl; have h3 := Option.some.inj e2; have c3 := SZ_3.out; have c4 := SZ_4.out; have c5 := SZ_5.out; have c6 := SZ_6.out; have c7 := SZ_7.out; have c8 := SZ_8.out; have c9 := SZ_9.out; have c10 := SZ_10.out; omega))
      have BQ_27 := hide (BQ_26.out.grown hg (fb_ne_own BQ_26.out OX_26.out))
      have OO_27 := hide (keep OO_26.out hg (fun i j e1 e2 => by have h1 := L_OO.out i e1; have h2 := L_OX.out gx rfl; have h3 := Option.some.inj e2; have c3 := SZ_3.out; have c4 := SZ_4.out; have c5 := SZ_5.out; have c6 := SZ_6.out; have c7 := SZ_7.out; have c8 := SZ_8.out; have c9 := SZ_9.out; have c10 := SZ_10.out; have c11 := SZ_11.out; have c12 := SZ_12.out; have c13 := SZ_13.out; omega))
      have BO_27 := hide (BO_26.out.grown hg (fb_ne_own BO_26.out OX_26.out))
      have BT_27 := hide (BT_26.out.grown hg (fb_ne_own BT_26.out OX_26.out))
      have OP_27 := hide (keep OP_26.out hg (fun i j e1 e2 => by have h1 := L_OP.out i e1; have h2 := L_OX.out gx rfl; have h3 := Option.some.inj e2; have c3 := SZ_3.out; have c4 := SZ_4.out; have c5 := SZ_5.out; have c6 := SZ_6.out; have c7 := SZ_7.out; have c8 := SZ_8.out; have c9 := SZ_9.out; have c10 := SZ_10.out; have c11 := SZ_11.out; have c12 := SZ_12.out; have c13 := SZ_13.out; have c14 := SZ_14.out; have c15 := SZ_15.out; have c16 := SZ_16.out; have c17 := SZ_17.out; have c18 := SZ_18.out; have c19 := SZ_19.out; have c20 := SZ_20.out; omega))
      have HB_27 := hide (HB_26.out.grown hg HB_26.out.size (fun i e => by have h1 := L_OX.out gx rfl; have h3 := Option.some.inj e; have c1 := SZ_1.out; omega))
      have SZ_27 : Hid (u26.heap.size ≤ u27.heap.size) := hg.size
      have OX_27 := hide ho
      clear ho hg BF_26 OX_26 BX_26 OZ_26 OV_26 OF_26 MQ_26 BQ_26 OO_26 BO_26 BT_26 OP_26 HB_26 x0 x1 x2
      have x0 := BX_27.out.c0
      have x1 := BX_27.out.c1
      have x2 := BX_27.out.c2
      go_wp2_with fail
      refine (enc_own A H _ len _ (turnL xs) TB TE NT u27 HNT.out HTF.out (kat_below HKW.out HB_27.out) (given_rd OX_27.out HTXL.out hlen) hlen (fun h => by cases h)).mono ?_
      rintro e u28 ⟨sa, sc, rfl, hos, hb28⟩
      have OS_28 := hide hos
      clear hos
      have SZ_28 : Hid (u27.heap.size ≤ u28.heap.size) := (hb28).size
      have BF_28 := hide (BF_27.out.below hb28)
      have BX_28 := hide (BX_27.out.below hb28)
      have OZ_28 := hide (OZ_27.out.below hb28)
      have OV_28 := hide (OV_27.out.below hb28)
      have OF_28 := hide (OF_27.out.below hb28)
      have MQ_28 := hide (MQ_27.out.below hb28)
      have BQ_28 := hide (BQ_27.out.below hb28)
      have OO_28 := hide (OO_27.out.below hb28)
      have BO_28 := hide (BO_27.out.below hb28)
      have BT_28 := hide (BT_27.out.below hb28)
      have OP_28 := hide (OP_27.out.below hb28)
      have OX_28 := hide (OX_27.out.below hb28)
      have HB_28 := hide (below_trans HB_27.out hb28)
      clear BF_27 BX_27 OZ_27 OV_27 OF_27 MQ_27 BQ_27 OO_27 BO_27 BT_27 OP_27 OX_27 HB_27 x0 x1 x2 hb28
      have L_OS : Hid (∀ i, (Value.slice sa NT sc).ownBlock = some i → u27.heap.size ≤ i ∧ i < u28.heap.size) := (own_bl OS_28.out)
      have x0 := BT_28.out.c0
      have x1 := BT_28.out.c1
      have x2 := BT_28.out.c2
      go_wp2_with fail
      refine (renc_own A H _ len _ (turnL xs) TB TE NT u28 HNT.out HTF.out (given_rd OP_28.out HTXL.out hlen) hlen (fun h => by cases h)).mono ?_
      rintro e u29 ⟨ta, tc, rfl, hot, hb29⟩
      have OT_29 := hide hot
      clear hot
      have SZ_29 : Hid (u28.heap.size ≤ u29.heap.size) := (hb29).size
      have BF_29 := hide (BF_28.out.below hb29)
      have BX_29 := hide (BX_28.out.below hb29)
      have OZ_29 := hide (OZ_28.out.below hb29)
      have OV_29 := hide (OV_28.out.below hb29)
      have OF_29 := hide (OF_28.out.below hb29)
      have MQ_29 := hide (MQ_28.out.below hb29)
      have BQ_29 := hide (BQ_28.out.below hb29)
      have OO_29 := hide (OO_28.out.below hb29)
      have BO_29 := hide (BO_28.out.below hb29)
      have BT_29 := hide (BT_28.out.below hb29)
      have OP_29 := hide (OP_28.out.below hb29)
      have OX_29 := hide (OX_28.out.below hb29)
      have OS_29 := hide (OS_28.out.below hb29)
      have HB_29 := hide (below_trans HB_28.out hb29)
      clear BF_28 BX_28 OZ_28 OV_28 OF_28 MQ_28 BQ_28 OO_28 BO_28 BT_28 OP_28 OX_28 OS_28 HB_28 x0 x1 x2 hb29
      have L_OT : Hid (∀ i, (Value.slice ta NT tc).ownBlock = some i → u28.heap.size ≤ i ∧ i < u29.heap.size) := (own_bl OT_29.out)
      go_wp2_with fail
      refine (turned_any gf n _ ys u29 HYL.out OF_29.out hn).mono ?_
      rintro e u30 ⟨rfl, ho, hg⟩
      have BF_30 := hide (BF_29.out.grown hg (fb_ne_own BF_29.out OF_29.out))
      have BX_30 := hide (BX_29.out.grown hg (fb_ne_own BX_29.out OF_29.out))
      have OZ_30 := hide (keep OZ_29.out hg (fun i j e1 e2 => by have h1 := L_OZ.out i e1; have h2 := L_OF.out gf rfl; have h3 := Option.some.inj e2; have c6 := SZ_6.out; have c7 := SZ_7.out; omega))
      have OV_30 := hide (keep OV_29.out hg (fun i j e1 e2 => by have h1 := L_OV.out i e1; have h2 := L_OF.out gf rfl; have h3 := Option.some.inj e2;  omega))
      have MQ_30 := hide (MQ_29.out.keep hg (fun i j e1 e2 => by have h1 := L_MQ.out i e1; have h2 := L_OF.out gf rfl; have h3 := Option.some.inj e2; have c9 := SZ_9.out; have c10 := SZ_10.out; omega))
      have BQ_30 := hide (BQ_29.out.grown hg (fb_ne_own BQ_29.out OF_29.out))
      have OO_30 := hide (keep OO_29.out hg (fun i j e1 e2 => by have h1 := L_OO.out i e1; have h2 := L_OF.out gf rfl; have h3 := Option.some.inj e2; have c9 := SZ_9.out; have c10 := SZ_10.out; have c11 := SZ_11.out; have c12 := SZ_12.out; have c13 := SZ_13.out; omega))
      have BO_30 := hide (BO_29.out.grown hg (fb_ne_own BO_29.out OF_29.out))
      have BT_30 := hide (BT_29.out.grown hg (fb_ne_own BT_29.out OF_29.out))
      have OP_30 := hide (keep OP_29.out hg (fun i j e1 e2 => by have h1 := L_OP.out i e1; have h2 := L_OF.out gf rfl; have h3 := Option.some.inj e2; have c9 := SZ_9.out; have c10 := SZ_10.out; have c11 := SZ_11.out; have c12 := SZ_12.out; have c13 := SZ_13.out; have c14 := SZ_14.out; have c15 := SZ_15.out; have c16 := SZ_16.out; have c17 := SZ_17.out; have c18 := SZ_18.out; have c19 := SZ_19.out; have c20 := SZ_20.out; omega))
      have OX_30 := hide (keep OX_29.out hg (fun i j e1 e2 => by have h1 := L_OX.out i e1; have h2 := L_OF.out gf rfl; have h3 := Option.some.inj e2; have c3 := SZ_3.out; have c4 := SZ_4.out; have c5 := SZ_5.out; have c6 := SZ_6.out; have c7 := SZ_7.out; omega))
      have OS_30 := hide (keep OS_29.out hg (fun i j e1 e2 => by have h1 := L_OS.out i e1; have h2 := L_OF.out gf rfl; have h3 := Option.some.inj e2; have c9 := SZ_9.out; have c10 := SZ_10.out; have c11 := SZ_11.out; have c12 := SZ_12.out; have c13 := SZ_13.out; have c14 := SZ_14.out; have c15 := SZ_15.out; have c16 := SZ_16.out; have c17 := SZ_17.out; have c18 := SZ_18.out; have c19 := SZ_19.out; have c20 := SZ_20.out; have c21 := SZ_21.out; have c22 := SZ_22.out; have c23 := SZ_23.out; have c24 := SZ_24.out; have c25 := SZ_25.out; have c26 := SZ_26.out; have c27 := SZ_27.out; omega))
      have OT_30 := hide (keep OT_29.out hg (fun i j e1 e2 => by have h1 := L_OT.out i e1; have h2 := L_OF.out gf rfl; have h3 := Option.some.inj e2; have c9 := SZ_9.out; have c10 := SZ_10.out; have c11 := SZ_11.out; have c12 := SZ_12.out; have c13 := SZ_13.out; have c14 := SZ_14.out; have c15 := SZ_15.out; have c16 := SZ_16.out; have c17 := SZ_17.out; have c18 := SZ_18.out; have c19 := SZ_19.out; have c20 := SZ_20.out; have c21 := SZ_21.out; have c22 := SZ_22.out; have c23 := SZ_23.out; have c24 := SZ_24.out; have c25 := SZ_25.out; have c26 := SZ_26.out; have c27 := SZ_27.out; have c28 := SZ_28.out; omega))
      have HB_30 := hide (HB_29.out.grown hg HB_29.out.size (fun i e => by have h1 := L_OF.out gf rfl; have h3 := Option.some.inj e; have c1 := SZ_1.out; have c2 := SZ_2.out; have c3 := SZ_3.out; have c4 := SZ_4.out; have c5 := SZ_5.out; have c6 := SZ_6.out; have c7 := SZ_7.out; omega))
      have SZ_30 : Hid (u29.heap.size ≤ u30.heap.size) := hg.size
      have OF_30 := hide ho
      clear ho hg BF_29 BX_29 OZ_29 OV_29 OF_29 MQ_29 BQ_29 OO_29 BO_29 BT_29 OP_29 OX_29 OS_29 OT_29 HB_29
      go_wp2_with fail
      refine (dec_own (some ⟨gf, 0, none⟩) n (n + 64) (turnL ys) UA UH UD UE NU u30 HNU.out HUF.out (kat_below HKW.out HB_30.out) (given_rd OF_30.out HTYL.out hn) hn64 (fun h => by cases h)).mono ?_
      rintro e u31 ⟨ua, uc, rfl, hmu, hb31⟩
      have MU_31 := hide hmu
      clear hmu
      have SZ_31 : Hid (u30.heap.size ≤ u31.heap.size) := (hb31).size
      have BF_31 := hide (BF_30.out.below hb31)
      have BX_31 := hide (BX_30.out.below hb31)
      have OZ_31 := hide (OZ_30.out.below hb31)
      have OV_31 := hide (OV_30.out.below hb31)
      have MQ_31 := hide (MQ_30.out.below hb31)
      have BQ_31 := hide (BQ_30.out.below hb31)
      have OO_31 := hide (OO_30.out.below hb31)
      have BO_31 := hide (BO_30.out.below hb31)
      have BT_31 := hide (BT_30.out.below hb31)
      have OP_31 := hide (OP_30.out.below hb31)
      have OX_31 := hide (OX_30.out.below hb31)
      have OS_31 := hide (OS_30.out.below hb31)
      have OT_31 := hide (OT_30.out.below hb31)
      have OF_31 := hide (OF_30.out.below hb31)
      have HB_31 := hide (below_trans HB_30.out hb31)
      clear BF_30 BX_30 OZ_30 OV_30 MQ_30 BQ_30 OO_30 BO_30 BT_30 OP_30 OX_30 OS_30 OT_30 OF_30 HB_30 hb31
      have L_MU : Hid (∀ i, (Value.slice ua NU uc).ownBlock = some i → u30.heap.size ≤ i ∧ i < u31.heap.size) := (MU_31.out.blk)
      obtain ⟨u32, pBU, eBU, sBU, BU_32, hbBU, _⟩ := laid_new (Below.refl u31.heap.size u31) UA UH (.slice ua NU uc)
      have SZ_32 : Hid (u31.heap.size ≤ u32.heap.size) := (hbBU.out).size
      have BF_32 := hide (BF_31.out.below hbBU.out)
      have BX_32 := hide (BX_31.out.below hbBU.out)
      have OZ_32 := hide (OZ_31.out.below hbBU.out)
      have OV_32 := hide (OV_31.out.below hbBU.out)
      have MQ_32 := hide (MQ_31.out.below hbBU.out)
      have BQ_32 := hide (BQ_31.out.below hbBU.out)
      have OO_32 := hide (OO_31.out.below hbBU.out)
      have BO_32 := hide (BO_31.out.below hbBU.out)
      have BT_32 := hide (BT_31.out.below hbBU.out)
      have OP_32 := hide (OP_31.out.below hbBU.out)
      have OX_32 := hide (OX_31.out.below hbBU.out)
      have OS_32 := hide (OS_31.out.below hbBU.out)
      have OT_32 := hide (OT_31.out.below hbBU.out)
      have OF_32 := hide (OF_31.out.below hbBU.out)
      have MU_32 := hide (MU_31.out.below hbBU.out)
      have HB_32 := hide (below_trans HB_31.out hbBU.out)
      clear BF_31 BX_31 OZ_31 OV_31 MQ_31 BQ_31 OO_31 BO_31 BT_31 OP_31 OX_31 OS_31 OT_31 OF_31 MU_31 HB_31
      clear hbBU
      go_wp2_with fail
      refine (roomy_any b n c ys u32 (RY.out.below HB_32.out) hn).mono ?_
      rintro e u33 ⟨gg, rfl, hgg, hog, hb33⟩
      have OG_33 := hide hog
      clear hog
      have SZ_33 : Hid (u32.heap.size ≤ u33.heap.size) := (hb33).size
      have BF_33 := hide (BF_32.out.below hb33)
      have BX_33 := hide (BX_32.out.below hb33)
      have OZ_33 := hide (OZ_32.out.below hb33)
      have OV_33 := hide (OV_32.out.below hb33)
      have MQ_33 := hide (MQ_32.out.below hb33)
      have BQ_33 := hide (BQ_32.out.below hb33)
      have OO_33 := hide (OO_32.out.below hb33)
      have BO_33 := hide (BO_32.out.below hb33)
      have BT_33 := hide (BT_32.out.below hb33)
      have OP_33 := hide (OP_32.out.below hb33)
      have OX_33 := hide (OX_32.out.below hb33)
      have OS_33 := hide (OS_32.out.below hb33)
      have OT_33 := hide (OT_32.out.below hb33)
      have OF_33 := hide (OF_32.out.below hb33)
      have MU_33 := hide (MU_32.out.below hb33)
      have BU_33 := hide (BU_32.out.below hb33)
      have HB_33 := hide (below_trans HB_32.out hb33)
      clear BF_32 BX_32 OZ_32 OV_32 MQ_32 BQ_32 OO_32 BO_32 BT_32 OP_32 OX_32 OS_32 OT_32 OF_32 MU_32 BU_32 HB_32 hb33
      clear hgg
      have L_OG : Hid (∀ i, (Value.slice (some ⟨gg, 0, none⟩) (n + 64) (n + 64)).ownBlock = some i → u32.heap.size ≤ i ∧ i < u33.heap.size) := (own_bl OG_33.out)
      go_wp2_with fail
      refine (turned_any gg n _ ys u33 HYL.out OG_33.out hn).mono ?_
      rintro e u34 ⟨rfl, ho, hg⟩
      have BF_34 := hide (BF_33.out.grown hg (fb_ne_own BF_33.out OG_33.out))
      have BX_34 := hide (BX_33.out.grown hg (fb_ne_own BX_33.out OG_33.out))
      have OZ_34 := hide (keep OZ_33.out hg (fun i j e1 e2 => by have h1 := L_OZ.out i e1; have h2 := L_OG.out gg rfl; have h3 := Option.some.inj e2; have c6 := SZ_6.out; have c7 := SZ_7.out; have c8 := SZ_8.out; have c9 := SZ_9.out; have c10 := SZ_10.out; have c11 := SZ_11.out; have c12 := SZ_12.out; have c13 := SZ_13.out; have c14 := SZ_14.out; have c15 := SZ_15.out; have c16 := SZ_16.out; have c17 := SZ_17.out; have c18 := SZ_18.out; have c19 := SZ_19.out; have c20 := SZ_20.out; have c21 := SZ_21.out; have c22 := SZ_22.out; have c23 := SZ_23.out; have c24 := SZ_24.out; have c25 := SZ_25.out; have c26 := SZ_26.out; have c27 := SZ_27.out; have c28 := SZ_28.out; have c29 := SZ_29.out; have c30 := SZ_30.out; have c31 := SZ_31.out; have c32 := SZ_32.out; omega))
      have OV_34 := hide (keep OV_33.out hg (fun i j e1 e2 => by have h1 := L_OV.out i e1; have h2 := L_OG.out gg rfl; have h3 := Option.some.inj e2; have c8 := SZ_8.out; have c9 := SZ_9.out; have c10 := SZ_10.out; have c11 := SZ_11.out; have c12 := SZ_12.out; have c13 := SZ_13.out; have c14 := SZ_14.out; have c15 := SZ_15.out; have c16 := SZ_16.out; have c17 := SZ_17.out; have c18 := SZ_18.out; have c19 := SZ_19.out; have c20 := SZ_20.out; have c21 := SZ_21.out; have c22 := SZ_22.out; have c23 := SZ_23.out; have c24 := SZ_24.out; have c25 := SZ_25.out; have c26 := SZ_26.out; have c27 := SZ_27.out; have c28 := SZ_28.out; have c29 := SZ_29.out; have c30 := SZ_30.out; have c31 := SZ_31.out; have c32 := SZ_32.out; omega))
      have MQ_34 := hide (MQ_33.out.keep hg (fun i j e1 e2 => by have h1 := L_MQ.out i e1; have h2 := L_OG.out gg rfl; have h3 := Option.some.inj e2; have c12 := SZ_12.out; have c13 := SZ_13.out; have c14 := SZ_14.out; have c15 := SZ_15.out; have c16 := SZ_16.out; have c17 := SZ_17.out; have c18 := SZ_18.out; have c19 := SZ_19.out; have c20 := SZ_20.out; have c21 := SZ_21.out; have c22 := SZ_22.out; have c23 := SZ_23.out; have c24 := SZ_24.out; have c25 := SZ_25.out; have c26 := SZ_26.out; have c27 := SZ_27.out; have c28 := SZ_28.out; have c29 := SZ_29.out; have c30 := SZ_30.out; have c31 := SZ_31.out; have c32 := SZ_32.out; omega))
      have BQ_34 := hide (BQ_33.out.grown hg (fb_ne_own BQ_33.out OG_33.out))
      have OO_34 := hide (keep OO_33.out hg (fun i j e1 e2 => by have h1 := L_OO.out i e1; have h2 := L_OG.out gg rfl; have h3 := Option.some.inj e2; have c15 := SZ_15.out; have c16 := SZ_16.out; have c17 := SZ_17.out; have c18 := SZ_18.out; have c19 := SZ_19.out; have c20 := SZ_20.out; have c21 := SZ_21.out; have c22 := SZ_22.out; have c23 := SZ_23.out; have c24 := SZ_24.out; have c25 := SZ_25.out; have c26 := SZ_26.out; have c27 := SZ_27.out; have c28 := SZ_28.out; have c29 := SZ_29.out; have c30 := SZ_30.out; have c31 := SZ_31.out; have c32 := SZ_32.out; omega))
      have BO_34 := hide (BO_33.out.grown hg (fb_ne_own BO_33.out OG_33.out))
      have BT_34 := hide (BT_33.out.grown hg (fb_ne_own BT_33.out OG_33.out))
      have OP_34 := hide (keep OP_33.out hg (fun i j e1 e2 => by have h1 := L_OP.out i e1; have h2 := L_OG.out gg rfl; have h3 := Option.some.inj e2; have c22 := SZ_22.out; have c23 := SZ_23.out; have c24 := SZ_24.out; have c25 := SZ_25.out; have c26 := SZ_26.out; have c27 := SZ_27.out; have c28 := SZ_28.out; have c29 := SZ_29.out; have c30 := SZ_30.out; have c31 := SZ_31.out; have c32 := SZ_32.out; omega))
      have OX_34 := hide (keep OX_33.out hg (fun i j e1 e2 => by have h1 := L_OX.out i e1; have h2 := L_OG.out gg rfl; have h3 := Option.some.inj e2; have c3 := SZ_3.out; have c4 := SZ_4.out; have c5 := SZ_5.out; have c6 := SZ_6.out; have c7 := SZ_7.out; have c8 := SZ_8.out; have c9 := SZ_9.out; have c10 := SZ_10.out; have c11 := SZ_11.out; have c12 := SZ_12.out; have c13 := SZ_13.out; have c14 := SZ_14.out; have c15 := SZ_15.out; have c16 := SZ_16.out; have c17 := SZ_17.out; have c18 := SZ_18.out; have c19 := SZ_19.out; have c20 := SZ_20.out; have c21 := SZ_21.out; have c22 := SZ_22.out; have c23 := SZ_23.out; have c24 := SZ_24.out; have c25 := SZ_25.out; have c26 := SZ_26.out; have c27 := SZ_27.out; have c28 := SZ_28.out; have c29 := SZ_29.out; have c30 := SZ_30.out; have c31 := SZ_31.out; have c32 := SZ_32.out; omega))
      have OS_34 := hide (keep OS_33.out hg (fun i j e1 e2 => by have h1 := L_OS.out i e1; have h2 := L_OG.out gg rfl; have h3 := Option.some.inj e2; have c29 := SZ_29.out; have c30 := SZ_30.out; have c31 := SZ_31.out; have c32 := SZ_32.out; omega))
      have OT_34 := hide (keep OT_33.out hg (fun i j e1 e2 => by have h1 := L_OT.out i e1; have h2 := L_OG.out gg rfl; have h3 := Option.some.inj e2; have c30 := SZ_30.out; have c31 := SZ_31.out; have c32 := SZ_32.out; omega))
      have OF_34 := hide (keep OF_33.out hg (fun i j e1 e2 => by have h1 := L_OF.out i e1; have h2 := L_OG.out gg rfl; have h3 := Option.some.inj e2; have c9 := SZ_9.out; have c10 := SZ_10.out; have c11 := SZ_11.out; have c12 := SZ_12.out; have c13 := SZ_13.out; have c14 := SZ_14.out; have c15 := SZ_15.out; have c16 := SZ_16.out; have c17 := SZ_17.out; have c18 := SZ_18.out; have c19 := SZ_19.out; have c20 := SZ_20.out; have c21 := SZ_21.out; have c22 := SZ_22.out; have c23 := SZ_23.out; have c24 := SZ_24.out; have c25 := SZ_25.out; have c26 := SZ_26.out; have c27 := SZ_27.out; have c28 := SZ_28.out; have c29 := SZ_29.out; have c30 := SZ_30.out; have c31 := SZ_31.out; have c32 := SZ_32.out; omega))
      have MU_34 := hide (MU_33.out.keep hg (fun i j e1 e2 => by have h1 := L_MU.out i e1; have h2 := L_OG.out gg rfl; have h3 := Option.some.inj e2; have c32 := SZ_32.out; omega))
      have BU_34 := hide (BU_33.out.grown hg (fb_ne_own BU_33.out OG_33.out))
      have HB_34 := hide (HB_33.out.grown hg HB_33.out.size (fun i e => by have h1 := L_OG.out gg rfl; have h3 := Option.some.inj e; have c1 := SZ_1.out; have c2 := SZ_2.out; have c3 := SZ_3.out; have c4 := SZ_4.out; have c5 := SZ_5.out; have c6 := SZ_6.out; have c7 := SZ_7.out; have c8 := SZ_8.out; have c9 := SZ_9.out; have c10 := SZ_10.out; have c11 := SZ_11.out; have c12 := SZ_12.out; have c13 := SZ_13.out; have c14 := SZ_14.out; have c15 := SZ_15.out; have c16 := SZ_16.out; have c17 := SZ_17.out; have c18 := SZ_18.out; have c19 := SZ_19.out; have c20 := SZ_20.out; have c21 := SZ_21.out; have c22 := SZ_22.out; have c23 := SZ_23.out; have c24 := SZ_24.out; have c25 := SZ_25.out; have c26 := SZ_26.out; have c27 := SZ_27.out; have c28 := SZ_28.out; have c29 := SZ_29.out; have c30 := SZ_30.out; have c31 := SZ_31.out; have c32 := SZ_32.out; omega))
      have SZ_34 : Hid (u33.heap.size ≤ u34.heap.size) := hg.size
      have OG_34 := hide ho
      clear ho hg BF_33 BX_33 OZ_33 OV_33 MQ_33 BQ_33 OO_33 BO_33 BT_33 OP_33 OX_33 OS_33 OT_33 OF_33 MU_33 BU_33 OG_33 HB_33
      go_wp2_with fail
      refine (rdec_own (some ⟨gg, 0, none⟩) n (n + 64) (turnL ys) UA UH UD UE NU u34 HNU.out HUF.out (given_rd OG_34.out HTYL.out hn) hn64 (by omega)).mono ?_
      rintro e u35 ⟨la, lc, rfl, hol, hb35⟩
      have OL_35 := hide hol
      clear hol
      have SZ_35 : Hid (u34.heap.size ≤ u35.heap.size) := (hb35).size
      have BF_35 := hide (BF_34.out.below hb35)
      have BX_35 := hide (BX_34.out.below hb35)
      have OZ_35 := hide (OZ_34.out.below hb35)
      have OV_35 := hide (OV_34.out.below hb35)
      have MQ_35 := hide (MQ_34.out.below hb35)
      have BQ_35 := hide (BQ_34.out.below hb35)
      have OO_35 := hide (OO_34.out.below hb35)
      have BO_35 := hide (BO_34.out.below hb35)
      have BT_35 := hide (BT_34.out.below hb35)
      have OP_35 := hide (OP_34.out.below hb35)
      have OX_35 := hide (OX_34.out.below hb35)
      have OS_35 := hide (OS_34.out.below hb35)
      have OT_35 := hide (OT_34.out.below hb35)
      have OF_35 := hide (OF_34.out.below hb35)
      have MU_35 := hide (MU_34.out.below hb35)
      have BU_35 := hide (BU_34.out.below hb35)
      have OG_35 := hide (OG_34.out.below hb35)
      have HB_35 := hide (below_trans HB_34.out hb35)
      clear BF_34 BX_34 OZ_34 OV_34 MQ_34 BQ_34 OO_34 BO_34 BT_34 OP_34 OX_34 OS_34 OT_34 OF_34 MU_34 BU_34 OG_34 HB_34 hb35
      have L_OL : Hid (∀ i, (Value.slice la NU lc).ownBlock = some i → u34.heap.size ≤ i ∧ i < u35.heap.size) := (own_bl OL_35.out)
      obtain ⟨u36, pBL, eBL, sBL, BL_36, hbBL, _⟩ := laid_new (Below.refl u35.heap.size u35) UA UH (.slice la NU lc)
      have SZ_36 : Hid (u35.heap.size ≤ u36.heap.size) := (hbBL.out).size
      have BF_36 := hide (BF_35.out.below hbBL.out)
      have BX_36 := hide (BX_35.out.below hbBL.out)
      have OZ_36 := hide (OZ_35.out.below hbBL.out)
      have OV_36 := hide (OV_35.out.below hbBL.out)
      have MQ_36 := hide (MQ_35.out.below hbBL.out)
      have BQ_36 := hide (BQ_35.out.below hbBL.out)
      have OO_36 := hide (OO_35.out.below hbBL.out)
      have BO_36 := hide (BO_35.out.below hbBL.out)
      have BT_36 := hide (BT_35.out.below hbBL.out)
      have OP_36 := hide (OP_35.out.below hbBL.out)
      have OX_36 := hide (OX_35.out.below hbBL.out)
      have OS_36 := hide (OS_35.out.below hbBL.out)
      have OT_36 := hide (OT_35.out.below hbBL.out)
      have OF_36 := hide (OF_35.out.below hbBL.out)
      have MU_36 := hide (MU_35.out.below hbBL.out)
      have BU_36 := hide (BU_35.out.below hbBL.out)
      have OG_36 := hide (OG_35.out.below hbBL.out)
      have OL_36 := hide (OL_35.out.below hbBL.out)
      have HB_36 := hide (below_trans HB_35.out hbBL.out)
      clear BF_35 BX_35 OZ_35 OV_35 MQ_35 BQ_35 OO_35 BO_35 BT_35 OP_35 OX_35 OS_35 OT_35 OF_35 MU_35 BU_35 OG_35 OL_35 HB_35
      clear hbBL
      go_wp2_with fail
      go_loopw [36] (fun i wr => ∃ q1 : Nat, q1 ≤ len2 ∧ i = .int .i64 ((q1 : Int) - 1) ∧ Hid (Below u36.heap.size u36 wr)) (fun i _ => (intOf i + 1).toNat)
      case atStart => exact ⟨len2, Nat.le_refl _, by first | rfl | go_num, Below.refl _ _⟩
      case round =>
        obtain ⟨q1, hq, rfl, HBM⟩ := hrel
        by_cases hlt : 0 < q1
        · obtain ⟨q, rfl⟩ : ∃ q, q1 = q + 1 := ⟨q1 - 1, by omega⟩
          have hlt : q < len2 := by omega
          have hqe : (((q + 1 : Nat) : Int) - 1) = (q : Int) := by omega
          rw [hqe]
          have hqi : (0 : Int) ≤ (q : Int) := by omega
          have HRq := hide (RT.out.below (below_trans HB_36.out HBM.out))
          obtain ⟨tb, toff, rfl, htb, hcell⟩ := HRq.out.2.2.2 (by omega)
          have tc := hcell q hlt
          have HTZ := hide (HRq.out.2.2.1 _ (getS_mem (i := q) (by rw [HLT.out]; exact hlt)))
          have HTL : Hid (tb < wr.heap.size) := htb
          generalize ts.getD q ⟨#[]⟩ = tq at tc HTZ
          clear hcell htb
          have HBr := hide (BX_36.out.below HBM.out)
          have HWr := hide (BT_36.out.below HBM.out)
          have nb0 := HBr.out.c0
          have nb1 := HBr.out.c1
          have nb2 := HBr.out.c2
          have nw0 := HWr.out.c0
          have nw1 := HWr.out.c1
          have nw2 := HWr.out.c2
          obtain ⟨hv, hhv⟩ : ∃ hv, hasF A H (turnL xs) tq = hv := ⟨_, rfl⟩
          have HHC : Hid (∀ W, Below wr.heap.size wr W → Calls Tryd.prog 11 #[.agg #[.bool A, .int .i64 H, .slice (some ⟨gx, 0, none⟩) len (len + 64)], .string tq] W fun e w' => e = .returned (.bool hv) ∧ Below wr.heap.size wr w') := fun W hW =>
            (has_any A H _ _ _ (turnL xs) tq W (kat_below HKW.out (below_trans (below_trans HB_36.out HBM.out) hW)) ((given_rd OX_36.out HTXL.out hlen).below (below_trans HBM.out hW)) hlen HTZ.out).mono fun e w' ⟨h1, h2⟩ => ⟨by rw [h1, hhv], hW.trans (h2.mono hW.size)⟩
          have HHR : Hid (∀ W, Below wr.heap.size wr W → Calls Tryd.prog 12 #[.agg #[.bool A, .int .i64 H, .slice (some ⟨gp, 0, none⟩) len (len + 64)], .string tq] W fun e w' => e = .returned (.bool hv) ∧ Below wr.heap.size wr w') := fun W hW =>
            (refHas_any A H _ _ _ (turnL xs) tq W ((given_rd OP_36.out HTXL.out hlen).below (below_trans HBM.out hW)) hlen HTZ.out).mono fun e w' ⟨h1, h2⟩ => ⟨by rw [h1, hhv], hW.trans (h2.mono hW.size)⟩
          have HTC := hide tc
          have HSEV : Hid (∀ W, Below wr.heap.size wr W → W.cell? ⟨pBX, 0, none⟩ = some (.bool A) ∧ W.cell? ⟨pBX, 1, none⟩ = some (.int .i64 H) ∧ W.cell? ⟨pBX, 2, none⟩ = some (.slice (some ⟨gx, 0, none⟩) len (len + 64)) ∧ W.cell? ⟨pBT, 0, none⟩ = some (.bool A) ∧ W.cell? ⟨pBT, 1, none⟩ = some (.int .i64 H) ∧ W.cell? ⟨pBT, 2, none⟩ = some (.slice (some ⟨gp, 0, none⟩) len (len + 64)) ∧ W.cell? ⟨tb, toff + q, none⟩ = some (.string tq)) := fun W hW =>
            ⟨(HBr.out.below hW).c0, (HBr.out.below hW).c1, (HBr.out.below hW).c2, (HWr.out.below hW).c0, (HWr.out.below hW).c1, (HWr.out.below hW).c2, (hW.cell (p := ⟨tb, toff + q, none⟩) HTL.out).trans HTC.out⟩
          have hvv : (hv != hv) = false := by simp
          clear hhv
          go_wp2_with fail
          go_region_held (fun V => V.cell? ⟨pBX, 0, none⟩ = some (.bool A) ∧ V.cell? ⟨pBX, 1, none⟩ = some (.int .i64 H) ∧ V.cell? ⟨pBX, 2, none⟩ = some (.slice (some ⟨gx, 0, none⟩) len (len + 64)) ∧ V.cell? ⟨pBT, 0, none⟩ = some (.bool A) ∧ V.cell? ⟨pBT, 1, none⟩ = some (.int .i64 H) ∧ V.cell? ⟨pBT, 2, none⟩ = some (.slice (some ⟨gp, 0, none⟩) len (len + 64)) ∧ V.cell? ⟨tb, toff + q, none⟩ = some (.string tq)) (first | go_keep | exact E6.out | exact E7.out) (first
            | (go_at_call 11; refine (HHC.out _ ((Below.refl _ _).drew)).mono ?_; rintro e y6 ⟨rfl, hb6⟩; have HB6 := hide hb6; have E6 := hide (HSEV.out _ hb6); clear hb6)
            | (go_at_call 12; refine (HHR.out _ HB6.out).mono ?_; rintro e y7 ⟨rfl, hb7⟩; have HB7 := hide hb7; have E7 := hide (HSEV.out _ hb7); clear hb7))
          all_goals
            go_wp2_with fail
            go_roundw
            case rel => exact ⟨q, by omega, by first | rfl | go_num, below_trans HBM.out HB7.out⟩
            case measure => (simp [intOf] <;> omega)
        · have hql : q1 = 0 := by omega
          subst hql
          have hqi : ¬ (0 : Int) ≤ ((0 : Nat) : Int) - 1 := by omega
          have SZ_37 : Hid (u36.heap.size ≤ wr.heap.size) := (HBM.out).size
          have BF_37 := hide (BF_36.out.below HBM.out)
          have BX_37 := hide (BX_36.out.below HBM.out)
          have OZ_37 := hide (OZ_36.out.below HBM.out)
          have OV_37 := hide (OV_36.out.below HBM.out)
          have MQ_37 := hide (MQ_36.out.below HBM.out)
          have BQ_37 := hide (BQ_36.out.below HBM.out)
          have OO_37 := hide (OO_36.out.below HBM.out)
          have BO_37 := hide (BO_36.out.below HBM.out)
          have BT_37 := hide (BT_36.out.below HBM.out)
          have OP_37 := hide (OP_36.out.below HBM.out)
          have OX_37 := hide (OX_36.out.below HBM.out)
          have OS_37 := hide (OS_36.out.below HBM.out)
          have OT_37 := hide (OT_36.out.below HBM.out)
          have OF_37 := hide (OF_36.out.below HBM.out)
          have MU_37 := hide (MU_36.out.below HBM.out)
          have BU_37 := hide (BU_36.out.below HBM.out)
          have OG_37 := hide (OG_36.out.below HBM.out)
          have OL_37 := hide (OL_36.out.below HBM.out)
          have BL_37 := hide (BL_36.out.below HBM.out)
          have HB_37 := hide (below_trans HB_36.out HBM.out)
          clear BF_36 BX_36 OZ_36 OV_36 MQ_36 BQ_36 OO_36 BO_36 BT_36 OP_36 OX_36 OS_36 OT_36 OF_36 MU_36 BU_36 OG_36 OL_36 BL_36 HB_36
          go_wp2_with fail
          refine (same_eq sa ta NT sc NT tc TB wr (HRDT.out _ _ _ _ OS_37.out) (HRDT.out _ _ _ _ OT_37.out)).mono ?_
          rintro e u37 ⟨rfl, hb37⟩
          have SZ_38 : Hid (wr.heap.size ≤ u37.heap.size) := (hb37).size
          have BF_38 := hide (BF_37.out.below hb37)
          have BX_38 := hide (BX_37.out.below hb37)
          have OZ_38 := hide (OZ_37.out.below hb37)
          have OV_38 := hide (OV_37.out.below hb37)
          have MQ_38 := hide (MQ_37.out.below hb37)
          have BQ_38 := hide (BQ_37.out.below hb37)
          have OO_38 := hide (OO_37.out.below hb37)
          have BO_38 := hide (BO_37.out.below hb37)
          have BT_38 := hide (BT_37.out.below hb37)
          have OP_38 := hide (OP_37.out.below hb37)
          have OX_38 := hide (OX_37.out.below hb37)
          have OS_38 := hide (OS_37.out.below hb37)
          have OT_38 := hide (OT_37.out.below hb37)
          have OF_38 := hide (OF_37.out.below hb37)
          have MU_38 := hide (MU_37.out.below hb37)
          have BU_38 := hide (BU_37.out.below hb37)
          have OG_38 := hide (OG_37.out.below hb37)
          have OL_38 := hide (OL_37.out.below hb37)
          have BL_38 := hide (BL_37.out.below hb37)
          have HB_38 := hide (below_trans HB_37.out hb37)
          clear BF_37 BX_37 OZ_37 OV_37 MQ_37 BQ_37 OO_37 BO_37 BT_37 OP_37 OX_37 OS_37 OT_37 OF_37 MU_37 BU_37 OG_37 OL_37 BL_37 HB_37 hb37
          have ll : (TE == TE) = true := by simp
          have vv : (UE == UE) = true := by simp
          have x0 := BU_38.out.c0
          have x1 := BU_38.out.c1
          have x2 := BU_38.out.c2
          have x3 := BL_38.out.c0
          have x4 := BL_38.out.c1
          have x5 := BL_38.out.c2
          go_wp2_with fail
          refine (alike_eq UA UH ua la NU uc NU lc UD u37 (HMDU.out _ _ _ _ MU_38.out) (HRDU.out _ _ _ _ OL_38.out)).mono ?_
          rintro e u38 ⟨rfl, hb38⟩
          have SZ_39 : Hid (u37.heap.size ≤ u38.heap.size) := (hb38).size
          have BF_39 := hide (BF_38.out.below hb38)
          have BX_39 := hide (BX_38.out.below hb38)
          have OZ_39 := hide (OZ_38.out.below hb38)
          have OV_39 := hide (OV_38.out.below hb38)
          have MQ_39 := hide (MQ_38.out.below hb38)
          have BQ_39 := hide (BQ_38.out.below hb38)
          have OO_39 := hide (OO_38.out.below hb38)
          have BO_39 := hide (BO_38.out.below hb38)
          have BT_39 := hide (BT_38.out.below hb38)
          have OP_39 := hide (OP_38.out.below hb38)
          have OX_39 := hide (OX_38.out.below hb38)
          have OS_39 := hide (OS_38.out.below hb38)
          have OT_39 := hide (OT_38.out.below hb38)
          have OF_39 := hide (OF_38.out.below hb38)
          have MU_39 := hide (MU_38.out.below hb38)
          have BU_39 := hide (BU_38.out.below hb38)
          have OG_39 := hide (OG_38.out.below hb38)
          have OL_39 := hide (OL_38.out.below hb38)
          have BL_39 := hide (BL_38.out.below hb38)
          have HB_39 := hide (below_trans HB_38.out hb38)
          clear BF_38 BX_38 OZ_38 OV_38 MQ_38 BQ_38 OO_38 BO_38 BT_38 OP_38 OX_38 OS_38 OT_38 OF_38 MU_38 BU_38 OG_38 OL_38 BL_38 HB_38 x0 x1 x2 x3 x4 x5 hb38
          have x0 := BQ_39.out.c0
          have x1 := BQ_39.out.c1
          have x2 := BQ_39.out.c2
          have x3 := BO_39.out.c0
          have x4 := BO_39.out.c1
          have x5 := BO_39.out.c2
          go_wp2_with fail
          refine (alike_eq DA DH qa oa ND qc ND oc DD u38 (HMDD.out _ _ _ _ MQ_39.out) (HRDD.out _ _ _ _ OO_39.out)).mono ?_
          rintro e u39 ⟨rfl, hb39⟩
          have SZ_40 : Hid (u38.heap.size ≤ u39.heap.size) := (hb39).size
          have BF_40 := hide (BF_39.out.below hb39)
          have BX_40 := hide (BX_39.out.below hb39)
          have OZ_40 := hide (OZ_39.out.below hb39)
          have OV_40 := hide (OV_39.out.below hb39)
          have MQ_40 := hide (MQ_39.out.below hb39)
          have BQ_40 := hide (BQ_39.out.below hb39)
          have OO_40 := hide (OO_39.out.below hb39)
          have BO_40 := hide (BO_39.out.below hb39)
          have BT_40 := hide (BT_39.out.below hb39)
          have OP_40 := hide (OP_39.out.below hb39)
          have OX_40 := hide (OX_39.out.below hb39)
          have OS_40 := hide (OS_39.out.below hb39)
          have OT_40 := hide (OT_39.out.below hb39)
          have OF_40 := hide (OF_39.out.below hb39)
          have MU_40 := hide (MU_39.out.below hb39)
          have BU_40 := hide (BU_39.out.below hb39)
          have OG_40 := hide (OG_39.out.below hb39)
          have OL_40 := hide (OL_39.out.below hb39)
          have BL_40 := hide (BL_39.out.below hb39)
          have HB_40 := hide (below_trans HB_39.out hb39)
          clear BF_39 BX_39 OZ_39 OV_39 MQ_39 BQ_39 OO_39 BO_39 BT_39 OP_39 OX_39 OS_39 OT_39 OF_39 MU_39 BU_39 OG_39 OL_39 BL_39 HB_39 x0 x1 x2 x3 x4 x5 hb39
          go_wp2_with fail
          go_ret
          exact ⟨rfl, HB_40.out⟩
end Go.Proofs.YtmndjgmlndpgaaaDoor.filterCodes
