/-
  The walk of the statement FilterJoins.
-/
import Derived.Test.YtpbkkaalkhhakaaDoorFiTurn
namespace Go.Proofs.YtpbkkaalkhhakaaDoor.filterJoins
open Go.ChangeShapes Go.WideShapes Go.ChangeAt Go.RowKit
open Go.Proofs.YtpbkkaalkhhakaaDoor.Base Go.Proofs.YtpbkkaalkhhakaaDoor.Filt
set_option linter.unusedVariables false
set_option maxHeartbeats 4000000 in
set_option maxRecDepth 100000 in
theorem walk (A : Bool) (H : Int) (a : Option Addr) (len cap : Nat) (xs : List (BitVec 8)) (B : Bool) (G : Int) (b : Option Addr) (n c : Nat) (ys : List (BitVec 8)) (w : World) (hK : KAt w) (hJ : JAt w) (hx : Rd w a len xs) (hla : len ≤ cap) (hma : cap ≤ 140737488351232) (hna : a = none → len = 0 ∧ cap = 0) (hy : Rd w b n ys) (hlb : n ≤ c) (hmb : c ≤ 140737488351232) (hnb : b = none → n = 0 ∧ c = 0) :
    Calls Tryd.prog 3 #[.agg #[.bool A, .int .i64 H, .slice a len cap], .agg #[.bool B, .int .i64 G, .slice b n c]] w fun e w' => e = .returned (.bool true) ∧ Below w.heap.size w w' := by
  have HXL := hide hx.1
  have HYL := hide hy.1
  obtain ⟨FA, FH, FD, FE, hJ1⟩ : ∃ FA FH FD FE, joined ⟨A, H, xs⟩ ⟨B, G, ys⟩ = (⟨FA, FH, FD⟩, FE) := ⟨_, _, _, _, rfl⟩
  obtain ⟨PA, PH, PD, PE, hJ2⟩ : ∃ FA FH FD FE, joined ⟨A, H, turnL xs⟩ ⟨B, G, ys⟩ = (⟨FA, FH, FD⟩, FE) := ⟨_, _, _, _, rfl⟩
  obtain ⟨QA, QH, QD, QE, hJ3⟩ : ∃ FA FH FD FE, joined ⟨A, H, turnL xs⟩ ⟨B, G, turnL ys⟩ = (⟨FA, FH, FD⟩, FE) := ⟨_, _, _, _, rfl⟩
  have hFL : FD.length ≤ 140737488351232 := by
    have h := joined_len ⟨A, H, xs⟩ ⟨B, G, ys⟩ 140737488351232 (by simp only []; rw [HXL.out]; omega) (by simp only []; rw [HYL.out]; omega)
    rw [hJ1] at h; exact h
  have hPL : PD.length ≤ 140737488351232 := by
    have h := joined_len ⟨A, H, turnL xs⟩ ⟨B, G, ys⟩ 140737488351232 (by simp only []; rw [turnL_len, HXL.out]; omega) (by simp only []; rw [HYL.out]; omega)
    rw [hJ2] at h; exact h
  have hQL : QD.length ≤ 140737488351232 := by
    have h := joined_len ⟨A, H, turnL xs⟩ ⟨B, G, turnL ys⟩ 140737488351232 (by simp only []; rw [turnL_len, HXL.out]; omega) (by simp only []; rw [turnL_len, HYL.out]; omega)
    rw [hJ3] at h; exact h
  have HJ1 := hide hJ1
  have HJ2 := hide hJ2
  have HJ3 := hide hJ3
  obtain ⟨N1, hN1⟩ : ∃ N, FD.length = N := ⟨_, rfl⟩
  obtain ⟨N2, hN2⟩ : ∃ N, PD.length = N := ⟨_, rfl⟩
  obtain ⟨N3, hN3⟩ : ∃ N, QD.length = N := ⟨_, rfl⟩
  rw [hN1] at hFL
  rw [hN2] at hPL
  rw [hN3] at hQL
  have HN1 := hide hN1
  have HN2 := hide hN2
  have HN3 := hide hN3
  have hNi : (N1 : Int) ≤ 140737488351232 := by omega
  clear hJ1 hJ2 hJ3 hN1 hN2 hN3
  obtain ⟨w0, w1, ga, gb, e0, e1, s0, s1, HA, HB, HBW⟩ := duo A H (.slice a len cap) B G (.slice b n c) w
  have a0 := HA.out.c0
  have a1 := HA.out.c1
  have a2 := HA.out.c2
  have HS := hide s0
  have HX1 := hide (hx.below HBW.out)
  have HY1 := hide (hy.below HBW.out)
  have HK1 := hide (kat_below hK HBW.out)
  have HJJ := hide (jat_below hJ HBW.out)
  have hlen : len ≤ 140737488351232 := by omega
  have hn : n ≤ 140737488351232 := by omega
  clear hx hy hK hJ
  go_enter Tryd.func3, Tryd.ntmps3
  go_wp2_with fail
  refine (given_any A H a len cap xs w1 HX1.out hlen).mono ?_
  rintro e w2 ⟨gx, rfl, hgx, hox, hb2⟩
  obtain ⟨w3, px, e3, s3, FX, hb23, HB3⟩ := laid_new hb2 A H (.slice (some ⟨gx, 0, none⟩) len (len + 64))
  have OX := hide (hox.below hb23.out)
  have LX : Hid (gx < w3.heap.size) := OX.out.lt'.2
  have HXW1 : Hid (w1.heap.size ≤ gx) := hgx
  clear a0 a1 a2 hgx hox hb2 hb23
  have b0 := (HB.out.below HB3.out).c0
  have b1 := (HB.out.below HB3.out).c1
  have b2 := (HB.out.below HB3.out).c2
  go_wp2_with fail
  refine (given_any B G b n c ys w3 (HY1.out.below HB3.out) hn).mono ?_
  rintro e w4 ⟨gy, rfl, hgy, hoy, hb4⟩
  obtain ⟨w5, py, e5, s5, FY, hb45, hb35⟩ := laid_new hb4 B G (.slice (some ⟨gy, 0, none⟩) n (n + 64))
  have OY := hide (hoy.below hb45.out)
  have LXY : Hid (gx < gy) := Nat.lt_of_lt_of_le LX.out hgy
  have LY : Hid (gy < w5.heap.size) := OY.out.lt'.2
  have FX_1 := hide (FX.out.below hb35.out)
  have OX_1 := hide (OX.out.below hb35.out)
  clear FX OX
  have HB5 := hide (same_below HB3.out hb35.out)
  have HSZ15 : Hid (w1.heap.size ≤ w5.heap.size) := HB5.out.size
  have HLX5 : Hid (gx < w5.heap.size) := OX_1.out.lt'.2
  clear b0 b1 b2 hgy hoy hb4 hb45 hb35 HB3
  have x0 := FX_1.out.c0
  have x1 := FX_1.out.c1
  have x2 := FX_1.out.c2
  have y0 := FY.out.c0
  have y1 := FY.out.c1
  have y2 := FY.out.c2
  go_wp2_with fail
  refine (join_at A H _ len _ xs B G _ n _ ys FA FH FD FE N1 w5 HN1.out HJ1.out (kat_below HK1.out HB5.out) (jat_below HJJ.out HB5.out) (given_rd OX_1.out HXL.out hlen) (given_rd OY.out HYL.out hn) (fun h => by cases h) (fun h => by cases h)).mono ?_
  rintro e w6 ⟨ca, cc, rfl, hoc, hb6⟩
  obtain ⟨w7, pc, e7, s7, FC, hb67, hb57⟩ := laid_new hb6 FA FH (.slice ca N1 cc)
  have OC := hide ((hoc.below hb67.out))
  clear hoc hb6 hb67 x0 x1 x2 y0 y1 y2
  have FX_2 := hide (FX_1.out.below hb57.out)
  have OX_2 := hide (OX_1.out.below hb57.out)
  have FY_2 := hide (FY.out.below hb57.out)
  have OY_2 := hide (OY.out.below hb57.out)
  clear FX_1 OX_1 FY OY
  have HB7 := hide (same_below HB5.out hb57.out)
  have LC : Hid (w5.heap.size ≤ w7.heap.size) := hb57.out.size
  clear hb57 HB5
  have x0 := FX_2.out.c0
  have x1 := FX_2.out.c1
  have x2 := FX_2.out.c2
  have y0 := FY_2.out.c0
  have y1 := FY_2.out.c1
  have y2 := FY_2.out.c2
  go_wp2_with fail
  refine (join_at A H _ len _ xs B G _ n _ ys FA FH FD FE N1 w7 HN1.out HJ1.out (kat_below HK1.out HB7.out) (jat_below HJJ.out HB7.out) (given_rd OX_2.out HXL.out hlen) (given_rd OY_2.out HYL.out hn) (fun h => by cases h) (fun h => by cases h)).mono ?_
  rintro e w8 ⟨da, dc, rfl, hod, hb8⟩
  obtain ⟨w9, pd, e9, s9, FDD, hb89, hb79⟩ := laid_new hb8 FA FH (.slice da N1 dc)
  have OD := hide (hod.below hb89.out)
  have LCB : Hid (∀ i, (Value.slice ca N1 cc).ownBlock = some i → w5.heap.size ≤ i ∧ i < w7.heap.size) := fun i e => World.ownsRow.lt OC.out i e
  clear hod hb8 hb89 x0 x1 x2 y0 y1 y2
  have FX_3 := hide (FX_2.out.below hb79.out)
  have OX_3 := hide (OX_2.out.below hb79.out)
  have FY_3 := hide (FY_2.out.below hb79.out)
  have OY_3 := hide (OY_2.out.below hb79.out)
  have FC_3 := hide (FC.out.below hb79.out)
  have OC_3 := hide (OC.out.below hb79.out)
  clear FX_2 OX_2 FY_2 OY_2 FC OC
  have HB9 := hide (same_below HB7.out hb79.out)
  have HSZ79 : Hid (w7.heap.size ≤ w9.heap.size) := hb79.out.size
  clear hb79 HB7
  have c2 := FC_3.out.c2
  have HS79 : Hid (w5.heap.size ≤ w9.heap.size) := Nat.le_trans LC.out HSZ79.out
  have HS15 : Hid (w1.heap.size ≤ w5.heap.size) := HSZ15.out
  have LX5 : Hid (gx < w5.heap.size) := HLX5.out
  go_wp2_with fail
  refine (fill_any w5.heap.size N1 cc ca FD w9 OC_3.out hFL HS79.out).mono ?_
  rintro e w10 ⟨rfl, hg10⟩
  have HB10 : Hid (Below w1.heap.size w1 w10) := HB9.out.grown hg10 HB9.out.size (fun i e => Nat.le_trans HS15.out (LCB.out i e).1)
  have HS510 : Hid (w5.heap.size ≤ w10.heap.size) := Nat.le_trans HS79.out hg10.size
  have FX10 := hide (FX_3.out.grown hg10 (fb_ne_own FX_3.out OC_3.out))
  have FY10 := hide (FY_3.out.grown hg10 (fb_ne_own FY_3.out OC_3.out))
  have FD10 := hide (FDD.out.grown hg10 (fb_ne_own FDD.out OC_3.out))
  have OX10 := hide (keep OX_3.out hg10 (fun i j e1 e2 => by have h1 := blk_eq e1; have h2 := (LCB.out j e2).1; have h3 := LX5.out; omega))
  have OY10 := hide (keep OY_3.out hg10 (fun i j e1 e2 => by have h1 := blk_eq e1; have h2 := (LCB.out j e2).1; have h3 := LY.out; omega))
  have OD10 := hide (keep OD.out hg10 (fun i j e1 e2 => by have h1 := (World.ownsRow.lt OD.out i e1).1; have h2 := (LCB.out j e2).2; omega))
  clear c2 hg10 HB9 
  clear FX_3 OX_3 FY_3 OY_3 FC_3 OC_3 FDD OD
  have a0 := (HA.out.below HB10.out).c0
  have a1 := (HA.out.below HB10.out).c1
  have a2 := (HA.out.below HB10.out).c2
  have b0 := (HB.out.below HB10.out).c0
  have b1 := (HB.out.below HB10.out).c1
  have b2 := (HB.out.below HB10.out).c2
  go_wp2_with fail
  refine (ref_at A H a len cap xs B G b n c ys FA FH FD FE N1 w10 HN1.out HJ1.out (HX1.out.below HB10.out) (HY1.out.below HB10.out) hna hnb).mono ?_
  rintro e w11 ⟨wa, wc', rfl, how, hb11⟩
  obtain ⟨w12, pw, e12, s12, FW, hb1112, hb1012⟩ := laid_new hb11 FA FH (.slice wa N1 wc')
  have OW := hide (how.below hb1112.out)
  clear how hb11 hb1112 a0 a1 a2 b0 b1 b2
  have FX_4 := hide (FX10.out.below hb1012.out)
  have FY_4 := hide (FY10.out.below hb1012.out)
  have FD_4 := hide (FD10.out.below hb1012.out)
  have OX_4 := hide (OX10.out.below hb1012.out)
  have OY_4 := hide (OY10.out.below hb1012.out)
  have OD_4 := hide (OD10.out.below hb1012.out)
  clear FX10 FY10 FD10 OX10 OY10 OD10
  have HB12 := hide (same_below HB10.out hb1012.out)
  clear hb1012 HB10
  have q1 : (FE != FE) = false := by simp
  have q2 : (((N1 : Int) + 64) != ((N1 : Int) + 64)) = false := by simp
  have d0 := FD_4.out.c0
  have d1 := FD_4.out.c1
  have d2 := FD_4.out.c2
  have v0 := FW.out.c0
  have v1 := FW.out.c1
  have v2 := FW.out.c2
  go_wp2_with fail
  refine (alike_eq FA FH da wa N1 dc N1 wc' FD w12 (Got.rd OD_4.out (by rw [HN1.out]; omega)) (Got.rd OW.out (by rw [HN1.out]; omega))).mono ?_
  rintro e w13 ⟨rfl, hb13⟩
  clear d0 d1 d2 v0 v1 v2
  have FX_5 := hide (FX_4.out.below hb13)
  have FY_5 := hide (FY_4.out.below hb13)
  have FD_5 := hide (FD_4.out.below hb13)
  have OX_5 := hide (OX_4.out.below hb13)
  have OY_5 := hide (OY_4.out.below hb13)
  have OD_5 := hide (OD_4.out.below hb13)
  have FW_5 := hide (FW.out.below hb13)
  have OW_5 := hide (OW.out.below hb13)
  clear FX_4 FY_4 FD_4 OX_4 OY_4 OD_4 FW OW
  have HB13 := hide (same_below HB12.out hb13)
  clear hb13 HB12
  have v2 := FW_5.out.c2
  have x0 := FX_5.out.c0
  have x1 := FX_5.out.c1
  have x2 := FX_5.out.c2
  have a0 := (HA.out.below HB13.out).c0
  have a1 := (HA.out.below HB13.out).c1
  have a2 := (HA.out.below HB13.out).c2
  go_wp2_with fail
  refine (kept_any A H gx len _ a cap xs w13 OX_5.out (HX1.out.below HB13.out) hlen).mono ?_
  rintro e w14 ⟨rfl, hb14⟩
  clear v2 x0 x1 x2 a0 a1 a2
  have FX_6 := hide (FX_5.out.below hb14)
  have FY_6 := hide (FY_5.out.below hb14)
  have FD_6 := hide (FD_5.out.below hb14)
  have OX_6 := hide (OX_5.out.below hb14)
  have OY_6 := hide (OY_5.out.below hb14)
  have OD_6 := hide (OD_5.out.below hb14)
  have FW_6 := hide (FW_5.out.below hb14)
  have OW_6 := hide (OW_5.out.below hb14)
  clear FX_5 FY_5 FD_5 OX_5 OY_5 OD_5 FW_5 OW_5
  have HB14 := hide (same_below HB13.out hb14)
  clear hb14 HB13
  have y0 := FY_6.out.c0
  have y1 := FY_6.out.c1
  have y2 := FY_6.out.c2
  have b0 := (HB.out.below HB14.out).c0
  have b1 := (HB.out.below HB14.out).c1
  have b2 := (HB.out.below HB14.out).c2
  go_wp2_with fail
  refine (kept_any B G gy n _ b c ys w14 OY_6.out (HY1.out.below HB14.out) hn).mono ?_
  rintro e w15 ⟨rfl, hb15⟩
  clear y0 y1 y2 b0 b1 b2
  have FX_7 := hide (FX_6.out.below hb15)
  have FY_7 := hide (FY_6.out.below hb15)
  have FD_7 := hide (FD_6.out.below hb15)
  have OX_7 := hide (OX_6.out.below hb15)
  have OY_7 := hide (OY_6.out.below hb15)
  have OD_7 := hide (OD_6.out.below hb15)
  have FW_7 := hide (FW_6.out.below hb15)
  have OW_7 := hide (OW_6.out.below hb15)
  clear FX_6 FY_6 FD_6 OX_6 OY_6 OD_6 FW_6 OW_6
  have HB15 := hide (same_below HB14.out hb15)
  clear hb15 HB14
  have a0 := (HA.out.below HB15.out).c0
  have a1 := (HA.out.below HB15.out).c1
  have a2 := (HA.out.below HB15.out).c2
  have b0 := (HB.out.below HB15.out).c0
  have b1 := (HB.out.below HB15.out).c1
  have b2 := (HB.out.below HB15.out).c2
  have HXQ := hide (HX1.out.below HB15.out)
  have HYQ := hide (HY1.out.below HB15.out)
  have HA15 := hide (HA.out.below HB15.out)
  have HB15b := hide (HB.out.below HB15.out)
  have n9 : w15.heap.size ≠ ga := by have := HA15.out.lt; omega
  have n10 : w15.heap.size ≠ gb := by have := HB15b.out.lt; omega
  have n11 : w15.heap.size + 1 ≠ ga := by have := HA15.out.lt; omega
  have n12 : w15.heap.size + 1 ≠ gb := by have := HB15b.out.lt; omega
  have HGN : Hid (∀ (A : Bool) (H : Int) (a : Option Addr) (len cap : Nat) (xs : List (BitVec 8)) W, Below w15.heap.size w15 W → Rd w15 a len xs → len ≤ 140737488351232 → Calls Tryd.prog 8 #[.agg #[.bool A, .int .i64 H, .slice a len cap]] W fun e w' => ∃ g, e = .returned (.agg #[.bool A, .int .i64 H, .slice (some ⟨g, 0, none⟩) len (len + 64)]) ∧ W.heap.size ≤ g ∧ Own w' w15.heap.size (.slice (some ⟨g, 0, none⟩) (len + 64) (len + 64)) (xs ++ marks8) ∧ Below W.heap.size W w' ∧ Below w15.heap.size w15 w') := fun A H a len cap xs W hW hx hl =>
    (given_any A H a len cap xs W (hx.below hW) hl).mono fun e w' ⟨g, h1, h2, h3, h4⟩ => ⟨g, h1, h2, h3.mono hW.size, h4, hW.trans (h4.mono hW.size)⟩
  go_wp2_with fail
  go_cut [14, 15] (fun p q wx => Cut9 w15 A H len xs B G n ys p q wx)
  case first =>
    go_region_held (fun V => V.cell? ⟨ga, 0, none⟩ = some (.bool A) ∧ V.cell? ⟨ga, 1, none⟩ = some (.int .i64 H) ∧ V.cell? ⟨ga, 2, none⟩ = some (.slice a len cap) ∧ V.cell? ⟨gb, 0, none⟩ = some (.bool B) ∧ V.cell? ⟨gb, 1, none⟩ = some (.int .i64 G) ∧ V.cell? ⟨gb, 2, none⟩ = some (.slice b n c)) (first | go_keep | exact E8.out | exact E9.out | exact fb_cells HA15.out HB15b.out (by repeat (first | exact HB7.out | exact HB6.out | refine bel_s ?_ (by have := HS6.out; have := HS67.out; omega) | refine al1 ?_)) | fail) (first
      | (go_at_call 8; refine (HGN.out _ _ _ _ _ _ _ (by first | exact HB6.out | exact al1 HB6.out | exact al1 (al1 HB6.out)) (by first | exact HYQ.out | exact HXQ.out) (by assumption)).mono ?_; rintro e w7 ⟨gq, rfl, hgq, hoq, hbW, hb7⟩; have HB7 := hide hb7; have HOQ := hide hoq; have hb67 : Below w6.heap.size w6 w7 := (by first | exact hbW | exact of_al1 hbW | exact of_al1 (of_al1 hbW)); have HOP7 := hide (HOP.out.below hb67); have HQ1 : Hid (gq < w7.heap.size) := hoq.lt'.2; have HQ0 : Hid (w6.heap.size ≤ gq) := (by first | exact hgq | (simp at hgq; exact Nat.le_trans (by omega) hgq)); have HS67 : Hid (w6.heap.size ≤ w7.heap.size) := hb67.size; (try (have u0 : Hid (ZB w15 w7 w15.heap.size) := ⟨t0.out.below hb67, Nat.le_refl _⟩; have k0 := u0.out.1.c0; have k1 := u0.out.1.c1; have k2 := u0.out.1.c2; have k3 := u0.out.1.fz 0; have k4 := u0.out.1.fz 1; have k5 := u0.out.1.fz 2; have ka : ∀ o, (w7.alloc o).cell? _ = _ := fun o => (fb_a_old (o := o) u0.out.1).c0; have kb : ∀ o, (w7.alloc o).cell? _ = _ := fun o => (fb_a_old (o := o) u0.out.1).c1; have kc : ∀ o, (w7.alloc o).cell? _ = _ := fun o => (fb_a_old (o := o) u0.out.1).c2; have kd : ∀ o, (w7.alloc o).frozen? _ = _ := fun o => (fb_a_old (o := o) u0.out.1).fz 0; have ke : ∀ o, (w7.alloc o).frozen? _ = _ := fun o => (fb_a_old (o := o) u0.out.1).fz 1; have kf : ∀ o, (w7.alloc o).frozen? _ = _ := fun o => (fb_a_old (o := o) u0.out.1).fz 2; have k6 : w15.heap.size ≠ w7.heap.size := Nat.ne_of_lt u0.out.1.lt; have k7 : w7.heap.size ≠ w15.heap.size := Nat.ne_of_gt u0.out.1.lt; skip)); (try (have u1 : Hid (ZB w15 w7 (w15.heap.size + 1)) := ⟨t1.out.below hb67, Nat.le_succ _⟩; have l0 := u1.out.1.c0; have l1 := u1.out.1.c1; have l2 := u1.out.1.c2; have l3 := u1.out.1.fz 0; have l4 := u1.out.1.fz 1; have l5 := u1.out.1.fz 2; have la : ∀ o, (w7.alloc o).cell? _ = _ := fun o => (fb_a_old (o := o) u1.out.1).c0; have lb : ∀ o, (w7.alloc o).cell? _ = _ := fun o => (fb_a_old (o := o) u1.out.1).c1; have lc : ∀ o, (w7.alloc o).cell? _ = _ := fun o => (fb_a_old (o := o) u1.out.1).c2; have ld : ∀ o, (w7.alloc o).frozen? _ = _ := fun o => (fb_a_old (o := o) u1.out.1).fz 0; have le : ∀ o, (w7.alloc o).frozen? _ = _ := fun o => (fb_a_old (o := o) u1.out.1).fz 1; have lf : ∀ o, (w7.alloc o).frozen? _ = _ := fun o => (fb_a_old (o := o) u1.out.1).fz 2; have l6 : w15.heap.size + 1 ≠ w7.heap.size := Nat.ne_of_lt u1.out.1.lt; have l7 : w7.heap.size ≠ w15.heap.size + 1 := Nat.ne_of_gt u1.out.1.lt; skip)); (try (have u2 : Hid (ZB w15 w7 w6.heap.size) := ⟨zb1 hbW, HS6.out⟩; have HQ2 : Hid (w6.heap.size + 1 ≤ gq) := (by simp at hgq; exact hgq); have m0 := u2.out.1.c0; have m1 := u2.out.1.c1; have m2 := u2.out.1.c2; have m3 := u2.out.1.fz 0; have m4 := u2.out.1.fz 1; have m5 := u2.out.1.fz 2; have ma : ∀ o, (w7.alloc o).cell? _ = _ := fun o => (fb_a_old (o := o) u2.out.1).c0; have mb : ∀ o, (w7.alloc o).cell? _ = _ := fun o => (fb_a_old (o := o) u2.out.1).c1; have mc : ∀ o, (w7.alloc o).cell? _ = _ := fun o => (fb_a_old (o := o) u2.out.1).c2; have md : ∀ o, (w7.alloc o).frozen? _ = _ := fun o => (fb_a_old (o := o) u2.out.1).fz 0; have me : ∀ o, (w7.alloc o).frozen? _ = _ := fun o => (fb_a_old (o := o) u2.out.1).fz 1; have mf : ∀ o, (w7.alloc o).frozen? _ = _ := fun o => (fb_a_old (o := o) u2.out.1).fz 2; have m6 : w6.heap.size ≠ w7.heap.size := Nat.ne_of_lt u2.out.1.lt; have m7 : w7.heap.size ≠ w6.heap.size := Nat.ne_of_gt u2.out.1.lt; skip)); (try (have u2 : Hid (ZB w15 w7 w6.heap.size) := ⟨zb2a hbW, HS6.out⟩; have u3 : Hid (ZB w15 w7 (w6.heap.size + 1)) := ⟨zb2b hbW, Nat.le_succ_of_le HS6.out⟩; have HQ2 : Hid (w6.heap.size + 1 + 1 ≤ gq) := (by simp at hgq; exact hgq); have m0 := u2.out.1.c0; have m1 := u2.out.1.c1; have m2 := u2.out.1.c2; have m3 := u2.out.1.fz 0; have m4 := u2.out.1.fz 1; have m5 := u2.out.1.fz 2; have ma : ∀ o, (w7.alloc o).cell? _ = _ := fun o => (fb_a_old (o := o) u2.out.1).c0; have mb : ∀ o, (w7.alloc o).cell? _ = _ := fun o => (fb_a_old (o := o) u2.out.1).c1; have mc : ∀ o, (w7.alloc o).cell? _ = _ := fun o => (fb_a_old (o := o) u2.out.1).c2; have md : ∀ o, (w7.alloc o).frozen? _ = _ := fun o => (fb_a_old (o := o) u2.out.1).fz 0; have me : ∀ o, (w7.alloc o).frozen? _ = _ := fun o => (fb_a_old (o := o) u2.out.1).fz 1; have mf : ∀ o, (w7.alloc o).frozen? _ = _ := fun o => (fb_a_old (o := o) u2.out.1).fz 2; have m6 : w6.heap.size ≠ w7.heap.size := Nat.ne_of_lt u2.out.1.lt; have m7 : w7.heap.size ≠ w6.heap.size := Nat.ne_of_gt u2.out.1.lt; have o0 := u3.out.1.c0; have o1 := u3.out.1.c1; have o2 := u3.out.1.c2; have o3 := u3.out.1.fz 0; have o4 := u3.out.1.fz 1; have o5 := u3.out.1.fz 2; have oa : ∀ o, (w7.alloc o).cell? _ = _ := fun o => (fb_a_old (o := o) u3.out.1).c0; have ob : ∀ o, (w7.alloc o).cell? _ = _ := fun o => (fb_a_old (o := o) u3.out.1).c1; have oc : ∀ o, (w7.alloc o).cell? _ = _ := fun o => (fb_a_old (o := o) u3.out.1).c2; have od : ∀ o, (w7.alloc o).frozen? _ = _ := fun o => (fb_a_old (o := o) u3.out.1).fz 0; have oe : ∀ o, (w7.alloc o).frozen? _ = _ := fun o => (fb_a_old (o := o) u3.out.1).fz 1; have of : ∀ o, (w7.alloc o).frozen? _ = _ := fun o => (fb_a_old (o := o) u3.out.1).fz 2; have o6 : w6.heap.size + 1 ≠ w7.heap.size := Nat.ne_of_lt u3.out.1.lt; have o7 : w7.heap.size ≠ w6.heap.size + 1 := Nat.ne_of_gt u3.out.1.lt; skip)); have E9 := hide (fb_cells HA15.out HB15b.out hb7); have n5 : w7.heap.size ≠ ga := (by have h1 := HA15.out.lt; have h2 := hb7.size; omega); have n6 : w7.heap.size ≠ gb := (by have h1 := HB15b.out.lt; have h2 := hb7.size; omega); have n7 : w7.heap.size + 1 ≠ ga := (by have h1 := HA15.out.lt; have h2 := hb7.size; omega); have n8 : w7.heap.size + 1 ≠ gb := (by have h1 := HB15b.out.lt; have h2 := hb7.size; omega); clear hgq hoq hbW hb7 hb67)
      | (go_at_call 8; refine (HGN.out _ _ _ _ _ _ _ (by first | exact (Below.refl _ _).drew | exact (al1 (Below.refl _ _)).drew | exact (al1 (al1 (Below.refl _ _))).drew) (by first | exact HXQ.out | exact HYQ.out) (by assumption)).mono ?_; rintro e w6 ⟨gp, rfl, hgp, hop, hbW, hb6⟩; have HB6 := hide hb6; have HOP := hide hop; have HP1 : Hid (gp < w6.heap.size) := hop.lt'.2; have HS6 : Hid (w15.heap.size ≤ w6.heap.size) := hb6.size; have HP0 : Hid (w15.heap.size ≤ gp) := hop.lt'.1; (try (have t0 := hide (zb1d hbW); have t6 : w15.heap.size ≠ w6.heap.size := Nat.ne_of_lt t0.out.lt; have t7 : w6.heap.size ≠ w15.heap.size := Nat.ne_of_gt t0.out.lt; have HP2 : Hid (w15.heap.size + 1 ≤ gp) := (by simp at hgp; exact hgp); skip)); (try (have t0 := hide (zb2ad hbW); have t1 := hide (zb2bd hbW); have HP2 : Hid (w15.heap.size + 1 + 1 ≤ gp) := (by simp at hgp; exact hgp); skip)); have E8 := hide (fb_cells HA15.out HB15b.out hb6); have n1 : w6.heap.size ≠ ga := (by have h1 := HA15.out.lt; have h2 := hb6.size; omega); have n2 : w6.heap.size ≠ gb := (by have h1 := HB15b.out.lt; have h2 := hb6.size; omega); have n3 : w6.heap.size + 1 ≠ ga := (by have h1 := HA15.out.lt; have h2 := hb6.size; omega); have n4 : w6.heap.size + 1 ≠ gb := (by have h1 := HB15b.out.lt; have h2 := hb6.size; omega); clear hgp hop hbW hb6))
    all_goals go_wp2_with fail
    all_goals go_meet
    all_goals have HLPQ : gp < gq := Nat.lt_of_lt_of_le HP1.out HQ0.out
    all_goals first
      | with_reducible exact cut9_two1 HOP7.out HOQ.out HB7.out HLPQ
      | with_reducible exact cut9_two2 HOP7.out HOQ.out HB7.out HLPQ
      | with_reducible exact cut9_fold u0.out HOP7.out HOQ.out HB7.out HLPQ
      | with_reducible exact cut9_fold u2.out HOP7.out HOQ.out HB7.out HLPQ
      | with_reducible exact cut9_of (ZB.old _ u0.out) (ZB.new HB7.out.size) k6 (own_a HOP7.out) (own_a HOQ.out) (al1 HB7.out) HLPQ
      | with_reducible exact cut9_of (ZB.old _ u2.out) (ZB.new HB7.out.size) m6 (own_a HOP7.out) (own_a HOQ.out) (al1 HB7.out) HLPQ
      | with_reducible exact cut9_of u0.out u1.out (Nat.succ_ne_self _).symm HOP7.out HOQ.out HB7.out HLPQ
      | with_reducible exact cut9_of u1.out u0.out (Nat.succ_ne_self _) HOP7.out HOQ.out HB7.out HLPQ
      | with_reducible exact cut9_of u2.out u3.out (Nat.succ_ne_self _).symm HOP7.out HOQ.out HB7.out HLPQ
      | with_reducible exact cut9_of u3.out u2.out (Nat.succ_ne_self _) HOP7.out HOQ.out HB7.out HLPQ
      | with_reducible exact cut9_of u0.out u2.out t6 HOP7.out HOQ.out HB7.out HLPQ
      | with_reducible exact cut9_of u2.out u0.out t7 HOP7.out HOQ.out HB7.out HLPQ
  case rest =>
  obtain ⟨pp, pq, gp, gq, rfl, rfl, FP, FQ, OP, OQ, HBQ, HPQ⟩ := hcut
  obtain ⟨w16, hw16⟩ : ∃ w16, w16 = wc := ⟨_, rfl⟩
  rw [← hw16] at FP FQ OP OQ HBQ ⊢
  clear hw16 a0 a1 a2 b0 b1 b2 n9 n10 n11 n12 HGN HXQ HYQ HA15 HB15b
  have HX15 : Hid (gx < w15.heap.size) := OX_7.out.lt'.2
  have HY15 : Hid (gy < w15.heap.size) := OY_7.out.lt'.2
  have HDB : Hid (∀ i, (Value.slice da N1 dc).ownBlock = some i → w7.heap.size ≤ i ∧ i < w15.heap.size) := fun i e => World.ownsRow.lt OD_7.out i e
  have HWB : Hid (∀ i, (Value.slice wa N1 wc').ownBlock = some i → w10.heap.size ≤ i ∧ i < w15.heap.size) := fun i e => World.ownsRow.lt OW_7.out i e
  have HGP : Hid (w15.heap.size ≤ gp) := OP.out.lt'.1
  have HGQ : Hid (gq < w16.heap.size) := OQ.out.lt'.2
  have HW1 : Hid (w1.heap.size ≤ gx) := HXW1.out
  have FX_8 := hide (FX_7.out.below HBQ.out)
  have FY_8 := hide (FY_7.out.below HBQ.out)
  have FD_8 := hide (FD_7.out.below HBQ.out)
  have OX_8 := hide (OX_7.out.below HBQ.out)
  have OY_8 := hide (OY_7.out.below HBQ.out)
  have OD_8 := hide (OD_7.out.below HBQ.out)
  have FW_8 := hide (FW_7.out.below HBQ.out)
  have OW_8 := hide (OW_7.out.below HBQ.out)
  clear FX_7 FY_7 FD_7 OX_7 OY_7 OD_7 FW_7 OW_7
  have HB16 := hide (same_below HB15.out HBQ.out)
  clear HBQ HB15
  have x2 := FP.out.c2
  go_wp2_with fail
  refine (turned_any gp len _ xs w16 HXL.out OP.out hlen).mono ?_
  rintro e w17 ⟨rfl, ho, hg⟩
  clear x2
  have FX_9 := hide (fb_turn FX_8.out OP.out hg)
  have FY_9 := hide (fb_turn FY_8.out OP.out hg)
  have FD_9 := hide (fb_turn FD_8.out OP.out hg)
  have OX_9 := hide (own_turn OX_8.out hg (fun i e => by have h0 := blk_eq e; have h1 := HX15.out; have h2 := HY15.out; have h3 := LXY.out; have h4 := HGP.out; have h5 := HPQ.out; have h6 := HGQ.out; have h7 := LX5.out; have h8 := LY.out; have h9 := LC.out; have h10 := HS510.out; omega))
  have OY_9 := hide (own_turn OY_8.out hg (fun i e => by have h0 := blk_eq e; have h1 := HX15.out; have h2 := HY15.out; have h3 := LXY.out; have h4 := HGP.out; have h5 := HPQ.out; have h6 := HGQ.out; have h7 := LX5.out; have h8 := LY.out; have h9 := LC.out; have h10 := HS510.out; omega))
  have OD_9 := hide (own_turn OD_8.out hg (fun i e => by have h0 := HDB.out i e; have h1 := HX15.out; have h2 := HY15.out; have h3 := LXY.out; have h4 := HGP.out; have h5 := HPQ.out; have h6 := HGQ.out; have h7 := LX5.out; have h8 := LY.out; have h9 := LC.out; have h10 := HS510.out; omega))
  have FW_9 := hide (fb_turn FW_8.out OP.out hg)
  have OW_9 := hide (own_turn OW_8.out hg (fun i e => by have h0 := HWB.out i e; have h1 := HX15.out; have h2 := HY15.out; have h3 := LXY.out; have h4 := HGP.out; have h5 := HPQ.out; have h6 := HGQ.out; have h7 := LX5.out; have h8 := LY.out; have h9 := LC.out; have h10 := HS510.out; omega))
  have FP_9 := hide (fb_turn FP.out OP.out hg)
  have FQ_9 := hide (fb_turn FQ.out OP.out hg)
  have OQ_9 := hide (own_turn OQ.out hg (fun i e => by have h0 := blk_eq e; have h1 := HX15.out; have h2 := HY15.out; have h3 := LXY.out; have h4 := HGP.out; have h5 := HPQ.out; have h6 := HGQ.out; have h7 := LX5.out; have h8 := LY.out; have h9 := LC.out; have h10 := HS510.out; omega))
  have OP_9 := hide ho
  have HB17 := hide (bel_turn HB16.out hg (by have h12 := HW1.out; have h1 := HX15.out; have h2 := HY15.out; have h3 := LXY.out; have h4 := HGP.out; have h5 := HPQ.out; have h6 := HGQ.out; have h7 := LX5.out; have h8 := LY.out; have h9 := LC.out; have h10 := HS510.out; omega))
  have HSZ_w17 : Hid (w16.heap.size ≤ w17.heap.size) := hg.size
  clear ho hg HB16 FX_8 FY_8 FD_8 OX_8 OY_8 OD_8 FW_8 OW_8 FP FQ OQ OP
  have x2 := FX_9.out.c2
  go_wp2_with fail
  refine (turned_any gx len _ xs w17 HXL.out OX_9.out hlen).mono ?_
  rintro e w18 ⟨rfl, ho, hg⟩
  clear x2
  have FX_10 := hide (fb_turn FX_9.out OX_9.out hg)
  have FY_10 := hide (fb_turn FY_9.out OX_9.out hg)
  have FD_10 := hide (fb_turn FD_9.out OX_9.out hg)
  have OY_10 := hide (own_turn OY_9.out hg (fun i e => by have h0 := blk_eq e; have h1 := HX15.out; have h2 := HY15.out; have h3 := LXY.out; have h4 := HGP.out; have h5 := HPQ.out; have h6 := HGQ.out; have h7 := LX5.out; have h8 := LY.out; have h9 := LC.out; have h10 := HS510.out; omega))
  have OD_10 := hide (own_turn OD_9.out hg (fun i e => by have h0 := HDB.out i e; have h1 := HX15.out; have h2 := HY15.out; have h3 := LXY.out; have h4 := HGP.out; have h5 := HPQ.out; have h6 := HGQ.out; have h7 := LX5.out; have h8 := LY.out; have h9 := LC.out; have h10 := HS510.out; omega))
  have FW_10 := hide (fb_turn FW_9.out OX_9.out hg)
  have OW_10 := hide (own_turn OW_9.out hg (fun i e => by have h0 := HWB.out i e; have h1 := HX15.out; have h2 := HY15.out; have h3 := LXY.out; have h4 := HGP.out; have h5 := HPQ.out; have h6 := HGQ.out; have h7 := LX5.out; have h8 := LY.out; have h9 := LC.out; have h10 := HS510.out; omega))
  have FP_10 := hide (fb_turn FP_9.out OX_9.out hg)
  have FQ_10 := hide (fb_turn FQ_9.out OX_9.out hg)
  have OP_10 := hide (own_turn OP_9.out hg (fun i e => by have h0 := blk_eq e; have h1 := HX15.out; have h2 := HY15.out; have h3 := LXY.out; have h4 := HGP.out; have h5 := HPQ.out; have h6 := HGQ.out; have h7 := LX5.out; have h8 := LY.out; have h9 := LC.out; have h10 := HS510.out; omega))
  have OQ_10 := hide (own_turn OQ_9.out hg (fun i e => by have h0 := blk_eq e; have h1 := HX15.out; have h2 := HY15.out; have h3 := LXY.out; have h4 := HGP.out; have h5 := HPQ.out; have h6 := HGQ.out; have h7 := LX5.out; have h8 := LY.out; have h9 := LC.out; have h10 := HS510.out; omega))
  have OX_10 := hide ho
  have HB18 := hide (bel_turn HB17.out hg (by have h12 := HW1.out; have h1 := HX15.out; have h2 := HY15.out; have h3 := LXY.out; have h4 := HGP.out; have h5 := HPQ.out; have h6 := HGQ.out; have h7 := LX5.out; have h8 := LY.out; have h9 := LC.out; have h10 := HS510.out; omega))
  have HSZ_w18 : Hid (w17.heap.size ≤ w18.heap.size) := hg.size
  clear ho hg HB17 FX_9 FY_9 FD_9 OY_9 OD_9 FW_9 OW_9 FP_9 FQ_9 OP_9 OQ_9 OX_9
  have HS1618 : Hid (w16.heap.size ≤ w18.heap.size) := Nat.le_trans HSZ_w17.out HSZ_w18.out
  have HTXL : Hid ((turnL xs).length = len) := (turnL_len xs).trans HXL.out
  have HTYL : Hid ((turnL ys).length = n) := (turnL_len ys).trans HYL.out
  have x0 := FX_10.out.c0
  have x1 := FX_10.out.c1
  have x2 := FX_10.out.c2
  have y0 := FY_10.out.c0
  have y1 := FY_10.out.c1
  have y2 := FY_10.out.c2
  go_wp2_with fail
  refine (join_at A H _ len _ (turnL xs) B G _ n _ (ys) PA PH PD PE N2 w18 HN2.out HJ2.out (kat_below HK1.out HB18.out) (jat_below HJJ.out HB18.out) (given_rd OX_10.out HTXL.out hlen) (given_rd OY_10.out HYL.out hn) (fun h => by cases h) (fun h => by cases h)).mono ?_
  rintro e w19 ⟨ma, mc, rfl, ho, hb⟩
  obtain ⟨w20, pm, e20, s20, FM, hbm, hbn⟩ := laid_new hb PA PH (.slice ma N2 mc)
  have OM := hide (ho.below hbm.out)
  clear ho hb hbm x0 x1 x2 y0 y1 y2
  have FX_11 := hide (FX_10.out.below hbn.out)
  have FY_11 := hide (FY_10.out.below hbn.out)
  have FD_11 := hide (FD_10.out.below hbn.out)
  have OX_11 := hide (OX_10.out.below hbn.out)
  have OY_11 := hide (OY_10.out.below hbn.out)
  have OD_11 := hide (OD_10.out.below hbn.out)
  have FW_11 := hide (FW_10.out.below hbn.out)
  have OW_11 := hide (OW_10.out.below hbn.out)
  have FP_11 := hide (FP_10.out.below hbn.out)
  have FQ_11 := hide (FQ_10.out.below hbn.out)
  have OP_11 := hide (OP_10.out.below hbn.out)
  have OQ_11 := hide (OQ_10.out.below hbn.out)
  clear FX_10 FY_10 FD_10 OX_10 OY_10 OD_10 FW_10 OW_10 FP_10 FQ_10 OP_10 OQ_10
  have HB20 := hide (same_below HB18.out hbn.out)
  have HSZ_w20 : Hid (w18.heap.size ≤ w20.heap.size) := hbn.out.size
  clear hbn HB18
  have HMB : Hid (∀ i, (Value.slice ma N2 mc).ownBlock = some i → w18.heap.size ≤ i) := fun i e => (World.ownsRow.lt OM.out i e).1
  have x0 := FP_11.out.c0
  have x1 := FP_11.out.c1
  have x2 := FP_11.out.c2
  have y0 := FQ_11.out.c0
  have y1 := FQ_11.out.c1
  have y2 := FQ_11.out.c2
  go_wp2_with fail
  refine (ref_at A H _ len _ (turnL xs) B G _ n _ (ys) PA PH PD PE N2 w20 HN2.out HJ2.out (given_rd OP_11.out HTXL.out hlen) (given_rd OQ_11.out HYL.out hn) (fun h => by cases h) (fun h => by cases h)).mono ?_
  rintro e w21 ⟨na, nc, rfl, ho, hb⟩
  obtain ⟨w22, pn, e22, s22, FN, hbm, hbn⟩ := laid_new hb PA PH (.slice na N2 nc)
  have ON := hide (ho.below hbm.out)
  clear ho hb hbm x0 x1 x2 y0 y1 y2
  have FX_12 := hide (FX_11.out.below hbn.out)
  have FY_12 := hide (FY_11.out.below hbn.out)
  have FD_12 := hide (FD_11.out.below hbn.out)
  have OX_12 := hide (OX_11.out.below hbn.out)
  have OY_12 := hide (OY_11.out.below hbn.out)
  have OD_12 := hide (OD_11.out.below hbn.out)
  have FW_12 := hide (FW_11.out.below hbn.out)
  have OW_12 := hide (OW_11.out.below hbn.out)
  have FP_12 := hide (FP_11.out.below hbn.out)
  have FQ_12 := hide (FQ_11.out.below hbn.out)
  have OP_12 := hide (OP_11.out.below hbn.out)
  have OQ_12 := hide (OQ_11.out.below hbn.out)
  have FM_12 := hide (FM.out.below hbn.out)
  have OM_12 := hide (OM.out.below hbn.out)
  clear FX_11 FY_11 FD_11 OX_11 OY_11 OD_11 FW_11 OW_11 FP_11 FQ_11 OP_11 OQ_11 FM OM
  have HB22 := hide (same_below HB20.out hbn.out)
  have HSZ_w22 : Hid (w20.heap.size ≤ w22.heap.size) := hbn.out.size
  clear hbn HB20
  have HNB : Hid (∀ i, (Value.slice na N2 nc).ownBlock = some i → w18.heap.size ≤ i) := fun i e => Nat.le_trans HSZ_w20.out (World.ownsRow.lt ON.out i e).1
  have x2 := FQ_12.out.c2
  go_wp2_with fail
  refine (turned_any gq n _ ys w22 HYL.out OQ_12.out hn).mono ?_
  rintro e w23 ⟨rfl, ho, hg⟩
  clear x2
  have FX_13 := hide (fb_turn FX_12.out OQ_12.out hg)
  have FY_13 := hide (fb_turn FY_12.out OQ_12.out hg)
  have FD_13 := hide (fb_turn FD_12.out OQ_12.out hg)
  have OX_13 := hide (own_turn OX_12.out hg (fun i e => by have h0 := blk_eq e; have h1 := HX15.out; have h2 := HY15.out; have h3 := LXY.out; have h4 := HGP.out; have h5 := HPQ.out; have h6 := HGQ.out; have h7 := LX5.out; have h8 := LY.out; have h9 := LC.out; have h10 := HS510.out; omega))
  have OY_13 := hide (own_turn OY_12.out hg (fun i e => by have h0 := blk_eq e; have h1 := HX15.out; have h2 := HY15.out; have h3 := LXY.out; have h4 := HGP.out; have h5 := HPQ.out; have h6 := HGQ.out; have h7 := LX5.out; have h8 := LY.out; have h9 := LC.out; have h10 := HS510.out; omega))
  have OD_13 := hide (own_turn OD_12.out hg (fun i e => by have h0 := HDB.out i e; have h1 := HX15.out; have h2 := HY15.out; have h3 := LXY.out; have h4 := HGP.out; have h5 := HPQ.out; have h6 := HGQ.out; have h7 := LX5.out; have h8 := LY.out; have h9 := LC.out; have h10 := HS510.out; omega))
  have FW_13 := hide (fb_turn FW_12.out OQ_12.out hg)
  have OW_13 := hide (own_turn OW_12.out hg (fun i e => by have h0 := HWB.out i e; have h1 := HX15.out; have h2 := HY15.out; have h3 := LXY.out; have h4 := HGP.out; have h5 := HPQ.out; have h6 := HGQ.out; have h7 := LX5.out; have h8 := LY.out; have h9 := LC.out; have h10 := HS510.out; omega))
  have FP_13 := hide (fb_turn FP_12.out OQ_12.out hg)
  have FQ_13 := hide (fb_turn FQ_12.out OQ_12.out hg)
  have OP_13 := hide (own_turn OP_12.out hg (fun i e => by have h0 := blk_eq e; have h1 := HX15.out; have h2 := HY15.out; have h3 := LXY.out; have h4 := HGP.out; have h5 := HPQ.out; have h6 := HGQ.out; have h7 := LX5.out; have h8 := LY.out; have h9 := LC.out; have h10 := HS510.out; omega))
  have FM_13 := hide (fb_turn FM_12.out OQ_12.out hg)
  have OM_13 := hide (own_turn OM_12.out hg (fun i e => by have h0 := HMB.out i e; have h11 := HS1618.out; have h1 := HX15.out; have h2 := HY15.out; have h3 := LXY.out; have h4 := HGP.out; have h5 := HPQ.out; have h6 := HGQ.out; have h7 := LX5.out; have h8 := LY.out; have h9 := LC.out; have h10 := HS510.out; omega))
  have FN_13 := hide (fb_turn FN.out OQ_12.out hg)
  have ON_13 := hide (own_turn ON.out hg (fun i e => by have h0 := HNB.out i e; have h11 := HS1618.out; have h1 := HX15.out; have h2 := HY15.out; have h3 := LXY.out; have h4 := HGP.out; have h5 := HPQ.out; have h6 := HGQ.out; have h7 := LX5.out; have h8 := LY.out; have h9 := LC.out; have h10 := HS510.out; omega))
  have OQ_13 := hide ho
  have HB23 := hide (bel_turn HB22.out hg (by have h12 := HW1.out; have h1 := HX15.out; have h2 := HY15.out; have h3 := LXY.out; have h4 := HGP.out; have h5 := HPQ.out; have h6 := HGQ.out; have h7 := LX5.out; have h8 := LY.out; have h9 := LC.out; have h10 := HS510.out; omega))
  have HSZ_w23 : Hid (w22.heap.size ≤ w23.heap.size) := hg.size
  clear ho hg HB22 FX_12 FY_12 FD_12 OX_12 OY_12 OD_12 FW_12 OW_12 FP_12 FQ_12 OP_12 FM_12 OM_12 FN ON OQ_12
  have x2 := FY_13.out.c2
  go_wp2_with fail
  refine (turned_any gy n _ ys w23 HYL.out OY_13.out hn).mono ?_
  rintro e w24 ⟨rfl, ho, hg⟩
  clear x2
  have FX_14 := hide (fb_turn FX_13.out OY_13.out hg)
  have FY_14 := hide (fb_turn FY_13.out OY_13.out hg)
  have FD_14 := hide (fb_turn FD_13.out OY_13.out hg)
  have OX_14 := hide (own_turn OX_13.out hg (fun i e => by have h0 := blk_eq e; have h1 := HX15.out; have h2 := HY15.out; have h3 := LXY.out; have h4 := HGP.out; have h5 := HPQ.out; have h6 := HGQ.out; have h7 := LX5.out; have h8 := LY.out; have h9 := LC.out; have h10 := HS510.out; omega))
  have OD_14 := hide (own_turn OD_13.out hg (fun i e => by have h0 := HDB.out i e; have h1 := HX15.out; have h2 := HY15.out; have h3 := LXY.out; have h4 := HGP.out; have h5 := HPQ.out; have h6 := HGQ.out; have h7 := LX5.out; have h8 := LY.out; have h9 := LC.out; have h10 := HS510.out; omega))
  have FW_14 := hide (fb_turn FW_13.out OY_13.out hg)
  have OW_14 := hide (own_turn OW_13.out hg (fun i e => by have h0 := HWB.out i e; have h1 := HX15.out; have h2 := HY15.out; have h3 := LXY.out; have h4 := HGP.out; have h5 := HPQ.out; have h6 := HGQ.out; have h7 := LX5.out; have h8 := LY.out; have h9 := LC.out; have h10 := HS510.out; omega))
  have FP_14 := hide (fb_turn FP_13.out OY_13.out hg)
  have FQ_14 := hide (fb_turn FQ_13.out OY_13.out hg)
  have OP_14 := hide (own_turn OP_13.out hg (fun i e => by have h0 := blk_eq e; have h1 := HX15.out; have h2 := HY15.out; have h3 := LXY.out; have h4 := HGP.out; have h5 := HPQ.out; have h6 := HGQ.out; have h7 := LX5.out; have h8 := LY.out; have h9 := LC.out; have h10 := HS510.out; omega))
  have OQ_14 := hide (own_turn OQ_13.out hg (fun i e => by have h0 := blk_eq e; have h1 := HX15.out; have h2 := HY15.out; have h3 := LXY.out; have h4 := HGP.out; have h5 := HPQ.out; have h6 := HGQ.out; have h7 := LX5.out; have h8 := LY.out; have h9 := LC.out; have h10 := HS510.out; omega))
  have FM_14 := hide (fb_turn FM_13.out OY_13.out hg)
  have OM_14 := hide (own_turn OM_13.out hg (fun i e => by have h0 := HMB.out i e; have h11 := HS1618.out; have h1 := HX15.out; have h2 := HY15.out; have h3 := LXY.out; have h4 := HGP.out; have h5 := HPQ.out; have h6 := HGQ.out; have h7 := LX5.out; have h8 := LY.out; have h9 := LC.out; have h10 := HS510.out; omega))
  have FN_14 := hide (fb_turn FN_13.out OY_13.out hg)
  have ON_14 := hide (own_turn ON_13.out hg (fun i e => by have h0 := HNB.out i e; have h11 := HS1618.out; have h1 := HX15.out; have h2 := HY15.out; have h3 := LXY.out; have h4 := HGP.out; have h5 := HPQ.out; have h6 := HGQ.out; have h7 := LX5.out; have h8 := LY.out; have h9 := LC.out; have h10 := HS510.out; omega))
  have OY_14 := hide ho
  have HB24 := hide (bel_turn HB23.out hg (by have h12 := HW1.out; have h1 := HX15.out; have h2 := HY15.out; have h3 := LXY.out; have h4 := HGP.out; have h5 := HPQ.out; have h6 := HGQ.out; have h7 := LX5.out; have h8 := LY.out; have h9 := LC.out; have h10 := HS510.out; omega))
  have HSZ_w24 : Hid (w23.heap.size ≤ w24.heap.size) := hg.size
  clear ho hg HB23 FX_13 FY_13 FD_13 OX_13 OD_13 FW_13 OW_13 FP_13 FQ_13 OP_13 OQ_13 FM_13 OM_13 FN_13 ON_13 OY_13
  have x0 := FX_14.out.c0
  have x1 := FX_14.out.c1
  have x2 := FX_14.out.c2
  have y0 := FY_14.out.c0
  have y1 := FY_14.out.c1
  have y2 := FY_14.out.c2
  go_wp2_with fail
  refine (join_at A H _ len _ (turnL xs) B G _ n _ (turnL ys) QA QH QD QE N3 w24 HN3.out HJ3.out (kat_below HK1.out HB24.out) (jat_below HJJ.out HB24.out) (given_rd OX_14.out HTXL.out hlen) (given_rd OY_14.out HTYL.out hn) (fun h => by cases h) (fun h => by cases h)).mono ?_
  rintro e w25 ⟨oa, oc, rfl, ho, hb⟩
  obtain ⟨w26, po, e26, s26, FO, hbm, hbn⟩ := laid_new hb QA QH (.slice oa N3 oc)
  have OO := hide (ho.below hbm.out)
  clear ho hb hbm x0 x1 x2 y0 y1 y2
  have FX_15 := hide (FX_14.out.below hbn.out)
  have FY_15 := hide (FY_14.out.below hbn.out)
  have FD_15 := hide (FD_14.out.below hbn.out)
  have OX_15 := hide (OX_14.out.below hbn.out)
  have OY_15 := hide (OY_14.out.below hbn.out)
  have OD_15 := hide (OD_14.out.below hbn.out)
  have FW_15 := hide (FW_14.out.below hbn.out)
  have OW_15 := hide (OW_14.out.below hbn.out)
  have FP_15 := hide (FP_14.out.below hbn.out)
  have FQ_15 := hide (FQ_14.out.below hbn.out)
  have OP_15 := hide (OP_14.out.below hbn.out)
  have OQ_15 := hide (OQ_14.out.below hbn.out)
  have FM_15 := hide (FM_14.out.below hbn.out)
  have OM_15 := hide (OM_14.out.below hbn.out)
  have FN_15 := hide (FN_14.out.below hbn.out)
  have ON_15 := hide (ON_14.out.below hbn.out)
  clear FX_14 FY_14 FD_14 OX_14 OY_14 OD_14 FW_14 OW_14 FP_14 FQ_14 OP_14 OQ_14 FM_14 OM_14 FN_14 ON_14
  have HB26 := hide (same_below HB24.out hbn.out)
  have HSZ_w26 : Hid (w24.heap.size ≤ w26.heap.size) := hbn.out.size
  clear hbn HB24
  have x0 := FP_15.out.c0
  have x1 := FP_15.out.c1
  have x2 := FP_15.out.c2
  have y0 := FQ_15.out.c0
  have y1 := FQ_15.out.c1
  have y2 := FQ_15.out.c2
  go_wp2_with fail
  refine (ref_at A H _ len _ (turnL xs) B G _ n _ (turnL ys) QA QH QD QE N3 w26 HN3.out HJ3.out (given_rd OP_15.out HTXL.out hlen) (given_rd OQ_15.out HTYL.out hn) (fun h => by cases h) (fun h => by cases h)).mono ?_
  rintro e w27 ⟨la, lc, rfl, ho, hb⟩
  obtain ⟨w28, pl, e28, s28, FL, hbm, hbn⟩ := laid_new hb QA QH (.slice la N3 lc)
  have OL := hide (ho.below hbm.out)
  clear ho hb hbm x0 x1 x2 y0 y1 y2
  have FX_16 := hide (FX_15.out.below hbn.out)
  have FY_16 := hide (FY_15.out.below hbn.out)
  have FD_16 := hide (FD_15.out.below hbn.out)
  have OX_16 := hide (OX_15.out.below hbn.out)
  have OY_16 := hide (OY_15.out.below hbn.out)
  have OD_16 := hide (OD_15.out.below hbn.out)
  have FW_16 := hide (FW_15.out.below hbn.out)
  have OW_16 := hide (OW_15.out.below hbn.out)
  have FP_16 := hide (FP_15.out.below hbn.out)
  have FQ_16 := hide (FQ_15.out.below hbn.out)
  have OP_16 := hide (OP_15.out.below hbn.out)
  have OQ_16 := hide (OQ_15.out.below hbn.out)
  have FM_16 := hide (FM_15.out.below hbn.out)
  have OM_16 := hide (OM_15.out.below hbn.out)
  have FN_16 := hide (FN_15.out.below hbn.out)
  have ON_16 := hide (ON_15.out.below hbn.out)
  have FO_16 := hide (FO.out.below hbn.out)
  have OO_16 := hide (OO.out.below hbn.out)
  clear FX_15 FY_15 FD_15 OX_15 OY_15 OD_15 FW_15 OW_15 FP_15 FQ_15 OP_15 OQ_15 FM_15 OM_15 FN_15 ON_15 FO OO
  have HB28 := hide (same_below HB26.out hbn.out)
  have HSZ_w28 : Hid (w26.heap.size ≤ w28.heap.size) := hbn.out.size
  clear hbn HB26
  have x0 := FM_16.out.c0
  have x1 := FM_16.out.c1
  have x2 := FM_16.out.c2
  have y0 := FN_16.out.c0
  have y1 := FN_16.out.c1
  have y2 := FN_16.out.c2
  have q3 : (PE == PE) = true := by simp
  have q4 : (QE == QE) = true := by simp
  go_wp2_with fail
  refine (alike_eq PA PH ma na N2 mc N2 nc PD w28 (Got.rd OM_16.out (by rw [HN2.out]; omega)) (Got.rd ON_16.out (by rw [HN2.out]; omega))).mono ?_
  rintro e w29 ⟨rfl, hb29⟩
  clear x0 x1 x2 y0 y1 y2
  have FX_17 := hide (FX_16.out.below hb29)
  have FY_17 := hide (FY_16.out.below hb29)
  have FD_17 := hide (FD_16.out.below hb29)
  have OX_17 := hide (OX_16.out.below hb29)
  have OY_17 := hide (OY_16.out.below hb29)
  have OD_17 := hide (OD_16.out.below hb29)
  have FW_17 := hide (FW_16.out.below hb29)
  have OW_17 := hide (OW_16.out.below hb29)
  have FP_17 := hide (FP_16.out.below hb29)
  have FQ_17 := hide (FQ_16.out.below hb29)
  have OP_17 := hide (OP_16.out.below hb29)
  have OQ_17 := hide (OQ_16.out.below hb29)
  have FM_17 := hide (FM_16.out.below hb29)
  have OM_17 := hide (OM_16.out.below hb29)
  have FN_17 := hide (FN_16.out.below hb29)
  have ON_17 := hide (ON_16.out.below hb29)
  have FO_17 := hide (FO_16.out.below hb29)
  have OO_17 := hide (OO_16.out.below hb29)
  have FL_17 := hide (FL.out.below hb29)
  have OL_17 := hide (OL.out.below hb29)
  clear FX_16 FY_16 FD_16 OX_16 OY_16 OD_16 FW_16 OW_16 FP_16 FQ_16 OP_16 OQ_16 FM_16 OM_16 FN_16 ON_16 FO_16 OO_16 FL OL
  have HB29 := hide (same_below HB28.out hb29)
  clear hb29 HB28
  have x0 := FO_17.out.c0
  have x1 := FO_17.out.c1
  have x2 := FO_17.out.c2
  have y0 := FL_17.out.c0
  have y1 := FL_17.out.c1
  have y2 := FL_17.out.c2
  go_wp2_with fail
  refine (alike_eq QA QH oa la N3 oc N3 lc QD w29 (Got.rd OO_17.out (by rw [HN3.out]; omega)) (Got.rd OL_17.out (by rw [HN3.out]; omega))).mono ?_
  rintro e w30 ⟨rfl, hb30⟩
  clear x0 x1 x2 y0 y1 y2
  have FX_18 := hide (FX_17.out.below hb30)
  have FY_18 := hide (FY_17.out.below hb30)
  have FD_18 := hide (FD_17.out.below hb30)
  have OX_18 := hide (OX_17.out.below hb30)
  have OY_18 := hide (OY_17.out.below hb30)
  have OD_18 := hide (OD_17.out.below hb30)
  have FW_18 := hide (FW_17.out.below hb30)
  have OW_18 := hide (OW_17.out.below hb30)
  have FP_18 := hide (FP_17.out.below hb30)
  have FQ_18 := hide (FQ_17.out.below hb30)
  have OP_18 := hide (OP_17.out.below hb30)
  have OQ_18 := hide (OQ_17.out.below hb30)
  have FM_18 := hide (FM_17.out.below hb30)
  have OM_18 := hide (OM_17.out.below hb30)
  have FN_18 := hide (FN_17.out.below hb30)
  have ON_18 := hide (ON_17.out.below hb30)
  have FO_18 := hide (FO_17.out.below hb30)
  have OO_18 := hide (OO_17.out.below hb30)
  have FL_18 := hide (FL_17.out.below hb30)
  have OL_18 := hide (OL_17.out.below hb30)
  clear FX_17 FY_17 FD_17 OX_17 OY_17 OD_17 FW_17 OW_17 FP_17 FQ_17 OP_17 OQ_17 FM_17 OM_17 FN_17 ON_17 FO_17 OO_17 FL_17 OL_17
  have HB30 := hide (same_below HB29.out hb30)
  clear hb30 HB29
  have x0 := FD_18.out.c0
  have x1 := FD_18.out.c1
  have x2 := FD_18.out.c2
  have y0 := FW_18.out.c0
  have y1 := FW_18.out.c1
  have y2 := FW_18.out.c2
  go_wp2_with fail
  refine (alike_eq FA FH da wa N1 dc N1 wc' FD w30 (Got.rd OD_18.out (by rw [HN1.out]; omega)) (Got.rd OW_18.out (by rw [HN1.out]; omega))).mono ?_
  rintro e w31 ⟨rfl, hb31⟩
  have HB31 := hide (same_below HB30.out hb31)
  clear hb31 x0 x1 x2 y0 y1 y2
  go_wp2_with fail
  go_ret
  have hfin : Below w.heap.size w w31 := HBW.out.trans (HB31.out.mono HBW.out.size)
  exact ⟨rfl, by first | exact hfin | (rw [← HS.out]; exact hfin)⟩
end Go.Proofs.YtpbkkaalkhhakaaDoor.filterJoins
