/-
  The walk of the statement FilterNever.
-/
import Derived.Test.YtpdlpahpefojbaaDoorFiAll
namespace Go.Proofs.YtpdlpahpefojbaaDoor.filterNever
open Go.ChangeShapes Go.WideShapes Go.ChangeAt Go.RowKit
open Go.Proofs.YtpdlpahpefojbaaDoor.Base hiding hide unhide lt8
open Go.Proofs.YtpdlpahpefojbaaDoor.Filt
set_option linter.unusedVariables false
theorem bent_b (n : Int) (w : World) (hw : (Lit.int .i64 n).wf = true) : Calls Tryd.prog 15 #[.int .i64 n] w fun e w' => e = .returned (.int .i64 (n % 17)) ∧ Below w.heap.size w w' :=
  (bent_any n w hw).mono fun e w' ⟨h1, h2⟩ => ⟨h1, by rw [h2]; exact Below.refl _ _⟩
/-- Build, where its answer is known. -/
theorem build_at (a : Option Addr) (len cap : Nat) (ss : List ByteArray) (bits : Int) (FA : Bool) (FH : Int) (FD : List (BitVec 8)) (N : Nat) (w : World) (hN : FD.length = N) (hE : builtF ss bits = (⟨FA, FH, FD⟩, 0)) (hK : KAt w) (hr : RdS w a len ss) (hb : FD.length ≤ 4096) :
    Calls Tryd.prog 16 #[.slice a len cap, .int .i64 bits] w fun e w' => ∃ va vc, e = .returned (.tuple #[.agg #[.bool FA, .int .i64 FH, .slice va N vc], .int .i64 0]) ∧ Rd w' va N FD ∧ (va = none → N = 0 ∧ vc = 0) ∧ Below w.heap.size w w' :=
  (build_any a len cap ss bits w hK hr).mono fun e w' ⟨v, h1, h2, h3⟩ => by
    rw [hE] at h1 h2
    obtain ⟨va, vc, rfl⟩ := h2.shape
    simp only at h1 h2
    have h4 := Got.rd h2 (by omega)
    have h5 : va = none → FD.length = 0 ∧ vc = 0 := Got.nil h2
    rw [hN] at h1 h4 h5
    exact ⟨va, vc, h1, h4, h5, h3⟩
/-- Join, where its answer is known. -/
theorem join_to (A : Bool) (H : Int) (a : Option Addr) (len cap : Nat) (xs : List (BitVec 8)) (B : Bool) (G : Int) (b : Option Addr) (n c : Nat) (ys : List (BitVec 8)) (FA : Bool) (FH : Int) (FD : List (BitVec 8)) (FE : Int) (N : Nat) (w : World) (hN : FD.length = N) (hl : FD.length ≤ 4096) (hE : joined ⟨A, H, xs⟩ ⟨B, G, ys⟩ = (⟨FA, FH, FD⟩, FE)) (hK : KAt w) (hJ : JAt w) (hx : Rd w a len xs) (hy : Rd w b n ys) (hna : a = none → len = 0 ∧ cap = 0) (hnb : b = none → n = 0 ∧ c = 0) :
    Calls Tryd.prog 9 #[.agg #[.bool A, .int .i64 H, .slice a len cap], .agg #[.bool B, .int .i64 G, .slice b n c]] w fun e w' => ∃ va vc, e = .returned (.tuple #[.agg #[.bool FA, .int .i64 FH, .slice va N vc], .int .i64 FE]) ∧ Rd w' va N FD ∧ (va = none → N = 0 ∧ vc = 0) ∧ Below w.heap.size w w' :=
  (join_any A H a len cap xs B G b n c ys w hK hJ hx hy hna hnb).mono fun e w' ⟨v, h1, h2, h3⟩ => by
    rw [hE] at h1 h2
    obtain ⟨va, vc, rfl⟩ := h2.shape
    simp only at h1 h2
    have h4 := Got.rd h2 (by omega)
    have h5 : va = none → FD.length = 0 ∧ vc = 0 := Got.nil h2
    rw [hN] at h1 h4 h5
    exact ⟨va, vc, h1, h4, h5, h3⟩
theorem joined_small (f g : Fw) (h1 : f.data.length ≤ 4096) (h2 : g.data.length ≤ 4096) : (joined f g).1.data.length ≤ 4096 := joined_len f g 4096 h1 h2
set_option maxHeartbeats 4000000 in
set_option maxRecDepth 100000 in
theorem walk (a0 : Option Addr) (len0 cap0 : Nat) (ss : List ByteArray) (n1 : Int) (a2 : Option Addr) (len2 cap2 : Nat) (ts : List ByteArray) (n3 : Int) (w : World) (hK : KAt w) (hJ : JAt w) (r0 : RdS w a0 len0 ss) (l0 : len0 ≤ cap0) (m0 : cap0 ≤ 8796093021952) (z0 : a0 = none → len0 = 0 ∧ cap0 = 0) (w1 : (Lit.int .i64 n1).wf = true) (r2 : RdS w a2 len2 ts) (l2 : len2 ≤ cap2) (m2 : cap2 ≤ 8796093021952) (z2 : a2 = none → len2 = 0 ∧ cap2 = 0) (w3 : (Lit.int .i64 n3).wf = true) :
    Calls Tryd.prog 7 #[.slice a0 len0 cap0, .int .i64 n1, .slice a2 len2 cap2, .int .i64 n3] w fun e w' => e = .returned (.bool true) ∧ Below w.heap.size w w' := by
  have HKW := hide hK
  have HJW := hide hJ
  have RS := hide r0
  have RT := hide r2
  have WF1 := hide w1
  have WF3 := hide w3
  obtain ⟨fe, fk, fh⟩ := built_ok ss (n1 % 17) (by omega) (by omega)
  obtain ⟨ge, gk, gh⟩ := built_ok ts (n3 % 17) (by omega) (by omega)
  have fl := builtF_len ss (n1 % 17)
  have gl := builtF_len ts (n3 % 17)
  obtain ⟨F, hF⟩ : ∃ F, builtF ss (n1 % 17) = F := ⟨_, rfl⟩
  obtain ⟨G, hG⟩ : ∃ G, builtF ts (n3 % 17) = G := ⟨_, rfl⟩
  rw [hF] at fe fk fh fl
  rw [hG] at ge gk gh gl
  obtain ⟨⟨FA, FH, FD⟩, FE⟩ := F
  obtain ⟨⟨GA, GH, GD⟩, GE⟩ := G
  simp only at fe fk fh fl ge gk gh gl
  subst fe ge
  have HFB := hide hF
  have HGB := hide hG
  have he := enc_ok ⟨FA, FH, FD⟩ fk
  obtain ⟨hd1, hd2⟩ := dec_enc ⟨FA, FH, FD⟩ he
  obtain ⟨EF, hEF⟩ : ∃ EF, encF ⟨FA, FH, FD⟩ = EF := ⟨_, rfl⟩
  rw [hEF] at he hd1 hd2
  obtain ⟨EB, EE⟩ := EF
  simp only at he hd1 hd2
  subst he
  have HEF := hide hEF
  have HDF := hide hd1
  have HEL := hide hd2
  have jerr := joined_err ⟨FA, FH, FD⟩ ⟨GA, GH, GD⟩ fk gk
  have jcom := joined_comm ⟨GA, GH, GD⟩ ⟨FA, FH, FD⟩
  have jl := joined_small ⟨FA, FH, FD⟩ ⟨GA, GH, GD⟩ fl gl
  have jhf := fun he s hs => joined_has ⟨FA, FH, FD⟩ ⟨GA, GH, GD⟩ fk gk he s (fh s hs)
  have jhg := fun he s hs => joined_has ⟨GA, GH, GD⟩ ⟨FA, FH, FD⟩ gk fk he s (gh s hs)
  rw [jcom] at jhg
  obtain ⟨J, hJ0⟩ : ∃ J, joined ⟨FA, FH, FD⟩ ⟨GA, GH, GD⟩ = J := ⟨_, rfl⟩
  rw [hJ0] at jerr jcom jl jhf jhg
  obtain ⟨⟨JA, JH, JD⟩, JE⟩ := J
  simp only at jerr jl jhf jhg
  have HJ1 := hide hJ0
  have HJ2 := hide jcom
  have HJE := hide jerr
  have HJF := hide jhf
  have HJG := hide jhg
  have HSF := hide (joined_self ⟨FA, FH, FD⟩ fk)
  have HFH := hide fh
  have HGH := hide gh
  obtain ⟨NF, hNF⟩ : ∃ N, FD.length = N := ⟨_, rfl⟩
  obtain ⟨NG, hNG⟩ : ∃ N, GD.length = N := ⟨_, rfl⟩
  obtain ⟨NJ, hNJ⟩ : ∃ N, JD.length = N := ⟨_, rfl⟩
  obtain ⟨NE, hNE⟩ : ∃ N, EB.length = N := ⟨_, rfl⟩
  have HNF := hide hNF
  have HNG := hide hNG
  have HNJ := hide hNJ
  have HNE := hide hNE
  have HFL := hide fl
  have HGL := hide gl
  have HJL := hide jl
  have hnfl : NF ≤ 4096 := by omega
  have hngl : NG ≤ 4096 := by omega
  have hnjl : NJ ≤ 4096 := by omega
  have hnel : NE ≤ 4099 := by omega
  clear hK hJ r0 r2 w1 w3 hF hG fk gk fh gh hd1 hd2 hEF jerr jcom jl jhf jhg hJ0 hNF hNG hNJ hNE fl gl
  have HBE1 := hide (fun W => bent_b n1 W WF1.out)
  have HBE3 := hide (fun W => bent_b n3 W WF3.out)
  generalize n1 % 17 = B1 at HFB HBE1
  generalize n3 % 17 = B3 at HGB HBE3
  go_enter Tryd.func7, Tryd.ntmps7
  go_wp2_with fail
  refine (HBE1.out w).mono ?_
  rintro e u1 ⟨rfl, hb1⟩
  have HB_1 := hide hb1
  clear hb1
  go_wp2_with fail
  refine (build_at a0 len0 cap0 ss B1 FA FH FD NF u1 HNF.out HFB.out (kat_below HKW.out HB_1.out) (RS.out.below HB_1.out) HFL.out).mono ?_
  rintro e u2 ⟨fa, fc, rfl, hrd, hnil, hb2⟩
  have RF_2 := hide hrd
  clear hrd
  have HB_2 := hide (below_trans HB_1.out hb2)
  clear HB_1 hb2
  have HFN := hide hnil
  clear hnil
  obtain ⟨u3, pBF, eBF, sBF, BF_3, hbBF, _⟩ := laid_new (Below.refl u2.heap.size u2) FA FH (.slice fa NF fc)
  have RF_3 := hide (RF_2.out.below hbBF.out)
  have HB_3 := hide (below_trans HB_2.out hbBF.out)
  clear RF_2 HB_2
  clear hbBF
  have x0 := BF_3.out.c0
  have x1 := BF_3.out.c1
  have x2 := BF_3.out.c2
  go_wp2_with fail
  refine (all_any FA FH fa NF fc FD a0 len0 cap0 ss u3 (kat_below HKW.out HB_3.out) RF_3.out (by omega) (RS.out.below HB_3.out) (HFH.out)).mono ?_
  rintro e u4 ⟨rfl, hb4⟩
  have RF_4 := hide (RF_3.out.below hb4)
  have BF_4 := hide (BF_3.out.below hb4)
  have HB_4 := hide (below_trans HB_3.out hb4)
  clear RF_3 BF_3 HB_3 x0 x1 x2 hb4
  have x0 := BF_4.out.c0
  have x1 := BF_4.out.c1
  have x2 := BF_4.out.c2
  go_wp2_with fail
  have HEN := hide (encode_any FA FH fa NF fc FD u4 (kat_below HKW.out HB_4.out) RF_4.out (by omega) HFN.out)
  rw [HEF.out] at HEN
  refine HEN.out.mono ?_
  rintro e u5 ⟨v, rfl, ho5, hb5⟩
  obtain ⟨ba, bc, rfl⟩ := ho5.shape
  simp only at ho5 ⊢
  rw [HNE.out] at ho5 ⊢
  clear HEN
  have RF_5 := hide (RF_4.out.below hb5)
  have BF_5 := hide (BF_4.out.below hb5)
  have HB_5 := hide (below_trans HB_4.out hb5)
  clear RF_4 BF_4 HB_4 x0 x1 x2 hb5
  have HOE := hide ho5
  clear ho5
  go_wp2_with fail
  have HDN := hide (decode_any ba NE bc EB u5 (kat_below HKW.out HB_5.out) (Got.rd HOE.out (by rw [HNE.out]; omega)) (Got.cap HOE.out).1 (Got.nil HOE.out))
  rw [HDF.out] at HDN
  refine HDN.out.mono ?_
  rintro e u6 ⟨da, dn, dc, rfl, hrd, hnil, hb6⟩
  simp only at hrd ⊢
  have hdn : dn = NF := by have h1 := hrd.1; have h2 := HNF.out; omega
  subst hdn
  clear HDN
  have RD_6 := hide hrd
  clear hrd hnil
  have RF_6 := hide (RF_5.out.below hb6)
  have BF_6 := hide (BF_5.out.below hb6)
  have HB_6 := hide (below_trans HB_5.out hb6)
  clear RF_5 BF_5 HB_5 hb6
  obtain ⟨u7, pBD, eBD, sBD, BD_7, hbBD, _⟩ := laid_new (Below.refl u6.heap.size u6) FA FH (.slice da dn dc)
  have RF_7 := hide (RF_6.out.below hbBD.out)
  have BF_7 := hide (BF_6.out.below hbBD.out)
  have RD_7 := hide (RD_6.out.below hbBD.out)
  have HB_7 := hide (below_trans HB_6.out hbBD.out)
  clear RF_6 BF_6 RD_6 HB_6
  clear hbBD
  have x0 := BD_7.out.c0
  have x1 := BD_7.out.c1
  have x2 := BD_7.out.c2
  have x3 := BF_7.out.c0
  have x4 := BF_7.out.c1
  have x5 := BF_7.out.c2
  go_wp2_with fail
  refine (alike_eq FA FH da fa dn dc dn fc FD u7 RD_7.out RF_7.out).mono ?_
  rintro e u8 ⟨rfl, hb8⟩
  have RF_8 := hide (RF_7.out.below hb8)
  have BF_8 := hide (BF_7.out.below hb8)
  have RD_8 := hide (RD_7.out.below hb8)
  have BD_8 := hide (BD_7.out.below hb8)
  have HB_8 := hide (below_trans HB_7.out hb8)
  clear RF_7 BF_7 RD_7 BD_7 HB_7 x0 x1 x2 x3 x4 x5 hb8
  have x0 := BD_8.out.c0
  have x1 := BD_8.out.c1
  have x2 := BD_8.out.c2
  go_wp2_with fail
  refine (all_any FA FH da dn dc FD a0 len0 cap0 ss u8 (kat_below HKW.out HB_8.out) RD_8.out (by omega) (RS.out.below HB_8.out) (HFH.out)).mono ?_
  rintro e u9 ⟨rfl, hb9⟩
  have RF_9 := hide (RF_8.out.below hb9)
  have BF_9 := hide (BF_8.out.below hb9)
  have RD_9 := hide (RD_8.out.below hb9)
  have BD_9 := hide (BD_8.out.below hb9)
  have HB_9 := hide (below_trans HB_8.out hb9)
  clear RF_8 BF_8 RD_8 BD_8 HB_8 x0 x1 x2 hb9
  go_wp2_with fail
  refine (HBE3.out u9).mono ?_
  rintro e u10 ⟨rfl, hb10⟩
  have RF_10 := hide (RF_9.out.below hb10)
  have BF_10 := hide (BF_9.out.below hb10)
  have RD_10 := hide (RD_9.out.below hb10)
  have BD_10 := hide (BD_9.out.below hb10)
  have HB_10 := hide (below_trans HB_9.out hb10)
  clear RF_9 BF_9 RD_9 BD_9 HB_9 hb10
  go_wp2_with fail
  refine (build_at a2 len2 cap2 ts B3 GA GH GD NG u10 HNG.out HGB.out (kat_below HKW.out HB_10.out) (RT.out.below HB_10.out) HGL.out).mono ?_
  rintro e u11 ⟨ga, gc, rfl, hrd, hnil, hb11⟩
  have RG_11 := hide hrd
  clear hrd
  have RF_11 := hide (RF_10.out.below hb11)
  have BF_11 := hide (BF_10.out.below hb11)
  have RD_11 := hide (RD_10.out.below hb11)
  have BD_11 := hide (BD_10.out.below hb11)
  have HB_11 := hide (below_trans HB_10.out hb11)
  clear RF_10 BF_10 RD_10 BD_10 HB_10 hb11
  have HGN := hide hnil
  clear hnil
  obtain ⟨u12, pBG, eBG, sBG, BG_12, hbBG, _⟩ := laid_new (Below.refl u11.heap.size u11) GA GH (.slice ga NG gc)
  have RF_12 := hide (RF_11.out.below hbBG.out)
  have BF_12 := hide (BF_11.out.below hbBG.out)
  have RD_12 := hide (RD_11.out.below hbBG.out)
  have BD_12 := hide (BD_11.out.below hbBG.out)
  have RG_12 := hide (RG_11.out.below hbBG.out)
  have HB_12 := hide (below_trans HB_11.out hbBG.out)
  clear RF_11 BF_11 RD_11 BD_11 RG_11 HB_11
  clear hbBG
  have x0 := BF_12.out.c0
  have x1 := BF_12.out.c1
  have x2 := BF_12.out.c2
  have x3 := BG_12.out.c0
  have x4 := BG_12.out.c1
  have x5 := BG_12.out.c2
  go_wp2_with fail
  refine (join_to FA FH fa dn fc FD GA GH ga NG gc GD JA JH JD JE NJ u12 HNJ.out HJL.out HJ1.out (kat_below HKW.out HB_12.out) (jat_below HJW.out HB_12.out) RF_12.out RG_12.out HFN.out HGN.out).mono ?_
  rintro e u13 ⟨ja, jc, rfl, hrd, hnil, hb13⟩
  have RJ_13 := hide hrd
  clear hrd
  have RF_13 := hide (RF_12.out.below hb13)
  have BF_13 := hide (BF_12.out.below hb13)
  have RD_13 := hide (RD_12.out.below hb13)
  have BD_13 := hide (BD_12.out.below hb13)
  have RG_13 := hide (RG_12.out.below hb13)
  have BG_13 := hide (BG_12.out.below hb13)
  have HB_13 := hide (below_trans HB_12.out hb13)
  clear RF_12 BF_12 RD_12 BD_12 RG_12 BG_12 HB_12 x0 x1 x2 x3 x4 x5 hb13
  clear hnil
  obtain ⟨u14, pBJ, eBJ, sBJ, BJ_14, hbBJ, _⟩ := laid_new (Below.refl u13.heap.size u13) JA JH (.slice ja NJ jc)
  have RF_14 := hide (RF_13.out.below hbBJ.out)
  have BF_14 := hide (BF_13.out.below hbBJ.out)
  have RD_14 := hide (RD_13.out.below hbBJ.out)
  have BD_14 := hide (BD_13.out.below hbBJ.out)
  have RG_14 := hide (RG_13.out.below hbBJ.out)
  have BG_14 := hide (BG_13.out.below hbBJ.out)
  have RJ_14 := hide (RJ_13.out.below hbBJ.out)
  have HB_14 := hide (below_trans HB_13.out hbBJ.out)
  clear RF_13 BF_13 RD_13 BD_13 RG_13 BG_13 RJ_13 HB_13
  clear hbBJ
  have x0 := BF_14.out.c0
  have x1 := BF_14.out.c1
  have x2 := BF_14.out.c2
  have x3 := BG_14.out.c0
  have x4 := BG_14.out.c1
  have x5 := BG_14.out.c2
  go_wp2_with fail
  refine (join_to GA GH ga NG gc GD FA FH fa dn fc FD JA JH JD JE NJ u14 HNJ.out HJL.out HJ2.out (kat_below HKW.out HB_14.out) (jat_below HJW.out HB_14.out) RG_14.out RF_14.out HGN.out HFN.out).mono ?_
  rintro e u15 ⟨la, lc, rfl, hrd, hnil, hb15⟩
  have RL_15 := hide hrd
  clear hrd
  have RF_15 := hide (RF_14.out.below hb15)
  have BF_15 := hide (BF_14.out.below hb15)
  have RD_15 := hide (RD_14.out.below hb15)
  have BD_15 := hide (BD_14.out.below hb15)
  have RG_15 := hide (RG_14.out.below hb15)
  have BG_15 := hide (BG_14.out.below hb15)
  have RJ_15 := hide (RJ_14.out.below hb15)
  have BJ_15 := hide (BJ_14.out.below hb15)
  have HB_15 := hide (below_trans HB_14.out hb15)
  clear RF_14 BF_14 RD_14 BD_14 RG_14 BG_14 RJ_14 BJ_14 HB_14 x0 x1 x2 x3 x4 x5 hb15
  clear hnil
  obtain ⟨u16, pBL, eBL, sBL, BL_16, hbBL, _⟩ := laid_new (Below.refl u15.heap.size u15) JA JH (.slice la NJ lc)
  have RF_16 := hide (RF_15.out.below hbBL.out)
  have BF_16 := hide (BF_15.out.below hbBL.out)
  have RD_16 := hide (RD_15.out.below hbBL.out)
  have BD_16 := hide (BD_15.out.below hbBL.out)
  have RG_16 := hide (RG_15.out.below hbBL.out)
  have BG_16 := hide (BG_15.out.below hbBL.out)
  have RJ_16 := hide (RJ_15.out.below hbBL.out)
  have BJ_16 := hide (BJ_15.out.below hbBL.out)
  have RL_16 := hide (RL_15.out.below hbBL.out)
  have HB_16 := hide (below_trans HB_15.out hbBL.out)
  clear RF_15 BF_15 RD_15 BD_15 RG_15 BG_15 RJ_15 BJ_15 RL_15 HB_15
  clear hbBL
  have x0 := BJ_16.out.c0
  have x1 := BJ_16.out.c1
  have x2 := BJ_16.out.c2
  have x3 := BL_16.out.c0
  have x4 := BL_16.out.c1
  have x5 := BL_16.out.c2
  have je : (JE != JE) = false := by simp
  have jc0 : JE = 0 ∨ JE = 3 := HJE.out
  rcases jc0 with rfl | rfl
  · go_wp2_with fail
    refine (alike_eq JA JH ja la NJ jc NJ lc JD u16 RJ_16.out RL_16.out).mono ?_
    rintro e u17 ⟨rfl, hb17⟩
    have RF_17 := hide (RF_16.out.below hb17)
    have BF_17 := hide (BF_16.out.below hb17)
    have RD_17 := hide (RD_16.out.below hb17)
    have BD_17 := hide (BD_16.out.below hb17)
    have RG_17 := hide (RG_16.out.below hb17)
    have BG_17 := hide (BG_16.out.below hb17)
    have RJ_17 := hide (RJ_16.out.below hb17)
    have BJ_17 := hide (BJ_16.out.below hb17)
    have RL_17 := hide (RL_16.out.below hb17)
    have BL_17 := hide (BL_16.out.below hb17)
    have HB_17 := hide (below_trans HB_16.out hb17)
    clear RF_16 BF_16 RD_16 BD_16 RG_16 BG_16 RJ_16 BJ_16 RL_16 BL_16 HB_16 x0 x1 x2 x3 x4 x5 hb17
    have x0 := BJ_17.out.c0
    have x1 := BJ_17.out.c1
    have x2 := BJ_17.out.c2
    go_wp2_with fail
    refine (all_any JA JH ja NJ jc JD a0 len0 cap0 ss u17 (kat_below HKW.out HB_17.out) RJ_17.out (by omega) (RS.out.below HB_17.out) (HJF.out (by first | rfl | trivial))).mono ?_
    rintro e u18 ⟨rfl, hb18⟩
    have RF_18 := hide (RF_17.out.below hb18)
    have BF_18 := hide (BF_17.out.below hb18)
    have RD_18 := hide (RD_17.out.below hb18)
    have BD_18 := hide (BD_17.out.below hb18)
    have RG_18 := hide (RG_17.out.below hb18)
    have BG_18 := hide (BG_17.out.below hb18)
    have RJ_18 := hide (RJ_17.out.below hb18)
    have BJ_18 := hide (BJ_17.out.below hb18)
    have RL_18 := hide (RL_17.out.below hb18)
    have BL_18 := hide (BL_17.out.below hb18)
    have HB_18 := hide (below_trans HB_17.out hb18)
    clear RF_17 BF_17 RD_17 BD_17 RG_17 BG_17 RJ_17 BJ_17 RL_17 BL_17 HB_17 x0 x1 x2 hb18
    have x0 := BJ_18.out.c0
    have x1 := BJ_18.out.c1
    have x2 := BJ_18.out.c2
    go_wp2_with fail
    refine (all_any JA JH ja NJ jc JD a2 len2 cap2 ts u18 (kat_below HKW.out HB_18.out) RJ_18.out (by omega) (RT.out.below HB_18.out) (HJG.out (by first | rfl | trivial))).mono ?_
    rintro e u19 ⟨rfl, hb19⟩
    have RF_19 := hide (RF_18.out.below hb19)
    have BF_19 := hide (BF_18.out.below hb19)
    have RD_19 := hide (RD_18.out.below hb19)
    have BD_19 := hide (BD_18.out.below hb19)
    have RG_19 := hide (RG_18.out.below hb19)
    have BG_19 := hide (BG_18.out.below hb19)
    have RJ_19 := hide (RJ_18.out.below hb19)
    have BJ_19 := hide (BJ_18.out.below hb19)
    have RL_19 := hide (RL_18.out.below hb19)
    have BL_19 := hide (BL_18.out.below hb19)
    have HB_19 := hide (below_trans HB_18.out hb19)
    clear RF_18 BF_18 RD_18 BD_18 RG_18 BG_18 RJ_18 BJ_18 RL_18 BL_18 HB_18 x0 x1 x2 hb19
    have x0 := BF_19.out.c0
    have x1 := BF_19.out.c1
    have x2 := BF_19.out.c2
    go_wp2_with fail
    refine (join_to FA FH fa dn fc FD FA FH fa dn fc FD FA FH FD 0 dn u19 HNF.out HFL.out HSF.out (kat_below HKW.out HB_19.out) (jat_below HJW.out HB_19.out) RF_19.out RF_19.out HFN.out HFN.out).mono ?_
    rintro e u20 ⟨sa, sc, rfl, hrd, hnil, hb20⟩
    have RZ_20 := hide hrd
    clear hrd
    have RF_20 := hide (RF_19.out.below hb20)
    have BF_20 := hide (BF_19.out.below hb20)
    have RD_20 := hide (RD_19.out.below hb20)
    have BD_20 := hide (BD_19.out.below hb20)
    have RG_20 := hide (RG_19.out.below hb20)
    have BG_20 := hide (BG_19.out.below hb20)
    have RJ_20 := hide (RJ_19.out.below hb20)
    have BJ_20 := hide (BJ_19.out.below hb20)
    have RL_20 := hide (RL_19.out.below hb20)
    have BL_20 := hide (BL_19.out.below hb20)
    have HB_20 := hide (below_trans HB_19.out hb20)
    clear RF_19 BF_19 RD_19 BD_19 RG_19 BG_19 RJ_19 BJ_19 RL_19 BL_19 HB_19 x0 x1 x2 hb20
    clear hnil
    obtain ⟨u21, pBZ, eBZ, sBZ, BZ_21, hbBZ, _⟩ := laid_new (Below.refl u20.heap.size u20) FA FH (.slice sa dn sc)
    have RF_21 := hide (RF_20.out.below hbBZ.out)
    have BF_21 := hide (BF_20.out.below hbBZ.out)
    have RD_21 := hide (RD_20.out.below hbBZ.out)
    have BD_21 := hide (BD_20.out.below hbBZ.out)
    have RG_21 := hide (RG_20.out.below hbBZ.out)
    have BG_21 := hide (BG_20.out.below hbBZ.out)
    have RJ_21 := hide (RJ_20.out.below hbBZ.out)
    have BJ_21 := hide (BJ_20.out.below hbBZ.out)
    have RL_21 := hide (RL_20.out.below hbBZ.out)
    have BL_21 := hide (BL_20.out.below hbBZ.out)
    have RZ_21 := hide (RZ_20.out.below hbBZ.out)
    have HB_21 := hide (below_trans HB_20.out hbBZ.out)
    clear RF_20 BF_20 RD_20 BD_20 RG_20 BG_20 RJ_20 BJ_20 RL_20 BL_20 RZ_20 HB_20
    clear hbBZ
    have x0 := BZ_21.out.c0
    have x1 := BZ_21.out.c1
    have x2 := BZ_21.out.c2
    have x3 := BF_21.out.c0
    have x4 := BF_21.out.c1
    have x5 := BF_21.out.c2
    go_wp2_with fail
    refine (alike_eq FA FH sa fa dn sc dn fc FD u21 RZ_21.out RF_21.out).mono ?_
    rintro e u22 ⟨rfl, hb22⟩
    have RF_22 := hide (RF_21.out.below hb22)
    have BF_22 := hide (BF_21.out.below hb22)
    have RD_22 := hide (RD_21.out.below hb22)
    have BD_22 := hide (BD_21.out.below hb22)
    have RG_22 := hide (RG_21.out.below hb22)
    have BG_22 := hide (BG_21.out.below hb22)
    have RJ_22 := hide (RJ_21.out.below hb22)
    have BJ_22 := hide (BJ_21.out.below hb22)
    have RL_22 := hide (RL_21.out.below hb22)
    have BL_22 := hide (BL_21.out.below hb22)
    have RZ_22 := hide (RZ_21.out.below hb22)
    have BZ_22 := hide (BZ_21.out.below hb22)
    have HB_22 := hide (below_trans HB_21.out hb22)
    clear RF_21 BF_21 RD_21 BD_21 RG_21 BG_21 RJ_21 BJ_21 RL_21 BL_21 RZ_21 BZ_21 HB_21 x0 x1 x2 x3 x4 x5 hb22
    go_wp2_with fail
    refine (works_any u22 (kat_below HKW.out HB_22.out)).mono ?_
    rintro e u23 ⟨rfl, hb23⟩
    have RF_23 := hide (RF_22.out.below hb23)
    have BF_23 := hide (BF_22.out.below hb23)
    have RD_23 := hide (RD_22.out.below hb23)
    have BD_23 := hide (BD_22.out.below hb23)
    have RG_23 := hide (RG_22.out.below hb23)
    have BG_23 := hide (BG_22.out.below hb23)
    have RJ_23 := hide (RJ_22.out.below hb23)
    have BJ_23 := hide (BJ_22.out.below hb23)
    have RL_23 := hide (RL_22.out.below hb23)
    have BL_23 := hide (BL_22.out.below hb23)
    have RZ_23 := hide (RZ_22.out.below hb23)
    have BZ_23 := hide (BZ_22.out.below hb23)
    have HB_23 := hide (below_trans HB_22.out hb23)
    clear RF_22 BF_22 RD_22 BD_22 RG_22 BG_22 RJ_22 BJ_22 RL_22 BL_22 RZ_22 BZ_22 HB_22 hb23
    go_wp2_with fail
    go_ret
    exact ⟨rfl, HB_23.out⟩
  · go_wp2_with fail
    refine (alike_eq JA JH ja la NJ jc NJ lc JD u16 RJ_16.out RL_16.out).mono ?_
    rintro e u17 ⟨rfl, hb17⟩
    have RF_17 := hide (RF_16.out.below hb17)
    have BF_17 := hide (BF_16.out.below hb17)
    have RD_17 := hide (RD_16.out.below hb17)
    have BD_17 := hide (BD_16.out.below hb17)
    have RG_17 := hide (RG_16.out.below hb17)
    have BG_17 := hide (BG_16.out.below hb17)
    have RJ_17 := hide (RJ_16.out.below hb17)
    have BJ_17 := hide (BJ_16.out.below hb17)
    have RL_17 := hide (RL_16.out.below hb17)
    have BL_17 := hide (BL_16.out.below hb17)
    have HB_17 := hide (below_trans HB_16.out hb17)
    clear RF_16 BF_16 RD_16 BD_16 RG_16 BG_16 RJ_16 BJ_16 RL_16 BL_16 HB_16 x0 x1 x2 x3 x4 x5 hb17
    have x0 := BF_17.out.c0
    have x1 := BF_17.out.c1
    have x2 := BF_17.out.c2
    go_wp2_with fail
    refine (join_to FA FH fa dn fc FD FA FH fa dn fc FD FA FH FD 0 dn u17 HNF.out HFL.out HSF.out (kat_below HKW.out HB_17.out) (jat_below HJW.out HB_17.out) RF_17.out RF_17.out HFN.out HFN.out).mono ?_
    rintro e u20 ⟨sa, sc, rfl, hrd, hnil, hb20⟩
    have RZ_18 := hide hrd
    clear hrd
    have RF_18 := hide (RF_17.out.below hb20)
    have BF_18 := hide (BF_17.out.below hb20)
    have RD_18 := hide (RD_17.out.below hb20)
    have BD_18 := hide (BD_17.out.below hb20)
    have RG_18 := hide (RG_17.out.below hb20)
    have BG_18 := hide (BG_17.out.below hb20)
    have RJ_18 := hide (RJ_17.out.below hb20)
    have BJ_18 := hide (BJ_17.out.below hb20)
    have RL_18 := hide (RL_17.out.below hb20)
    have BL_18 := hide (BL_17.out.below hb20)
    have HB_18 := hide (below_trans HB_17.out hb20)
    clear RF_17 BF_17 RD_17 BD_17 RG_17 BG_17 RJ_17 BJ_17 RL_17 BL_17 HB_17 x0 x1 x2 hb20
    clear hnil
    obtain ⟨u21, pBZ, eBZ, sBZ, BZ_19, hbBZ, _⟩ := laid_new (Below.refl u20.heap.size u20) FA FH (.slice sa dn sc)
    have RF_19 := hide (RF_18.out.below hbBZ.out)
    have BF_19 := hide (BF_18.out.below hbBZ.out)
    have RD_19 := hide (RD_18.out.below hbBZ.out)
    have BD_19 := hide (BD_18.out.below hbBZ.out)
    have RG_19 := hide (RG_18.out.below hbBZ.out)
    have BG_19 := hide (BG_18.out.below hbBZ.out)
    have RJ_19 := hide (RJ_18.out.below hbBZ.out)
    have BJ_19 := hide (BJ_18.out.below hbBZ.out)
    have RL_19 := hide (RL_18.out.below hbBZ.out)
    have BL_19 := hide (BL_18.out.below hbBZ.out)
    have RZ_19 := hide (RZ_18.out.below hbBZ.out)
    have HB_19 := hide (below_trans HB_18.out hbBZ.out)
    clear RF_18 BF_18 RD_18 BD_18 RG_18 BG_18 RJ_18 BJ_18 RL_18 BL_18 RZ_18 HB_18
    clear hbBZ
    have x0 := BZ_19.out.c0
    have x1 := BZ_19.out.c1
    have x2 := BZ_19.out.c2
    have x3 := BF_19.out.c0
    have x4 := BF_19.out.c1
    have x5 := BF_19.out.c2
    go_wp2_with fail
    refine (alike_eq FA FH sa fa dn sc dn fc FD u21 RZ_19.out RF_19.out).mono ?_
    rintro e u22 ⟨rfl, hb22⟩
    have RF_20 := hide (RF_19.out.below hb22)
    have BF_20 := hide (BF_19.out.below hb22)
    have RD_20 := hide (RD_19.out.below hb22)
    have BD_20 := hide (BD_19.out.below hb22)
    have RG_20 := hide (RG_19.out.below hb22)
    have BG_20 := hide (BG_19.out.below hb22)
    have RJ_20 := hide (RJ_19.out.below hb22)
    have BJ_20 := hide (BJ_19.out.below hb22)
    have RL_20 := hide (RL_19.out.below hb22)
    have BL_20 := hide (BL_19.out.below hb22)
    have RZ_20 := hide (RZ_19.out.below hb22)
    have BZ_20 := hide (BZ_19.out.below hb22)
    have HB_20 := hide (below_trans HB_19.out hb22)
    clear RF_19 BF_19 RD_19 BD_19 RG_19 BG_19 RJ_19 BJ_19 RL_19 BL_19 RZ_19 BZ_19 HB_19 x0 x1 x2 x3 x4 x5 hb22
    go_wp2_with fail
    refine (works_any u22 (kat_below HKW.out HB_20.out)).mono ?_
    rintro e u23 ⟨rfl, hb23⟩
    have RF_21 := hide (RF_20.out.below hb23)
    have BF_21 := hide (BF_20.out.below hb23)
    have RD_21 := hide (RD_20.out.below hb23)
    have BD_21 := hide (BD_20.out.below hb23)
    have RG_21 := hide (RG_20.out.below hb23)
    have BG_21 := hide (BG_20.out.below hb23)
    have RJ_21 := hide (RJ_20.out.below hb23)
    have BJ_21 := hide (BJ_20.out.below hb23)
    have RL_21 := hide (RL_20.out.below hb23)
    have BL_21 := hide (BL_20.out.below hb23)
    have RZ_21 := hide (RZ_20.out.below hb23)
    have BZ_21 := hide (BZ_20.out.below hb23)
    have HB_21 := hide (below_trans HB_20.out hb23)
    clear RF_20 BF_20 RD_20 BD_20 RG_20 BG_20 RJ_20 BJ_20 RL_20 BL_20 RZ_20 BZ_20 HB_20 hb23
    go_wp2_with fail
    go_ret
    exact ⟨rfl, HB_21.out⟩
end Go.Proofs.YtpdlpahpefojbaaDoor.filterNever
