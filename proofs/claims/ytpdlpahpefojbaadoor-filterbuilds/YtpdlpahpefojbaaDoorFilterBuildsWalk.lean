/-
  The walk of the statement FilterBuilds.
-/
import Derived.Test.YtpdlpahpefojbaaDoorFiOpenS
namespace Go.Proofs.YtpdlpahpefojbaaDoor.filterBuilds
open Go.ChangeShapes Go.WideShapes Go.ChangeAt Go.RowKit
open Go.Proofs.YtpdlpahpefojbaaDoor.Base hiding hide unhide lt8
open Go.Proofs.YtpdlpahpefojbaaDoor.Filt
set_option linter.unusedVariables false
theorem build_own (a : Option Addr) (len cap : Nat) (ss : List ByteArray) (bits : Int) (FA : Bool) (FH : Int) (FD : List (BitVec 8)) (E : Int) (N : Nat) (w : World) (hN : FD.length = N) (hE : builtF ss bits = (⟨FA, FH, FD⟩, E)) (hK : KAt w) (hr : RdS w a len ss) :
    Calls Tryd.prog 16 #[.slice a len cap, .int .i64 bits] w fun e w' => ∃ va vc, e = .returned (.tuple #[.agg #[.bool FA, .int .i64 FH, .slice va N vc], .int .i64 E]) ∧ Own w' w.heap.size (.slice va N vc) FD ∧ Below w.heap.size w w' :=
  (build_any a len cap ss bits w hK hr).mono fun e w' ⟨v, h1, h2, h3⟩ => by
    rw [hE] at h1 h2
    obtain ⟨va, vc, rfl⟩ := h2.shape
    simp only at h1 h2
    rw [hN] at h1 h2
    exact ⟨va, vc, h1, h2, h3⟩
theorem ref_own (a : Option Addr) (len cap : Nat) (ss : List ByteArray) (bits : Int) (FA : Bool) (FH : Int) (FD : List (BitVec 8)) (E : Int) (N : Nat) (w : World) (hN : FD.length = N) (hE : builtF ss bits = (⟨FA, FH, FD⟩, E)) (hr : RdS w a len ss) :
    Calls Tryd.prog 22 #[.slice a len cap, .int .i64 bits] w fun e w' => ∃ va vc, e = .returned (.tuple #[.agg #[.bool FA, .int .i64 FH, .slice va N vc], .int .i64 E]) ∧ Own w' w.heap.size (.slice va N vc) FD ∧ Below w.heap.size w w' :=
  (refBuild_any a len cap ss bits w hr).mono fun e w' ⟨v, h1, h2, h3⟩ => by
    rw [hE] at h1 h2
    obtain ⟨va, vc, rfl⟩ := h2.shape
    simp only at h1 h2
    rw [hN] at h1 h2
    exact ⟨va, vc, h1, h2, h3⟩
theorem own_bl {w : World} {base n c : Nat} {a : Option Addr} {xs : List (BitVec 8)} (h : Own w base (.slice a n c) xs) : ∀ i, (Value.slice a n c).ownBlock = some i → base ≤ i ∧ i < w.heap.size := fun i e => World.ownsRow.lt h i e
set_option maxHeartbeats 4000000 in
set_option maxRecDepth 100000 in
theorem walk (a0 : Option Addr) (len0 cap0 : Nat) (ss : List ByteArray) (n1 : Int) (a2 : Option Addr) (len2 cap2 : Nat) (ts : List ByteArray) (w : World) (hK : KAt w) (r0 : RdS w a0 len0 ss) (l0 : len0 ≤ cap0) (m0 : cap0 ≤ 8796093021952) (z0 : a0 = none → len0 = 0 ∧ cap0 = 0) (y0 : ∀ s ∈ ss, s.size ≤ 140737488351232) (w1 : (Lit.int .i64 n1).wf = true) (r2 : RdS w a2 len2 ts) (l2 : len2 ≤ cap2) (m2 : cap2 ≤ 8796093021952) (z2 : a2 = none → len2 = 0 ∧ cap2 = 0) (y2 : ∀ s ∈ ts, s.size ≤ 140737488351232) :
    Calls Tryd.prog 5 #[.slice a0 len0 cap0, .int .i64 n1, .slice a2 len2 cap2] w fun e w' => e = .returned (.bool true) ∧ Below w.heap.size w w' := by
  have HKW := hide hK
  have RS := hide r0
  have RT := hide r2
  have HLS := hide r0.1
  have HLT := hide r2.1
  have HSZ := hide r0.2.2.1
  have HSY := hide y0
  have HSA : Hid (∀ s ∈ ss.map addz, s.size ≤ 9223372036854775807) := by
    intro s hs
    obtain ⟨x, hx, rfl⟩ := List.mem_map.1 hs
    have := HSY.out x hx
    rw [addz_size]; omega
  have HLA : Hid ((ss.map addz).length = len0) := by show _ = _; rw [List.length_map]; exact HLS.out
  have fl := builtF_len ss n1
  have gl := builtF_len (ss.map addz) n1
  obtain ⟨F, hF⟩ : ∃ F, builtF ss n1 = F := ⟨_, rfl⟩
  obtain ⟨G, hG⟩ : ∃ G, builtF (ss.map addz) n1 = G := ⟨_, rfl⟩
  rw [hF] at fl
  rw [hG] at gl
  obtain ⟨⟨FA, FH, FD⟩, FE⟩ := F
  obtain ⟨⟨GA, GH, GD⟩, GE⟩ := G
  simp only at fl gl
  have HFB := hide hF
  have HGB := hide hG
  obtain ⟨NF, hNF⟩ : ∃ N, FD.length = N := ⟨_, rfl⟩
  obtain ⟨NG, hNG⟩ : ∃ N, GD.length = N := ⟨_, rfl⟩
  have HNF := hide hNF
  have HNG := hide hNG
  have hnf : NF ≤ 4096 := by omega
  have hng : NG ≤ 4096 := by omega
  have hlen : len0 ≤ 8796093021952 := by omega
  have hleni : (len0 : Int) ≤ 8796093021952 := by omega
  have hl64 : len0 ≤ len0 + 64 := by omega
  have HRDF : Hid (∀ W base va vc, Own W base (.slice va NF vc) FD → Rd W va NF FD) := fun W base va vc h => Got.rd h (by rw [HNF.out]; omega)
  have HRDG : Hid (∀ W base va vc, Own W base (.slice va NG vc) GD → Rd W va NG GD) := fun W base va vc h => Got.rd h (by rw [HNG.out]; omega)
  clear hK r0 r2 w1 y0 y2 hF hG fl gl hNF hNG
  go_enter Tryd.func5, Tryd.ntmps5
  go_wp2_with fail
  refine (texts_any a0 len0 cap0 ss w RS.out hlen).mono ?_
  rintro e u1 ⟨g, rfl, hgw, hos, hb1⟩
  have FS_1 := hide hos
  clear hos
  have HB_1 := hide hb1
  clear hb1
  have HGW := hide hgw
  clear hgw
  have HGL : Hid (g < u1.heap.size) := FS_1.out.lt'.2
  have ZU_1 : Hid (u1.heap.size ≤ u1.heap.size) := Nat.le_refl _
  go_wp2_with fail
  refine (build_own (some ⟨g, 0, none⟩) len0 (len0 + 64) ss n1 FA FH FD FE NF u1 HNF.out HFB.out (kat_below HKW.out HB_1.out) (texts_rds FS_1.out HLS.out hlen HSZ.out)).mono ?_
  rintro e u2 ⟨aa, ac, rfl, hoa, hb2⟩
  have OA_2 := hide hoa
  clear hoa
  have FS_2 := hide (FS_1.out.below hb2)
  have ZU_2 := hide (Nat.le_trans ZU_1.out (hb2).size)
  have HB_2 := hide (below_trans HB_1.out hb2)
  clear FS_1 ZU_1 HB_1 hb2
  obtain ⟨u3, pBA, eBA, sBA, BA_3, hbBA, _⟩ := laid_new (Below.refl u2.heap.size u2) FA FH (.slice aa NF ac)
  have FS_3 := hide (FS_2.out.below hbBA.out)
  have OA_3 := hide (OA_2.out.below hbBA.out)
  have ZU_3 := hide (Nat.le_trans ZU_2.out (hbBA.out).size)
  have HB_3 := hide (below_trans HB_2.out hbBA.out)
  clear FS_2 OA_2 ZU_2 HB_2
  clear hbBA
  have HU13x := ZU_3
  have LA : Hid (∀ i, (Value.slice aa NF ac).ownBlock = some i → u1.heap.size ≤ i ∧ i < u3.heap.size) := own_bl OA_3.out
  go_wp2_with fail
  refine (build_own (some ⟨g, 0, none⟩) len0 (len0 + 64) ss n1 FA FH FD FE NF u3 HNF.out HFB.out (kat_below HKW.out HB_3.out) (texts_rds FS_3.out HLS.out hlen HSZ.out)).mono ?_
  rintro e u4 ⟨ba, bc, rfl, hob, hb4⟩
  have OB_4 := hide hob
  clear hob
  have FS_4 := hide (FS_3.out.below hb4)
  have OA_4 := hide (OA_3.out.below hb4)
  have BA_4 := hide (BA_3.out.below hb4)
  have ZU_4 := hide (Nat.le_trans ZU_3.out (hb4).size)
  have HB_4 := hide (below_trans HB_3.out hb4)
  clear FS_3 OA_3 BA_3 ZU_3 HB_3 hb4
  obtain ⟨u5, pBB, eBB, sBB, BB_5, hbBB, _⟩ := laid_new (Below.refl u4.heap.size u4) FA FH (.slice ba NF bc)
  have FS_5 := hide (FS_4.out.below hbBB.out)
  have OA_5 := hide (OA_4.out.below hbBB.out)
  have BA_5 := hide (BA_4.out.below hbBB.out)
  have OB_5 := hide (OB_4.out.below hbBB.out)
  have ZU_5 := hide (Nat.le_trans ZU_4.out (hbBB.out).size)
  have HB_5 := hide (below_trans HB_4.out hbBB.out)
  clear FS_4 OA_4 BA_4 OB_4 ZU_4 HB_4
  clear hbBB
  have HU13 : Hid (u1.heap.size ≤ u3.heap.size) := HU13x.out
  have LB : Hid (∀ i, (Value.slice ba NF bc).ownBlock = some i → u3.heap.size ≤ i) := fun i e => (own_bl OB_5.out i e).1
  have x0 := BA_5.out.c0
  have x1 := BA_5.out.c1
  have x2 := BA_5.out.c2
  go_wp2_with fail
  refine (fill_any u1.heap.size NF ac aa FD u5 OA_5.out (by omega) ZU_5.out).mono ?_
  rintro e u6 ⟨rfl, hg6⟩
  have FS_6 := hide (keepS FS_5.out hg6 (fun i j e1 e2 => by have h1 := (LA.out j e2).1; have h2 := HGL.out; have h3 : g = i := Option.some.inj e1; omega))
  have OB_6 := hide (keep OB_5.out hg6 (fun i j e1 e2 => by have h1 := (LA.out j e2).2; have h2 := LB.out i e1; omega))
  have BB_6 := hide (BB_5.out.grown hg6 (fb_ne_own BB_5.out OA_5.out))
  have HB_6 := hide (HB_5.out.grown hg6 HB_5.out.size (fun i e => by have h1 := (LA.out i e).1; have h2 := HGW.out; have h3 := HGL.out; omega))
  have ZU_6 := hide (Nat.le_trans ZU_5.out hg6.size)
  clear hg6 FS_5 OA_5 BA_5 OB_5 BB_5 ZU_5 HB_5 x0 x1 x2
  go_wp2_with fail
  have HU16 : Hid (u1.heap.size ≤ u6.heap.size) := ZU_6
  refine (ref_own a0 len0 cap0 ss n1 FA FH FD FE NF u6 HNF.out HFB.out (RS.out.below HB_6.out)).mono ?_
  rintro e u7 ⟨va, vc, rfl, how, hb7⟩
  have OW_7 := hide how
  clear how
  have FS_7 := hide (FS_6.out.below hb7)
  have OB_7 := hide (OB_6.out.below hb7)
  have BB_7 := hide (BB_6.out.below hb7)
  have ZU_7 := hide (Nat.le_trans ZU_6.out (hb7).size)
  have HB_7 := hide (below_trans HB_6.out hb7)
  clear FS_6 OB_6 BB_6 ZU_6 HB_6 hb7
  obtain ⟨u8, pBW, eBW, sBW, BW_8, hbBW, _⟩ := laid_new (Below.refl u7.heap.size u7) FA FH (.slice va NF vc)
  have FS_8 := hide (FS_7.out.below hbBW.out)
  have OB_8 := hide (OB_7.out.below hbBW.out)
  have BB_8 := hide (BB_7.out.below hbBW.out)
  have OW_8 := hide (OW_7.out.below hbBW.out)
  have ZU_8 := hide (Nat.le_trans ZU_7.out (hbBW.out).size)
  have HB_8 := hide (below_trans HB_7.out hbBW.out)
  clear FS_7 OB_7 BB_7 OW_7 ZU_7 HB_7
  clear hbBW
  have LW : Hid (∀ i, (Value.slice va NF vc).ownBlock = some i → u6.heap.size ≤ i) := fun i e => (own_bl OW_8.out i e).1
  go_wp2_with fail
  have hl2i : (len2 : Int) ≤ 8796093021952 := by omega
  go_loopw [15] (fun i wr => ∃ q : Nat, q ≤ len2 ∧ i = .int .i64 (q : Int) ∧ Hid (Below u8.heap.size u8 wr)) (fun i _ => len2 - (intOf i).toNat)
  case atStart => exact ⟨0, Nat.zero_le _, rfl, Below.refl _ _⟩
  case round =>
    obtain ⟨q, hq, rfl, HBM⟩ := hrel
    by_cases hlt : q < len2
    · have hqi : (q : Int) < (len2 : Int) := by omega
      have HRq := hide (RT.out.below (below_trans HB_8.out HBM.out))
      obtain ⟨tb, toff, rfl, htb, hcell⟩ := HRq.out.2.2.2 (by omega)
      have tc := hcell q hlt
      have HTZ := hide (HRq.out.2.2.1 _ (getS_mem (i := q) (by rw [HLT.out]; exact hlt)))
      have HTL : Hid (tb < wr.heap.size) := htb
      generalize ts.getD q ⟨#[]⟩ = tq at tc HTZ
      clear hcell htb
      have HBr := hide (BB_8.out.below HBM.out)
      have HWr := hide (BW_8.out.below HBM.out)
      have nb0 := HBr.out.c0
      have nb1 := HBr.out.c1
      have nb2 := HBr.out.c2
      have nw0 := HWr.out.c0
      have nw1 := HWr.out.c1
      have nw2 := HWr.out.c2
      obtain ⟨hv, hhv⟩ : ∃ hv, hasF FA FH FD tq = hv := ⟨_, rfl⟩
      have HHC : Hid (∀ W, Below wr.heap.size wr W → Calls Tryd.prog 19 #[.agg #[.bool FA, .int .i64 FH, .slice ba NF bc], .string tq] W fun e w' => e = .returned (.bool hv) ∧ Below wr.heap.size wr w') := fun W hW =>
        (has_any FA FH ba NF bc FD tq W (kat_below HKW.out (below_trans (below_trans HB_8.out HBM.out) hW)) ((HRDF.out _ _ _ _ OB_8.out).below (below_trans HBM.out hW)) (by omega) HTZ.out).mono fun e w' ⟨h1, h2⟩ => ⟨by rw [h1, hhv], hW.trans (h2.mono hW.size)⟩
      have HHR : Hid (∀ W, Below wr.heap.size wr W → Calls Tryd.prog 23 #[.agg #[.bool FA, .int .i64 FH, .slice va NF vc], .string tq] W fun e w' => e = .returned (.bool hv) ∧ Below wr.heap.size wr w') := fun W hW =>
        (refHas_any FA FH va NF vc FD tq W ((HRDF.out _ _ _ _ OW_8.out).below (below_trans HBM.out hW)) (by omega) HTZ.out).mono fun e w' ⟨h1, h2⟩ => ⟨by rw [h1, hhv], hW.trans (h2.mono hW.size)⟩
      have HTC := hide tc
      have HSEV : Hid (∀ W, Below wr.heap.size wr W → W.cell? ⟨pBB, 0, none⟩ = some (.bool FA) ∧ W.cell? ⟨pBB, 1, none⟩ = some (.int .i64 FH) ∧ W.cell? ⟨pBB, 2, none⟩ = some (.slice ba NF bc) ∧ W.cell? ⟨pBW, 0, none⟩ = some (.bool FA) ∧ W.cell? ⟨pBW, 1, none⟩ = some (.int .i64 FH) ∧ W.cell? ⟨pBW, 2, none⟩ = some (.slice va NF vc) ∧ W.cell? ⟨tb, toff + q, none⟩ = some (.string tq)) := fun W hW =>
        ⟨(HBr.out.below hW).c0, (HBr.out.below hW).c1, (HBr.out.below hW).c2, (HWr.out.below hW).c0, (HWr.out.below hW).c1, (HWr.out.below hW).c2, (hW.cell (p := ⟨tb, toff + q, none⟩) HTL.out).trans HTC.out⟩
      have hvv : (hv != hv) = false := by simp
      clear hhv
      go_wp2_with fail
      go_region_held (fun V => V.cell? ⟨pBB, 0, none⟩ = some (.bool FA) ∧ V.cell? ⟨pBB, 1, none⟩ = some (.int .i64 FH) ∧ V.cell? ⟨pBB, 2, none⟩ = some (.slice ba NF bc) ∧ V.cell? ⟨pBW, 0, none⟩ = some (.bool FA) ∧ V.cell? ⟨pBW, 1, none⟩ = some (.int .i64 FH) ∧ V.cell? ⟨pBW, 2, none⟩ = some (.slice va NF vc) ∧ V.cell? ⟨tb, toff + q, none⟩ = some (.string tq)) (first | go_keep | exact E6.out | exact E7.out) (first
        | (go_at_call 19; refine (HHC.out _ ((Below.refl _ _).drew)).mono ?_; rintro e y6 ⟨rfl, hb6⟩; have HB6 := hide hb6; have E6 := hide (HSEV.out _ hb6); clear hb6)
        | (go_at_call 23; refine (HHR.out _ HB6.out).mono ?_; rintro e y7 ⟨rfl, hb7⟩; have HB7 := hide hb7; have E7 := hide (HSEV.out _ hb7); clear hb7))
      all_goals
        go_wp2_with fail
        go_roundw
        case rel => exact ⟨q + 1, by omega, by go_num, below_trans HBM.out HB7.out⟩
        case measure => (simp [intOf] <;> omega)
    · have hql : q = len2 := by omega
      subst hql
      have hqi : ¬ (q : Int) < (q : Int) := by omega
      have FS_9 := hide (FS_8.out.below HBM.out)
      have OB_9 := hide (OB_8.out.below HBM.out)
      have BB_9 := hide (BB_8.out.below HBM.out)
      have OW_9 := hide (OW_8.out.below HBM.out)
      have BW_9 := hide (BW_8.out.below HBM.out)
      have ZU_9 := hide (Nat.le_trans ZU_8.out (HBM.out).size)
      have HB_9 := hide (below_trans HB_8.out HBM.out)
      clear FS_8 OB_8 BB_8 OW_8 BW_8 ZU_8 HB_8
      have x0 := BB_9.out.c0
      have x1 := BB_9.out.c1
      have x2 := BB_9.out.c2
      have x3 := BW_9.out.c0
      have x4 := BW_9.out.c1
      have x5 := BW_9.out.c2
      have ee : (FE != FE) = false := by simp
      have kk : (((NF : Int) + 64) != ((NF : Int) + 64)) = false := by simp
      go_wp2_with fail
      refine (alike_eq FA FH ba va NF bc NF vc FD wr (HRDF.out _ _ _ _ OB_9.out) (HRDF.out _ _ _ _ OW_9.out)).mono ?_
      rintro e u9 ⟨rfl, hb9⟩
      have FS_10 := hide (FS_9.out.below hb9)
      have OB_10 := hide (OB_9.out.below hb9)
      have BB_10 := hide (BB_9.out.below hb9)
      have OW_10 := hide (OW_9.out.below hb9)
      have BW_10 := hide (BW_9.out.below hb9)
      have ZU_10 := hide (Nat.le_trans ZU_9.out (hb9).size)
      have HB_10 := hide (below_trans HB_9.out hb9)
      clear FS_9 OB_9 BB_9 OW_9 BW_9 ZU_9 HB_9 x0 x1 x2 x3 x4 x5 hb9
      have x0 := BW_10.out.c0
      have x1 := BW_10.out.c1
      have x2 := BW_10.out.c2
      go_wp2_with fail
      refine (texts_any a0 len0 cap0 ss u9 (RS.out.below HB_10.out) hlen).mono ?_
      rintro e u10 ⟨g2, rfl, hgw2, hos2, hb10⟩
      have F2_11 := hide hos2
      clear hos2
      have FS_11 := hide (FS_10.out.below hb10)
      have OB_11 := hide (OB_10.out.below hb10)
      have BB_11 := hide (BB_10.out.below hb10)
      have OW_11 := hide (OW_10.out.below hb10)
      have BW_11 := hide (BW_10.out.below hb10)
      have ZU_11 := hide (Nat.le_trans ZU_10.out (hb10).size)
      have HB_11 := hide (below_trans HB_10.out hb10)
      clear FS_10 OB_10 BB_10 OW_10 BW_10 ZU_10 HB_10 x0 x1 x2 hb10
      clear hgw2
      go_wp2_with fail
      refine (sameTexts_eq (some ⟨g, 0, none⟩) (some ⟨g2, 0, none⟩) (len0 + 64) (len0 + 64) (len0 + 64) (len0 + 64) (ss ++ marksS) u10 (texts_all FS_11.out HLS.out hlen HSZ.out) (texts_all F2_11.out HLS.out hlen HSZ.out) (by omega)).mono ?_
      rintro e u11 ⟨rfl, hb11⟩
      have FS_12 := hide (FS_11.out.below hb11)
      have OB_12 := hide (OB_11.out.below hb11)
      have BB_12 := hide (BB_11.out.below hb11)
      have OW_12 := hide (OW_11.out.below hb11)
      have BW_12 := hide (BW_11.out.below hb11)
      have F2_12 := hide (F2_11.out.below hb11)
      have ZU_12 := hide (Nat.le_trans ZU_11.out (hb11).size)
      have HB_12 := hide (below_trans HB_11.out hb11)
      clear FS_11 OB_11 BB_11 OW_11 BW_11 F2_11 ZU_11 HB_11 hb11
      clear F2_12
      go_wp2_with fail
      refine (lettered_any g len0 w.heap.size ss u11 HLS.out HSY.out FS_12.out hlen).mono ?_
      rintro e u12 ⟨rfl, hos12, hg12⟩
      have OB_13 := hide (keep OB_12.out hg12 (fun i j e1 e2 => by have h1 := LB.out i e1; have h2 := HU13.out; have h3 := HGL.out; have h4 : g = j := Option.some.inj e2; omega))
      have OW_13 := hide (keep OW_12.out hg12 (fun i j e1 e2 => by have h1 := LW.out i e1; have h2 := HU16.out; have h3 := HGL.out; have h4 : g = j := Option.some.inj e2; omega))
      have BB_13 := hide (BB_12.out.grown hg12 (fb_ne_owns BB_12.out FS_12.out))
      have BW_13 := hide (BW_12.out.grown hg12 (fb_ne_owns BW_12.out FS_12.out))
      have FZ_13 := hide hos12
      have HB_13 := hide (grown_below HB_12.out hg12 HGW.out)
      have ZU_13 := hide (Nat.le_trans ZU_12.out hg12.size)
      clear hg12 hos12 FS_12 OB_12 BB_12 OW_12 BW_12 ZU_12 HB_12
      go_wp2_with fail
      refine (build_own (some ⟨g, 0, none⟩) len0 (len0 + 64) (ss.map addz) n1 GA GH GD GE NG u12 HNG.out HGB.out (kat_below HKW.out HB_13.out) (texts_rds FZ_13.out HLA.out hlen HSA.out)).mono ?_
      rintro e u13 ⟨ca, cc, rfl, hoc, hb13⟩
      have OC_14 := hide hoc
      clear hoc
      have OB_14 := hide (OB_13.out.below hb13)
      have OW_14 := hide (OW_13.out.below hb13)
      have BB_14 := hide (BB_13.out.below hb13)
      have BW_14 := hide (BW_13.out.below hb13)
      have FZ_14 := hide (FZ_13.out.below hb13)
      have ZU_14 := hide (Nat.le_trans ZU_13.out (hb13).size)
      have HB_14 := hide (below_trans HB_13.out hb13)
      clear OB_13 OW_13 BB_13 BW_13 FZ_13 ZU_13 HB_13 hb13
      clear FZ_14
      obtain ⟨u14, pBC, eBC, sBC, BC_15, hbBC, _⟩ := laid_new (Below.refl u13.heap.size u13) GA GH (.slice ca NG cc)
      have OB_15 := hide (OB_14.out.below hbBC.out)
      have OW_15 := hide (OW_14.out.below hbBC.out)
      have BB_15 := hide (BB_14.out.below hbBC.out)
      have BW_15 := hide (BW_14.out.below hbBC.out)
      have OC_15 := hide (OC_14.out.below hbBC.out)
      have ZU_15 := hide (Nat.le_trans ZU_14.out (hbBC.out).size)
      have HB_15 := hide (below_trans HB_14.out hbBC.out)
      clear OB_14 OW_14 BB_14 BW_14 OC_14 ZU_14 HB_14
      clear hbBC
      go_wp2_with fail
      have HB14 : Hid (w.heap.size ≤ u14.heap.size) := HB_15.out.size
      have MOB : Hid (∀ i, (Value.slice ba NF bc).ownBlock = some i → i < u14.heap.size) := fun i e => (own_bl OB_15.out i e).2
      have MOW : Hid (∀ i, (Value.slice va NF vc).ownBlock = some i → i < u14.heap.size) := fun i e => (own_bl OW_15.out i e).2
      have MOC : Hid (∀ i, (Value.slice ca NG cc).ownBlock = some i → i < u14.heap.size) := fun i e => (own_bl OC_15.out i e).2
      refine (texts_any a0 len0 cap0 ss u14 (RS.out.below HB_15.out) hlen).mono ?_
      rintro e u15 ⟨g3, rfl, hgw3, hos3, hb15⟩
      have F3_16 := hide hos3
      clear hos3
      have OB_16 := hide (OB_15.out.below hb15)
      have OW_16 := hide (OW_15.out.below hb15)
      have BB_16 := hide (BB_15.out.below hb15)
      have BW_16 := hide (BW_15.out.below hb15)
      have OC_16 := hide (OC_15.out.below hb15)
      have BC_16 := hide (BC_15.out.below hb15)
      have ZU_16 := hide (Nat.le_trans ZU_15.out (hb15).size)
      have HB_16 := hide (below_trans HB_15.out hb15)
      clear OB_15 OW_15 BB_15 BW_15 OC_15 BC_15 ZU_15 HB_15 hb15
      have HG3 := hide hgw3
      clear hgw3
      go_wp2_with fail
      refine (lettered_any g3 len0 u14.heap.size ss u15 HLS.out HSY.out F3_16.out hlen).mono ?_
      rintro e u16 ⟨rfl, hos16, hg16⟩
      have OB_17 := hide (keep OB_16.out hg16 (fun i j e1 e2 => by have h1 := MOB.out i e1; have h2 := HG3.out; have h4 : g3 = j := Option.some.inj e2; omega))
      have OW_17 := hide (keep OW_16.out hg16 (fun i j e1 e2 => by have h1 := MOW.out i e1; have h2 := HG3.out; have h4 : g3 = j := Option.some.inj e2; omega))
      have OC_17 := hide (keep OC_16.out hg16 (fun i j e1 e2 => by have h1 := MOC.out i e1; have h2 := HG3.out; have h4 : g3 = j := Option.some.inj e2; omega))
      have BB_17 := hide (BB_16.out.grown hg16 (fb_ne_owns BB_16.out F3_16.out))
      have BW_17 := hide (BW_16.out.grown hg16 (fb_ne_owns BW_16.out F3_16.out))
      have BC_17 := hide (BC_16.out.grown hg16 (fb_ne_owns BC_16.out F3_16.out))
      have FY_17 := hide hos16
      have HB_17 := hide (grown_below HB_16.out hg16 (by have h1 := HG3.out; have h2 := HB14.out; omega))
      clear hg16 hos16 OB_16 OW_16 BB_16 BW_16 OC_16 BC_16 F3_16 ZU_16 HB_16
      go_wp2_with fail
      refine (ref_own (some ⟨g3, 0, none⟩) len0 (len0 + 64) (ss.map addz) n1 GA GH GD GE NG u16 HNG.out HGB.out (texts_rds FY_17.out HLA.out hlen HSA.out)).mono ?_
      rintro e u17 ⟨la, lc, rfl, hol, hb17⟩
      have OL_18 := hide hol
      clear hol
      have OB_18 := hide (OB_17.out.below hb17)
      have OW_18 := hide (OW_17.out.below hb17)
      have OC_18 := hide (OC_17.out.below hb17)
      have BB_18 := hide (BB_17.out.below hb17)
      have BW_18 := hide (BW_17.out.below hb17)
      have BC_18 := hide (BC_17.out.below hb17)
      have FY_18 := hide (FY_17.out.below hb17)
      have HB_18 := hide (below_trans HB_17.out hb17)
      clear OB_17 OW_17 OC_17 BB_17 BW_17 BC_17 FY_17 HB_17 hb17
      clear FY_18
      obtain ⟨u18, pBL, eBL, sBL, BL_19, hbBL, _⟩ := laid_new (Below.refl u17.heap.size u17) GA GH (.slice la NG lc)
      have OB_19 := hide (OB_18.out.below hbBL.out)
      have OW_19 := hide (OW_18.out.below hbBL.out)
      have OC_19 := hide (OC_18.out.below hbBL.out)
      have BB_19 := hide (BB_18.out.below hbBL.out)
      have BW_19 := hide (BW_18.out.below hbBL.out)
      have BC_19 := hide (BC_18.out.below hbBL.out)
      have OL_19 := hide (OL_18.out.below hbBL.out)
      have HB_19 := hide (below_trans HB_18.out hbBL.out)
      clear OB_18 OW_18 OC_18 BB_18 BW_18 BC_18 OL_18 HB_18
      clear hbBL
      have x0 := BB_19.out.c0
      have x1 := BB_19.out.c1
      have x2 := BB_19.out.c2
      have x3 := BW_19.out.c0
      have x4 := BW_19.out.c1
      have x5 := BW_19.out.c2
      go_wp2_with fail
      refine (alike_eq FA FH ba va NF bc NF vc FD u18 (HRDF.out _ _ _ _ OB_19.out) (HRDF.out _ _ _ _ OW_19.out)).mono ?_
      rintro e u19 ⟨rfl, hb19⟩
      have OB_20 := hide (OB_19.out.below hb19)
      have OW_20 := hide (OW_19.out.below hb19)
      have OC_20 := hide (OC_19.out.below hb19)
      have BB_20 := hide (BB_19.out.below hb19)
      have BW_20 := hide (BW_19.out.below hb19)
      have BC_20 := hide (BC_19.out.below hb19)
      have OL_20 := hide (OL_19.out.below hb19)
      have BL_20 := hide (BL_19.out.below hb19)
      have HB_20 := hide (below_trans HB_19.out hb19)
      clear OB_19 OW_19 OC_19 BB_19 BW_19 BC_19 OL_19 BL_19 HB_19 x0 x1 x2 x3 x4 x5 hb19
      have x0 := BC_20.out.c0
      have x1 := BC_20.out.c1
      have x2 := BC_20.out.c2
      have x3 := BL_20.out.c0
      have x4 := BL_20.out.c1
      have x5 := BL_20.out.c2
      go_wp2_with fail
      refine (alike_eq GA GH ca la NG cc NG lc GD u19 (HRDG.out _ _ _ _ OC_20.out) (HRDG.out _ _ _ _ OL_20.out)).mono ?_
      rintro e u20 ⟨rfl, hb20⟩
      have OB_21 := hide (OB_20.out.below hb20)
      have OW_21 := hide (OW_20.out.below hb20)
      have OC_21 := hide (OC_20.out.below hb20)
      have BB_21 := hide (BB_20.out.below hb20)
      have BW_21 := hide (BW_20.out.below hb20)
      have BC_21 := hide (BC_20.out.below hb20)
      have OL_21 := hide (OL_20.out.below hb20)
      have BL_21 := hide (BL_20.out.below hb20)
      have HB_21 := hide (below_trans HB_20.out hb20)
      clear OB_20 OW_20 OC_20 BB_20 BW_20 BC_20 OL_20 BL_20 HB_20 x0 x1 x2 x3 x4 x5 hb20
      have gg : (GE == GE) = true := by simp
      go_wp2_with fail
      go_ret
      exact ⟨rfl, HB_21.out⟩
end Go.Proofs.YtpdlpahpefojbaaDoor.filterBuilds
