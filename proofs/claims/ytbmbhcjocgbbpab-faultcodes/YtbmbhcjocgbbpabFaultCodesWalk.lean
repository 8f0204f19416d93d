/-
  Whether any entries may be, and their bytes; any bytes as entries; and again, when the same memory holds others.
-/
import Derived.Test.YtbmbhcjocgbbpabFaCodesC
import Derived.Test.YtbmbhcjocgbbpabFaOpen
namespace Go.Proofs.Ytbmbhcjocgbbpab.faultCodes
open Go.ChangeShapes Go.WideShapes Go.ChangeAt Go.RowKit
open Go.Proofs.Ytbmbhcjocgbbpab.Base Go.Proofs.Ytbmbhcjocgbbpab.Fa
set_option linter.unusedVariables false
theorem rdl_cut {w : World} {base g N M c : Nat} {fs ms : List Flt} (h : OwnL w base (.slice (some ⟨g, 0, none⟩) N c) (fs ++ ms)) (hn : fs.length = M) : RdL w (some ⟨g, 0, none⟩) M fs := by
  have hN := h.len.1
  have h1 := h.rdl.cut M (by rw [hN, List.length_append]; omega)
  rw [take_marks fs ms M hn] at h1
  exact h1
theorem rd_cut {w : World} {base g N M c : Nat} {fs ms : List (BitVec 8)} (h : Own w base (.slice (some ⟨g, 0, none⟩) N c) (fs ++ ms)) (hn : fs.length = M) (hm : (fs ++ ms).length ≤ 140737488355328) : Rd w (some ⟨g, 0, none⟩) M fs := by
  have hN := h.len
  have h1 := (Got.rd h hm).cut M (by rw [hN, List.length_append]; omega)
  rw [take_marksB fs ms M hn] at h1
  exact h1
theorem own_cut {w : World} {base g N M c : Nat} {fs ms : List (BitVec 8)} (h : Own w base (.slice (some ⟨g, 0, none⟩) N c) (fs ++ ms)) (hn : fs.length = M) : Own w base (.slice (some ⟨g, 0, none⟩) M c) fs := by
  have hN := h.len
  have h1 := h.cut M (by rw [hN, List.length_append]; omega)
  rw [take_marksB fs ms M hn] at h1
  exact h1
theorem own_rw {w : World} {base : Nat} {v : Value} {fs ms r : List Flt} {f : Flt} (e : fs = f :: r) (h : OwnL w base v (fs ++ ms)) : OwnL w base v (f :: (r ++ ms)) := by rw [e] at h; exact h
theorem own_rw2 {w : World} {base : Nat} {v : Value} {fs ms r : List Flt} {f : Flt} (e : fs = f :: r) (h : OwnL w base v (f :: (r ++ ms))) : OwnL w base v (fs ++ ms) := by rw [e]; exact h
theorem setA_c3 {w : World} {base g N c : Nat} {f : Flt} {r : List Flt} (h : OwnL w base (.slice (some ⟨g, 0, none⟩) N c) (f :: r)) : w.cell? ⟨g, 3, none⟩ = some (.int .i64 f.a) ∧ w.frozen? ⟨g, 3, none⟩ = false := h.c3
theorem setA_own {w : World} {base g N c : Nat} {f : Flt} {r : List Flt} (h : OwnL w base (.slice (some ⟨g, 0, none⟩) N c) (f :: r)) (x : Int) :
    OwnL (w.setCell ⟨g, 3, none⟩ (.int .i64 x)) base (.slice (some ⟨g, 0, none⟩) N c) (⟨f.k, f.j, f.t, x, f.m, f.r, f.p, f.q⟩ :: r) ∧ w.grownBy (w.setCell ⟨g, 3, none⟩ (.int .i64 x)) (some g) := h.setA x
set_option maxHeartbeats 16000000 in
set_option maxRecDepth 100000 in
theorem walk (a : Option Addr) (n cap : Nat) (fs : List Flt) (a1 : Option Addr) (n1 cap1 : Nat) (bs : List (BitVec 8)) (w : World) (hr : RdL w a n fs) (hlc : n ≤ cap) (hm : cap ≤ 2199023255488) (hnil : a = none → n = 0 ∧ cap = 0) (hwf : ∀ f ∈ fs, Wf f)
    (hr1 : Rd w a1 n1 bs) (hlc1 : n1 ≤ cap1) (hm1 : cap1 ≤ 140737488351232) (hnil1 : a1 = none → n1 = 0 ∧ cap1 = 0) :
    Calls Try.prog 3 #[.slice a n cap, .slice a1 n1 cap1] w fun e w' => e = .returned (.bool true) ∧ Below w.heap.size w w' := by
  have HL := hide hr.1
  have HL1 := hide hr1.1
  have HR := hide hr
  have HR1 := hide hr1
  have HWF := hide hwf
  have HW_0 : Hid (Below w.heap.size w w) := b0 _
  have hcc : n ≤ n + 64 := by omega
  have hcci : (n : Int) ≤ (n : Int) + 64 := by omega
  have hdd : n1 ≤ n1 + 64 := by omega
  have hddi : (n1 : Int) ≤ (n1 : Int) + 64 := by omega
  have hn0 : (0 : Int) ≤ (n : Int) := by omega
  have hn10 : (0 : Int) ≤ (n1 : Int) := by omega
  clear hr hr1 hnil hnil1 hwf
  go_enter Try.func3, Try.ntmps3
  obtain ⟨NE, hNE⟩ : ∃ N, (encR fs).length = N := ⟨_, rfl⟩
  have hNEb := encR_len fs
  rw [hNE] at hNEb
  have hNEi : (NE : Int) ≤ 16393 := by omega
  have hNEw : IntKind.i64.wrap ((NE : Int) + 64) = (NE : Int) + 64 := by rw [IntKind.wrap_i64]; omega
  have HNE := hide hNE
  clear hNE
  obtain ⟨NR, hNR⟩ : ∃ N, (encR fs.reverse).length = N := ⟨_, rfl⟩
  have hNRb := encR_len fs.reverse
  rw [hNR] at hNRb
  have hNRi : (NR : Int) ≤ 16393 := by omega
  have hNRw : IntKind.i64.wrap ((NR : Int) + 64) = (NR : Int) + 64 := by rw [IntKind.wrap_i64]; omega
  have HNR := hide hNR
  clear hNR
  obtain ⟨ND, hND⟩ : ∃ N, (decR bs).length = N := ⟨_, rfl⟩
  have hNDb := decR_len bs
  rw [hND] at hNDb
  have hNDi : (ND : Int) ≤ 256 := by omega
  have hNDw : IntKind.i64.wrap ((ND : Int) + 64) = (ND : Int) + 64 := by rw [IntKind.wrap_i64]; omega
  have HND := hide hND
  clear hND
  go_wp2_with fail
  refine (given_any a n cap fs _ (HR.out.below HW_0.out) (by omega)).mono ?_
  rintro e w1 ⟨gX, rfl, ho, hb⟩
  have HS_1 : Hid (w.heap.size ≤ w1.heap.size) := (hb).size
  have HW_1 := hide (below_trans HW_0.out hb)
  have X_1 := hide ho
  have HK_X : Hid (∀ i, (Value.slice (some ⟨gX, 0, none⟩) (n + 64) (n + 64)).ownBlock = some i → w.heap.size ≤ i ∧ i < w1.heap.size) := fun i e => World.ownsRow.lt ho i e
  clear HW_0 hb ho
  go_wp2_with fail
  refine (encode_any (some ⟨gX, 0, none⟩) n (n + 64) fs _ (rdl_cut X_1.out HL.out)).mono ?_
  rintro e w2 ⟨⟨vY, rfl, ho⟩, hb⟩
  obtain ⟨aY, cY, hv⟩ := ho.shape
  rw [HNE.out] at hv
  subst hv
  have X_2 := hide (X_1.out.below hb)
  have HS_2 : Hid (w1.heap.size ≤ w2.heap.size) := (hb).size
  have HW_2 := hide (below_trans HW_1.out hb)
  have Y_2 := hide ho
  have HK_Y : Hid (∀ i, (Value.slice aY NE cY).ownBlock = some i → w1.heap.size ≤ i ∧ i < w2.heap.size) := fun i e => World.ownsRow.lt ho i e
  clear X_1 HW_1 hb ho
  go_wp2_with fail
  refine (encode_any (some ⟨gX, 0, none⟩) n (n + 64) fs _ (rdl_cut X_2.out HL.out)).mono ?_
  rintro e w3 ⟨⟨vZ, rfl, ho⟩, hb⟩
  obtain ⟨aZ, cZ, hv⟩ := ho.shape
  rw [HNE.out] at hv
  subst hv
  have X_3 := hide (X_2.out.below hb)
  have Y_3 := hide (Y_2.out.below hb)
  have HS_3 : Hid (w2.heap.size ≤ w3.heap.size) := (hb).size
  have HW_3 := hide (below_trans HW_2.out hb)
  have Z_3 := hide ho
  have HK_Z : Hid (∀ i, (Value.slice aZ NE cZ).ownBlock = some i → w2.heap.size ≤ i ∧ i < w3.heap.size) := fun i e => World.ownsRow.lt ho i e
  clear X_2 Y_2 HW_2 hb ho
  go_wp2_with fail
  refine (fill_any w1.heap.size NE cY aY (encR fs) _ Y_3.out (by omega) (by have q1 := HS_1.out; have q2 := HS_2.out; have q3 := HS_3.out; omega)).mono ?_
  rintro e w4 ⟨rfl, hg⟩
  have X_4 := hide (X_3.out.kept hg (fun i e1 e2 => by have r1 := HK_X.out i e1; have r2 := HK_Y.out i e2; have q1 := HS_1.out; have q2 := HS_2.out; have q3 := HS_3.out; omega))
  have Z_4 := hide (keep Z_3.out hg (fun i j e1 e2 e3 => by have r1 := HK_Z.out i e1; have r2 := HK_Y.out j e2; have q1 := HS_1.out; have q2 := HS_2.out; have q3 := HS_3.out; omega))
  have HS_4 : Hid (w3.heap.size ≤ w4.heap.size) := (hg).size
  have HW_4 : Hid (Below w.heap.size w w4) := HW_3.out.grown hg HW_3.out.size (fun i e => by have r2 := HK_Y.out i e; have q1 := HS_1.out; have q2 := HS_2.out; have q3 := HS_3.out; omega)
  clear X_3 Y_3 Z_3 HW_3 hg
  go_wp2_with fail
  refine (refEncode_any a n cap fs _ (HR.out.below HW_4.out)).mono ?_
  rintro e w5 ⟨⟨vWA, rfl, ho⟩, hb⟩
  obtain ⟨aWA, cWA, hv⟩ := ho.shape
  rw [HNE.out] at hv
  subst hv
  have X_5 := hide (X_4.out.below hb)
  have Z_5 := hide (Z_4.out.below hb)
  have HS_5 : Hid (w4.heap.size ≤ w5.heap.size) := (hb).size
  have HW_5 := hide (below_trans HW_4.out hb)
  have WA_5 := hide ho
  have HK_WA : Hid (∀ i, (Value.slice aWA NE cWA).ownBlock = some i → w4.heap.size ≤ i ∧ i < w5.heap.size) := fun i e => World.ownsRow.lt ho i e
  clear X_4 Z_4 HW_4 hb ho
  go_wp2_with fail
  refine (roomy_any a1 n1 cap1 bs _ (HR1.out.below HW_5.out) (by omega)).mono ?_
  rintro e w6 ⟨gFU, rfl, _, ho, hb⟩
  have X_6 := hide (X_5.out.below hb)
  have Z_6 := hide (Z_5.out.below hb)
  have WA_6 := hide (WA_5.out.below hb)
  have HS_6 : Hid (w5.heap.size ≤ w6.heap.size) := (hb).size
  have HW_6 := hide (below_trans HW_5.out hb)
  have FU_6 := hide ho
  have HK_FU : Hid (∀ i, (Value.slice (some ⟨gFU, 0, none⟩) (n1 + 64) (n1 + 64)).ownBlock = some i → w5.heap.size ≤ i ∧ i < w6.heap.size) := fun i e => World.ownsRow.lt ho i e
  clear X_5 Z_5 WA_5 HW_5 hb ho
  have HMB : Hid ((bs ++ marks8).length ≤ 140737488355328) := by show _ ≤ _; rw [List.length_append, marks8_len, HL1.out]; omega
  go_wp2_with fail
  refine (decode_r (some ⟨gFU, 0, none⟩) n1 (n1 + 64) bs _ (rd_cut FU_6.out HL1.out HMB.out) (by omega) (by intro h; cases h)).mono ?_
  rintro e w7 ⟨⟨vPP, rfl, ho⟩, hb⟩
  obtain ⟨aPP, cPP, hv, _, _⟩ := ho.shape
  rw [HND.out] at hv
  subst hv
  have X_7 := hide (X_6.out.below hb)
  have Z_7 := hide (Z_6.out.below hb)
  have WA_7 := hide (WA_6.out.below hb)
  have FU_7 := hide (FU_6.out.below hb)
  have HS_7 : Hid (w6.heap.size ≤ w7.heap.size) := (hb).size
  have HW_7 := hide (below_trans HW_6.out hb)
  have PP_7 := hide ho
  have HK_PP : Hid (∀ i, (Value.slice aPP ND cPP).ownBlock = some i → w6.heap.size ≤ i ∧ i < w7.heap.size) := fun i e => World.ownsRow.lt ho i e
  clear X_6 Z_6 WA_6 FU_6 HW_6 hb ho
  go_wp2_with fail
  refine (decode_r (some ⟨gFU, 0, none⟩) n1 (n1 + 64) bs _ (rd_cut FU_7.out HL1.out HMB.out) (by omega) (by intro h; cases h)).mono ?_
  rintro e w8 ⟨⟨vQQ, rfl, ho⟩, hb⟩
  obtain ⟨aQQ, cQQ, hv, _, _⟩ := ho.shape
  rw [HND.out] at hv
  subst hv
  have X_8 := hide (X_7.out.below hb)
  have Z_8 := hide (Z_7.out.below hb)
  have WA_8 := hide (WA_7.out.below hb)
  have FU_8 := hide (FU_7.out.below hb)
  have PP_8 := hide (PP_7.out.below hb)
  have HS_8 : Hid (w7.heap.size ≤ w8.heap.size) := (hb).size
  have HW_8 := hide (below_trans HW_7.out hb)
  have QQ_8 := hide ho
  have HK_QQ : Hid (∀ i, (Value.slice aQQ ND cQQ).ownBlock = some i → w7.heap.size ≤ i ∧ i < w8.heap.size) := fun i e => World.ownsRow.lt ho i e
  clear X_7 Z_7 WA_7 FU_7 PP_7 HW_7 hb ho
  go_wp2_with fail
  refine (spoil_any w6.heap.size aPP ND cPP (decR bs) 78 _ PP_8.out (by have q1 := HS_1.out; have q2 := HS_2.out; have q3 := HS_3.out; have q4 := HS_4.out; have q5 := HS_5.out; have q6 := HS_6.out; have q7 := HS_7.out; have q8 := HS_8.out; omega) (by omega) (by omega) (by omega)).mono ?_
  rintro e w9 ⟨rfl, hg⟩
  have X_9 := hide (X_8.out.kept hg (fun i e1 e2 => by have r1 := HK_X.out i e1; have r2 := HK_PP.out i e2; have q1 := HS_1.out; have q2 := HS_2.out; have q3 := HS_3.out; have q4 := HS_4.out; have q5 := HS_5.out; have q6 := HS_6.out; have q7 := HS_7.out; have q8 := HS_8.out; omega))
  have Z_9 := hide (keep Z_8.out hg (fun i j e1 e2 e3 => by have r1 := HK_Z.out i e1; have r2 := HK_PP.out j e2; have q1 := HS_1.out; have q2 := HS_2.out; have q3 := HS_3.out; have q4 := HS_4.out; have q5 := HS_5.out; have q6 := HS_6.out; have q7 := HS_7.out; have q8 := HS_8.out; omega))
  have WA_9 := hide (keep WA_8.out hg (fun i j e1 e2 e3 => by have r1 := HK_WA.out i e1; have r2 := HK_PP.out j e2; have q1 := HS_1.out; have q2 := HS_2.out; have q3 := HS_3.out; have q4 := HS_4.out; have q5 := HS_5.out; have q6 := HS_6.out; have q7 := HS_7.out; have q8 := HS_8.out; omega))
  have FU_9 := hide (keep FU_8.out hg (fun i j e1 e2 e3 => by have r1 := HK_FU.out i e1; have r2 := HK_PP.out j e2; have q1 := HS_1.out; have q2 := HS_2.out; have q3 := HS_3.out; have q4 := HS_4.out; have q5 := HS_5.out; have q6 := HS_6.out; have q7 := HS_7.out; have q8 := HS_8.out; omega))
  have QQ_9 := hide (QQ_8.out.kept hg (fun i e1 e2 => by have r1 := HK_QQ.out i e1; have r2 := HK_PP.out i e2; have q1 := HS_1.out; have q2 := HS_2.out; have q3 := HS_3.out; have q4 := HS_4.out; have q5 := HS_5.out; have q6 := HS_6.out; have q7 := HS_7.out; have q8 := HS_8.out; omega))
  have HS_9 : Hid (w8.heap.size ≤ w9.heap.size) := (hg).size
  have HW_9 : Hid (Below w.heap.size w w9) := HW_8.out.grown hg HW_8.out.size (fun i e => by have r2 := HK_PP.out i e; have q1 := HS_1.out; have q2 := HS_2.out; have q3 := HS_3.out; have q4 := HS_4.out; have q5 := HS_5.out; have q6 := HS_6.out; have q7 := HS_7.out; have q8 := HS_8.out; omega)
  clear X_8 Z_8 WA_8 FU_8 PP_8 QQ_8 HW_8 hg
  go_wp2_with fail
  refine (refDecode_r a1 n1 cap1 bs _ (HR1.out.below HW_9.out) hlc1 (by omega)).mono ?_
  rintro e w10 ⟨⟨vOU, rfl, ho⟩, hb⟩
  obtain ⟨aOU, cOU, hv, _, _⟩ := ho.shape
  rw [HND.out] at hv
  subst hv
  have X_10 := hide (X_9.out.below hb)
  have Z_10 := hide (Z_9.out.below hb)
  have WA_10 := hide (WA_9.out.below hb)
  have FU_10 := hide (FU_9.out.below hb)
  have QQ_10 := hide (QQ_9.out.below hb)
  have HS_10 : Hid (w9.heap.size ≤ w10.heap.size) := (hb).size
  have HW_10 := hide (below_trans HW_9.out hb)
  have OU_10 := hide ho
  have HK_OU : Hid (∀ i, (Value.slice aOU ND cOU).ownBlock = some i → w9.heap.size ≤ i ∧ i < w10.heap.size) := fun i e => World.ownsRow.lt ho i e
  clear X_9 Z_9 WA_9 FU_9 QQ_9 HW_9 hb ho
  go_wp2_with fail
  refine (check_any (some ⟨gX, 0, none⟩) n (n + 64) fs _ (rdl_cut X_10.out HL.out)).mono ?_
  rintro e w11 ⟨rfl, hb⟩
  have X_11 := hide (X_10.out.below hb)
  have Z_11 := hide (Z_10.out.below hb)
  have WA_11 := hide (WA_10.out.below hb)
  have FU_11 := hide (FU_10.out.below hb)
  have QQ_11 := hide (QQ_10.out.below hb)
  have OU_11 := hide (OU_10.out.below hb)
  have HS_11 : Hid (w10.heap.size ≤ w11.heap.size) := (hb).size
  have HW_11 := hide (below_trans HW_10.out hb)
  clear X_10 Z_10 WA_10 FU_10 QQ_10 OU_10 HW_10 hb
  go_wp2_with fail
  refine (refCheck_any a n cap fs _ (HR.out.below HW_11.out)).mono ?_
  rintro e w12 ⟨rfl, hb⟩
  have X_12 := hide (X_11.out.below hb)
  have Z_12 := hide (Z_11.out.below hb)
  have WA_12 := hide (WA_11.out.below hb)
  have FU_12 := hide (FU_11.out.below hb)
  have QQ_12 := hide (QQ_11.out.below hb)
  have OU_12 := hide (OU_11.out.below hb)
  have HS_12 : Hid (w11.heap.size ≤ w12.heap.size) := (hb).size
  have HW_12 := hide (below_trans HW_11.out hb)
  clear X_11 Z_11 WA_11 FU_11 QQ_11 OU_11 HW_11 hb
  go_wp2_with fail
  refine (same_eq aZ aWA NE cZ NE cWA (encR fs) _ (Got.rd Z_12.out (by rw [HNE.out]; omega)) (Got.rd WA_12.out (by rw [HNE.out]; omega))).mono ?_
  rintro e w13 ⟨rfl, hb⟩
  have X_13 := hide (X_12.out.below hb)
  have Z_13 := hide (Z_12.out.below hb)
  have WA_13 := hide (WA_12.out.below hb)
  have FU_13 := hide (FU_12.out.below hb)
  have QQ_13 := hide (QQ_12.out.below hb)
  have OU_13 := hide (OU_12.out.below hb)
  have HS_13 : Hid (w12.heap.size ≤ w13.heap.size) := (hb).size
  have HW_13 := hide (below_trans HW_12.out hb)
  clear X_12 Z_12 WA_12 FU_12 QQ_12 OU_12 HW_12 hb
  go_wp2_with fail
  refine (given_any a n cap fs _ (HR.out.below HW_13.out) (by omega)).mono ?_
  rintro e w14 ⟨gG1, rfl, ho, hb⟩
  have X_14 := hide (X_13.out.below hb)
  have Z_14 := hide (Z_13.out.below hb)
  have WA_14 := hide (WA_13.out.below hb)
  have FU_14 := hide (FU_13.out.below hb)
  have QQ_14 := hide (QQ_13.out.below hb)
  have OU_14 := hide (OU_13.out.below hb)
  have HS_14 : Hid (w13.heap.size ≤ w14.heap.size) := (hb).size
  have HW_14 := hide (below_trans HW_13.out hb)
  have G1_14 := hide ho
  have HK_G1 : Hid (∀ i, (Value.slice (some ⟨gG1, 0, none⟩) (n + 64) (n + 64)).ownBlock = some i → w13.heap.size ≤ i ∧ i < w14.heap.size) := fun i e => World.ownsRow.lt ho i e
  clear X_13 Z_13 WA_13 FU_13 QQ_13 OU_13 HW_13 hb ho
  go_wp2_with fail
  refine (sameF_eq (some ⟨gX, 0, none⟩) (some ⟨gG1, 0, none⟩) (n + 64) (n + 64) (n + 64) (n + 64) (fs ++ List.replicate 64 markF) _ X_14.out.rdl G1_14.out.rdl (by omega)).mono ?_
  rintro e w15 ⟨rfl, zq, hzq⟩
  have hb : Below w14.heap.size w14 w15 := by rw [hzq]; exact below_drewN' _ _ _
  clear hzq
  have X_15 := hide (X_14.out.below hb)
  have Z_15 := hide (Z_14.out.below hb)
  have WA_15 := hide (WA_14.out.below hb)
  have FU_15 := hide (FU_14.out.below hb)
  have QQ_15 := hide (QQ_14.out.below hb)
  have OU_15 := hide (OU_14.out.below hb)
  have G1_15 := hide (G1_14.out.below hb)
  have HS_15 : Hid (w14.heap.size ≤ w15.heap.size) := (hb).size
  have HW_15 := hide (below_trans HW_14.out hb)
  clear X_14 Z_14 WA_14 FU_14 QQ_14 OU_14 G1_14 HW_14 hb
  clear G1_15
  clear Z_15
  clear WA_15
  go_wp2_with fail
  refine (sameF_eq aQQ aOU ND cQQ ND cOU (decR bs) _ QQ_15.out.rdl OU_15.out.rdl (by omega)).mono ?_
  rintro e w16 ⟨rfl, zq, hzq⟩
  have hb : Below w15.heap.size w15 w16 := by rw [hzq]; exact below_drewN' _ _ _
  clear hzq
  have X_16 := hide (X_15.out.below hb)
  have FU_16 := hide (FU_15.out.below hb)
  have QQ_16 := hide (QQ_15.out.below hb)
  have OU_16 := hide (OU_15.out.below hb)
  have HS_16 : Hid (w15.heap.size ≤ w16.heap.size) := (hb).size
  have HW_16 := hide (below_trans HW_15.out hb)
  clear X_15 FU_15 QQ_15 OU_15 HW_15 hb
  go_wp2_with fail
  refine (roomy_any a1 n1 cap1 bs _ (HR1.out.below HW_16.out) (by omega)).mono ?_
  rintro e w17 ⟨gR1, rfl, _, ho, hb⟩
  have X_17 := hide (X_16.out.below hb)
  have FU_17 := hide (FU_16.out.below hb)
  have QQ_17 := hide (QQ_16.out.below hb)
  have OU_17 := hide (OU_16.out.below hb)
  have HS_17 : Hid (w16.heap.size ≤ w17.heap.size) := (hb).size
  have HW_17 := hide (below_trans HW_16.out hb)
  have R1_17 := hide ho
  have HK_R1 : Hid (∀ i, (Value.slice (some ⟨gR1, 0, none⟩) (n1 + 64) (n1 + 64)).ownBlock = some i → w16.heap.size ≤ i ∧ i < w17.heap.size) := fun i e => World.ownsRow.lt ho i e
  clear X_16 FU_16 QQ_16 OU_16 HW_16 hb ho
  go_wp2_with fail
  refine (same_eq (some ⟨gFU, 0, none⟩) (some ⟨gR1, 0, none⟩) (n1 + 64) (n1 + 64) (n1 + 64) (n1 + 64) (bs ++ marks8) _ (Got.rd FU_17.out (HMB.out)) (Got.rd R1_17.out (HMB.out))).mono ?_
  rintro e w18 ⟨rfl, hb⟩
  have X_18 := hide (X_17.out.below hb)
  have FU_18 := hide (FU_17.out.below hb)
  have QQ_18 := hide (QQ_17.out.below hb)
  have OU_18 := hide (OU_17.out.below hb)
  have R1_18 := hide (R1_17.out.below hb)
  have HS_18 : Hid (w17.heap.size ≤ w18.heap.size) := (hb).size
  have HW_18 := hide (below_trans HW_17.out hb)
  clear X_17 FU_17 QQ_17 OU_17 R1_17 HW_17 hb
  clear R1_18
  have HLR : Hid (fs.reverse.length = n) := by show _ = _; rw [List.length_reverse]; exact HL.out
  go_wp2_with fail
  refine (back_own w.heap.size gX fs (List.replicate 64 markF) n (n + 64) _ X_18.out HL.out (by simp) (by omega)).mono ?_
  rintro e w19 ⟨rfl, ho, hg⟩
  have FU_19 := hide (keep FU_18.out hg (fun i j e1 e2 e3 => by have r1 := HK_FU.out i e1; have r2 := HK_X.out j e2; have q1 := HS_1.out; have q2 := HS_2.out; have q3 := HS_3.out; have q4 := HS_4.out; have q5 := HS_5.out; have q6 := HS_6.out; have q7 := HS_7.out; have q8 := HS_8.out; have q9 := HS_9.out; have q10 := HS_10.out; have q11 := HS_11.out; have q12 := HS_12.out; have q13 := HS_13.out; have q14 := HS_14.out; have q15 := HS_15.out; have q16 := HS_16.out; have q17 := HS_17.out; have q18 := HS_18.out; omega))
  have QQ_19 := hide (QQ_18.out.kept hg (fun i e1 e2 => by have r1 := HK_QQ.out i e1; have r2 := HK_X.out i e2; have q1 := HS_1.out; have q2 := HS_2.out; have q3 := HS_3.out; have q4 := HS_4.out; have q5 := HS_5.out; have q6 := HS_6.out; have q7 := HS_7.out; have q8 := HS_8.out; have q9 := HS_9.out; have q10 := HS_10.out; have q11 := HS_11.out; have q12 := HS_12.out; have q13 := HS_13.out; have q14 := HS_14.out; have q15 := HS_15.out; have q16 := HS_16.out; have q17 := HS_17.out; have q18 := HS_18.out; omega))
  have OU_19 := hide (OU_18.out.kept hg (fun i e1 e2 => by have r1 := HK_OU.out i e1; have r2 := HK_X.out i e2; have q1 := HS_1.out; have q2 := HS_2.out; have q3 := HS_3.out; have q4 := HS_4.out; have q5 := HS_5.out; have q6 := HS_6.out; have q7 := HS_7.out; have q8 := HS_8.out; have q9 := HS_9.out; have q10 := HS_10.out; have q11 := HS_11.out; have q12 := HS_12.out; have q13 := HS_13.out; have q14 := HS_14.out; have q15 := HS_15.out; have q16 := HS_16.out; have q17 := HS_17.out; have q18 := HS_18.out; omega))
  have HS_19 : Hid (w18.heap.size ≤ w19.heap.size) := (hg).size
  have HW_19 : Hid (Below w.heap.size w w19) := HW_18.out.grown hg HW_18.out.size (fun i e => by have r2 := HK_X.out i e; have q1 := HS_1.out; have q2 := HS_2.out; have q3 := HS_3.out; have q4 := HS_4.out; have q5 := HS_5.out; have q6 := HS_6.out; have q7 := HS_7.out; have q8 := HS_8.out; have q9 := HS_9.out; have q10 := HS_10.out; have q11 := HS_11.out; have q12 := HS_12.out; have q13 := HS_13.out; have q14 := HS_14.out; have q15 := HS_15.out; have q16 := HS_16.out; have q17 := HS_17.out; have q18 := HS_18.out; omega)
  have X_19 := hide ho
  clear X_18 FU_18 QQ_18 OU_18 HW_18 ho hg
  go_wp2_with fail
  refine (encode_any (some ⟨gX, 0, none⟩) n (n + 64) fs.reverse _ (rdl_cut X_19.out HLR.out)).mono ?_
  rintro e w20 ⟨⟨vSS, rfl, ho⟩, hb⟩
  obtain ⟨aSS, cSS, hv⟩ := ho.shape
  rw [HNR.out] at hv
  subst hv
  have X_20 := hide (X_19.out.below hb)
  have FU_20 := hide (FU_19.out.below hb)
  have QQ_20 := hide (QQ_19.out.below hb)
  have OU_20 := hide (OU_19.out.below hb)
  have HS_20 : Hid (w19.heap.size ≤ w20.heap.size) := (hb).size
  have HW_20 := hide (below_trans HW_19.out hb)
  have SS_20 := hide ho
  have HK_SS : Hid (∀ i, (Value.slice aSS NR cSS).ownBlock = some i → w19.heap.size ≤ i ∧ i < w20.heap.size) := fun i e => World.ownsRow.lt ho i e
  clear X_19 FU_19 QQ_19 OU_19 HW_19 hb ho
  go_wp2_with fail
  refine (given_any a n cap fs _ (HR.out.below HW_20.out) (by omega)).mono ?_
  rintro e w21 ⟨gG2, rfl, ho, hb⟩
  have X_21 := hide (X_20.out.below hb)
  have FU_21 := hide (FU_20.out.below hb)
  have QQ_21 := hide (QQ_20.out.below hb)
  have OU_21 := hide (OU_20.out.below hb)
  have SS_21 := hide (SS_20.out.below hb)
  have HS_21 : Hid (w20.heap.size ≤ w21.heap.size) := (hb).size
  have HW_21 := hide (below_trans HW_20.out hb)
  have G2_21 := hide ho
  have HK_G2 : Hid (∀ i, (Value.slice (some ⟨gG2, 0, none⟩) (n + 64) (n + 64)).ownBlock = some i → w20.heap.size ≤ i ∧ i < w21.heap.size) := fun i e => World.ownsRow.lt ho i e
  clear X_20 FU_20 QQ_20 OU_20 SS_20 HW_20 hb ho
  go_wp2_with fail
  refine (back_own w20.heap.size gG2 fs (List.replicate 64 markF) n (n + 64) _ G2_21.out HL.out (by simp) (by omega)).mono ?_
  rintro e w22 ⟨rfl, ho, hg⟩
  have X_22 := hide (X_21.out.kept hg (fun i e1 e2 => by have r1 := HK_X.out i e1; have r2 := HK_G2.out i e2; have q1 := HS_1.out; have q2 := HS_2.out; have q3 := HS_3.out; have q4 := HS_4.out; have q5 := HS_5.out; have q6 := HS_6.out; have q7 := HS_7.out; have q8 := HS_8.out; have q9 := HS_9.out; have q10 := HS_10.out; have q11 := HS_11.out; have q12 := HS_12.out; have q13 := HS_13.out; have q14 := HS_14.out; have q15 := HS_15.out; have q16 := HS_16.out; have q17 := HS_17.out; have q18 := HS_18.out; have q19 := HS_19.out; have q20 := HS_20.out; have q21 := HS_21.out; omega))
  have FU_22 := hide (keep FU_21.out hg (fun i j e1 e2 e3 => by have r1 := HK_FU.out i e1; have r2 := HK_G2.out j e2; have q1 := HS_1.out; have q2 := HS_2.out; have q3 := HS_3.out; have q4 := HS_4.out; have q5 := HS_5.out; have q6 := HS_6.out; have q7 := HS_7.out; have q8 := HS_8.out; have q9 := HS_9.out; have q10 := HS_10.out; have q11 := HS_11.out; have q12 := HS_12.out; have q13 := HS_13.out; have q14 := HS_14.out; have q15 := HS_15.out; have q16 := HS_16.out; have q17 := HS_17.out; have q18 := HS_18.out; have q19 := HS_19.out; have q20 := HS_20.out; have q21 := HS_21.out; omega))
  have QQ_22 := hide (QQ_21.out.kept hg (fun i e1 e2 => by have r1 := HK_QQ.out i e1; have r2 := HK_G2.out i e2; have q1 := HS_1.out; have q2 := HS_2.out; have q3 := HS_3.out; have q4 := HS_4.out; have q5 := HS_5.out; have q6 := HS_6.out; have q7 := HS_7.out; have q8 := HS_8.out; have q9 := HS_9.out; have q10 := HS_10.out; have q11 := HS_11.out; have q12 := HS_12.out; have q13 := HS_13.out; have q14 := HS_14.out; have q15 := HS_15.out; have q16 := HS_16.out; have q17 := HS_17.out; have q18 := HS_18.out; have q19 := HS_19.out; have q20 := HS_20.out; have q21 := HS_21.out; omega))
  have OU_22 := hide (OU_21.out.kept hg (fun i e1 e2 => by have r1 := HK_OU.out i e1; have r2 := HK_G2.out i e2; have q1 := HS_1.out; have q2 := HS_2.out; have q3 := HS_3.out; have q4 := HS_4.out; have q5 := HS_5.out; have q6 := HS_6.out; have q7 := HS_7.out; have q8 := HS_8.out; have q9 := HS_9.out; have q10 := HS_10.out; have q11 := HS_11.out; have q12 := HS_12.out; have q13 := HS_13.out; have q14 := HS_14.out; have q15 := HS_15.out; have q16 := HS_16.out; have q17 := HS_17.out; have q18 := HS_18.out; have q19 := HS_19.out; have q20 := HS_20.out; have q21 := HS_21.out; omega))
  have SS_22 := hide (keep SS_21.out hg (fun i j e1 e2 e3 => by have r1 := HK_SS.out i e1; have r2 := HK_G2.out j e2; have q1 := HS_1.out; have q2 := HS_2.out; have q3 := HS_3.out; have q4 := HS_4.out; have q5 := HS_5.out; have q6 := HS_6.out; have q7 := HS_7.out; have q8 := HS_8.out; have q9 := HS_9.out; have q10 := HS_10.out; have q11 := HS_11.out; have q12 := HS_12.out; have q13 := HS_13.out; have q14 := HS_14.out; have q15 := HS_15.out; have q16 := HS_16.out; have q17 := HS_17.out; have q18 := HS_18.out; have q19 := HS_19.out; have q20 := HS_20.out; have q21 := HS_21.out; omega))
  have HS_22 : Hid (w21.heap.size ≤ w22.heap.size) := (hg).size
  have HW_22 : Hid (Below w.heap.size w w22) := HW_21.out.grown hg HW_21.out.size (fun i e => by have r2 := HK_G2.out i e; have q1 := HS_1.out; have q2 := HS_2.out; have q3 := HS_3.out; have q4 := HS_4.out; have q5 := HS_5.out; have q6 := HS_6.out; have q7 := HS_7.out; have q8 := HS_8.out; have q9 := HS_9.out; have q10 := HS_10.out; have q11 := HS_11.out; have q12 := HS_12.out; have q13 := HS_13.out; have q14 := HS_14.out; have q15 := HS_15.out; have q16 := HS_16.out; have q17 := HS_17.out; have q18 := HS_18.out; have q19 := HS_19.out; have q20 := HS_20.out; have q21 := HS_21.out; omega)
  have G2_22 := hide ho
  clear X_21 FU_21 QQ_21 OU_21 SS_21 G2_21 HW_21 ho hg
  go_wp2_with fail
  refine (refEncode_any (some ⟨gG2, 0, none⟩) n (n + 64) fs.reverse _ (rdl_cut G2_22.out HLR.out)).mono ?_
  rintro e w23 ⟨⟨vUU, rfl, ho⟩, hb⟩
  obtain ⟨aUU, cUU, hv⟩ := ho.shape
  rw [HNR.out] at hv
  subst hv
  have X_23 := hide (X_22.out.below hb)
  have FU_23 := hide (FU_22.out.below hb)
  have QQ_23 := hide (QQ_22.out.below hb)
  have OU_23 := hide (OU_22.out.below hb)
  have SS_23 := hide (SS_22.out.below hb)
  have G2_23 := hide (G2_22.out.below hb)
  have HS_23 : Hid (w22.heap.size ≤ w23.heap.size) := (hb).size
  have HW_23 := hide (below_trans HW_22.out hb)
  have UU_23 := hide ho
  have HK_UU : Hid (∀ i, (Value.slice aUU NR cUU).ownBlock = some i → w22.heap.size ≤ i ∧ i < w23.heap.size) := fun i e => World.ownsRow.lt ho i e
  clear X_22 FU_22 QQ_22 OU_22 SS_22 G2_22 HW_22 hb ho
  clear G2_23
  obtain ⟨F, hF⟩ : ∃ F, n1 - 1 = F := ⟨_, rfl⟩
  have HFM : Hid (max ((n1 : Int) - 1) 0 = (F : Int)) := by show _ = _; omega
  have HFN : Hid (F ≤ n1) := by show _ ≤ _; omega
  have hw1 : IntKind.i64.wrap ((n1 : Int) - 1) = (n1 : Int) - 1 := by rw [IntKind.wrap_i64]; omega
  obtain ⟨TB, hTB⟩ : ∃ TB, turnL bs F n1 = TB := ⟨_, rfl⟩
  have HTL : Hid (TB.length = n1) := by show _ = _; rw [← hTB, turnL_len _ _ _ (by rw [HL1.out]; omega) (by rw [HL1.out]; exact Nat.le_refl _), HL1.out]
  obtain ⟨NT, hNT⟩ : ∃ N, (decR TB).length = N := ⟨_, rfl⟩
  have hNTb := decR_len TB
  rw [hNT] at hNTb
  have hNTi : (NT : Int) ≤ 256 := by omega
  have hNTw : IntKind.i64.wrap ((NT : Int) + 64) = (NT : Int) + 64 := by rw [IntKind.wrap_i64]; omega
  have HNT := hide hNT
  clear hNT
  have FUc := hide (own_cut FU_23.out HL1.out)
  have HK_FUc : Hid (∀ i, (Value.slice (some ⟨gFU, 0, none⟩) n1 (n1 + 64)).ownBlock = some i → w5.heap.size ≤ i ∧ i < w6.heap.size) := fun i e => HK_FU.out i e
  clear FU_23
  have FUt_23 := FUc
  have HK_FUt := HK_FUc
  clear FUc HK_FUc
  go_wp2_with fail
  refine (turned_any w5.heap.size gFU n1 (n1 + 64) ((n1 : Int) - 1) F bs _ FUt_23.out (by omega) HFM.out HFN.out).mono ?_
  rintro e w24 ⟨rfl, ho, hg⟩
  rw [hTB] at ho
  have X_24 := hide (X_23.out.kept hg (fun i e1 e2 => by have r1 := HK_X.out i e1; have r2 := HK_FUt.out i e2; have q1 := HS_1.out; have q2 := HS_2.out; have q3 := HS_3.out; have q4 := HS_4.out; have q5 := HS_5.out; have q6 := HS_6.out; have q7 := HS_7.out; have q8 := HS_8.out; have q9 := HS_9.out; have q10 := HS_10.out; have q11 := HS_11.out; have q12 := HS_12.out; have q13 := HS_13.out; have q14 := HS_14.out; have q15 := HS_15.out; have q16 := HS_16.out; have q17 := HS_17.out; have q18 := HS_18.out; have q19 := HS_19.out; have q20 := HS_20.out; have q21 := HS_21.out; have q22 := HS_22.out; have q23 := HS_23.out; omega))
  have QQ_24 := hide (QQ_23.out.kept hg (fun i e1 e2 => by have r1 := HK_QQ.out i e1; have r2 := HK_FUt.out i e2; have q1 := HS_1.out; have q2 := HS_2.out; have q3 := HS_3.out; have q4 := HS_4.out; have q5 := HS_5.out; have q6 := HS_6.out; have q7 := HS_7.out; have q8 := HS_8.out; have q9 := HS_9.out; have q10 := HS_10.out; have q11 := HS_11.out; have q12 := HS_12.out; have q13 := HS_13.out; have q14 := HS_14.out; have q15 := HS_15.out; have q16 := HS_16.out; have q17 := HS_17.out; have q18 := HS_18.out; have q19 := HS_19.out; have q20 := HS_20.out; have q21 := HS_21.out; have q22 := HS_22.out; have q23 := HS_23.out; omega))
  have OU_24 := hide (OU_23.out.kept hg (fun i e1 e2 => by have r1 := HK_OU.out i e1; have r2 := HK_FUt.out i e2; have q1 := HS_1.out; have q2 := HS_2.out; have q3 := HS_3.out; have q4 := HS_4.out; have q5 := HS_5.out; have q6 := HS_6.out; have q7 := HS_7.out; have q8 := HS_8.out; have q9 := HS_9.out; have q10 := HS_10.out; have q11 := HS_11.out; have q12 := HS_12.out; have q13 := HS_13.out; have q14 := HS_14.out; have q15 := HS_15.out; have q16 := HS_16.out; have q17 := HS_17.out; have q18 := HS_18.out; have q19 := HS_19.out; have q20 := HS_20.out; have q21 := HS_21.out; have q22 := HS_22.out; have q23 := HS_23.out; omega))
  have SS_24 := hide (keep SS_23.out hg (fun i j e1 e2 e3 => by have r1 := HK_SS.out i e1; have r2 := HK_FUt.out j e2; have q1 := HS_1.out; have q2 := HS_2.out; have q3 := HS_3.out; have q4 := HS_4.out; have q5 := HS_5.out; have q6 := HS_6.out; have q7 := HS_7.out; have q8 := HS_8.out; have q9 := HS_9.out; have q10 := HS_10.out; have q11 := HS_11.out; have q12 := HS_12.out; have q13 := HS_13.out; have q14 := HS_14.out; have q15 := HS_15.out; have q16 := HS_16.out; have q17 := HS_17.out; have q18 := HS_18.out; have q19 := HS_19.out; have q20 := HS_20.out; have q21 := HS_21.out; have q22 := HS_22.out; have q23 := HS_23.out; omega))
  have UU_24 := hide (keep UU_23.out hg (fun i j e1 e2 e3 => by have r1 := HK_UU.out i e1; have r2 := HK_FUt.out j e2; have q1 := HS_1.out; have q2 := HS_2.out; have q3 := HS_3.out; have q4 := HS_4.out; have q5 := HS_5.out; have q6 := HS_6.out; have q7 := HS_7.out; have q8 := HS_8.out; have q9 := HS_9.out; have q10 := HS_10.out; have q11 := HS_11.out; have q12 := HS_12.out; have q13 := HS_13.out; have q14 := HS_14.out; have q15 := HS_15.out; have q16 := HS_16.out; have q17 := HS_17.out; have q18 := HS_18.out; have q19 := HS_19.out; have q20 := HS_20.out; have q21 := HS_21.out; have q22 := HS_22.out; have q23 := HS_23.out; omega))
  have HS_24 : Hid (w23.heap.size ≤ w24.heap.size) := (hg).size
  have HW_24 : Hid (Below w.heap.size w w24) := HW_23.out.grown hg HW_23.out.size (fun i e => by have r2 := HK_FUt.out i e; have q1 := HS_1.out; have q2 := HS_2.out; have q3 := HS_3.out; have q4 := HS_4.out; have q5 := HS_5.out; have q6 := HS_6.out; have q7 := HS_7.out; have q8 := HS_8.out; have q9 := HS_9.out; have q10 := HS_10.out; have q11 := HS_11.out; have q12 := HS_12.out; have q13 := HS_13.out; have q14 := HS_14.out; have q15 := HS_15.out; have q16 := HS_16.out; have q17 := HS_17.out; have q18 := HS_18.out; have q19 := HS_19.out; have q20 := HS_20.out; have q21 := HS_21.out; have q22 := HS_22.out; have q23 := HS_23.out; omega)
  have FUt_24 := hide ho
  clear X_23 QQ_23 OU_23 SS_23 UU_23 FUt_23 HW_23 ho hg
  go_wp2_with fail
  refine (decode_r (some ⟨gFU, 0, none⟩) n1 (n1 + 64) TB _ (Got.rd FUt_24.out (by rw [HTL.out]; omega)) (by omega) (by intro h; cases h)).mono ?_
  rintro e w25 ⟨⟨vVV, rfl, ho⟩, hb⟩
  obtain ⟨aVV, cVV, hv, _, _⟩ := ho.shape
  rw [HNT.out] at hv
  subst hv
  have X_25 := hide (X_24.out.below hb)
  have QQ_25 := hide (QQ_24.out.below hb)
  have OU_25 := hide (OU_24.out.below hb)
  have SS_25 := hide (SS_24.out.below hb)
  have UU_25 := hide (UU_24.out.below hb)
  have FUt_25 := hide (FUt_24.out.below hb)
  have HS_25 : Hid (w24.heap.size ≤ w25.heap.size) := (hb).size
  have HW_25 := hide (below_trans HW_24.out hb)
  have VV_25 := hide ho
  have HK_VV : Hid (∀ i, (Value.slice aVV NT cVV).ownBlock = some i → w24.heap.size ≤ i ∧ i < w25.heap.size) := fun i e => World.ownsRow.lt ho i e
  clear X_24 QQ_24 OU_24 SS_24 UU_24 FUt_24 HW_24 hb ho
  go_wp2_with fail
  refine (roomy_any a1 n1 cap1 bs _ (HR1.out.below HW_25.out) (by omega)).mono ?_
  rintro e w26 ⟨gR2, rfl, _, ho, hb⟩
  have X_26 := hide (X_25.out.below hb)
  have QQ_26 := hide (QQ_25.out.below hb)
  have OU_26 := hide (OU_25.out.below hb)
  have SS_26 := hide (SS_25.out.below hb)
  have UU_26 := hide (UU_25.out.below hb)
  have FUt_26 := hide (FUt_25.out.below hb)
  have VV_26 := hide (VV_25.out.below hb)
  have HS_26 : Hid (w25.heap.size ≤ w26.heap.size) := (hb).size
  have HW_26 := hide (below_trans HW_25.out hb)
  have R2_26 := hide ho
  have HK_R2 : Hid (∀ i, (Value.slice (some ⟨gR2, 0, none⟩) (n1 + 64) (n1 + 64)).ownBlock = some i → w25.heap.size ≤ i ∧ i < w26.heap.size) := fun i e => World.ownsRow.lt ho i e
  clear X_25 QQ_25 OU_25 SS_25 UU_25 FUt_25 VV_25 HW_25 hb ho
  have R2c := hide (own_cut R2_26.out HL1.out)
  have HK_R2c : Hid (∀ i, (Value.slice (some ⟨gR2, 0, none⟩) n1 (n1 + 64)).ownBlock = some i → w25.heap.size ≤ i ∧ i < w26.heap.size) := fun i e => HK_R2.out i e
  clear R2_26
  have R2t_26 := R2c
  have HK_R2t := HK_R2c
  clear R2c HK_R2c
  go_wp2_with fail
  refine (turned_any w25.heap.size gR2 n1 (n1 + 64) ((n1 : Int) - 1) F bs _ R2t_26.out (by omega) HFM.out HFN.out).mono ?_
  rintro e w27 ⟨rfl, ho, hg⟩
  rw [hTB] at ho
  have X_27 := hide (X_26.out.kept hg (fun i e1 e2 => by have r1 := HK_X.out i e1; have r2 := HK_R2t.out i e2; have q1 := HS_1.out; have q2 := HS_2.out; have q3 := HS_3.out; have q4 := HS_4.out; have q5 := HS_5.out; have q6 := HS_6.out; have q7 := HS_7.out; have q8 := HS_8.out; have q9 := HS_9.out; have q10 := HS_10.out; have q11 := HS_11.out; have q12 := HS_12.out; have q13 := HS_13.out; have q14 := HS_14.out; have q15 := HS_15.out; have q16 := HS_16.out; have q17 := HS_17.out; have q18 := HS_18.out; have q19 := HS_19.out; have q20 := HS_20.out; have q21 := HS_21.out; have q22 := HS_22.out; have q23 := HS_23.out; have q24 := HS_24.out; have q25 := HS_25.out; have q26 := HS_26.out; omega))
  have QQ_27 := hide (QQ_26.out.kept hg (fun i e1 e2 => by have r1 := HK_QQ.out i e1; have r2 := HK_R2t.out i e2; have q1 := HS_1.out; have q2 := HS_2.out; have q3 := HS_3.out; have q4 := HS_4.out; have q5 := HS_5.out; have q6 := HS_6.out; have q7 := HS_7.out; have q8 := HS_8.out; have q9 := HS_9.out; have q10 := HS_10.out; have q11 := HS_11.out; have q12 := HS_12.out; have q13 := HS_13.out; have q14 := HS_14.out; have q15 := HS_15.out; have q16 := HS_16.out; have q17 := HS_17.out; have q18 := HS_18.out; have q19 := HS_19.out; have q20 := HS_20.out; have q21 := HS_21.out; have q22 := HS_22.out; have q23 := HS_23.out; have q24 := HS_24.out; have q25 := HS_25.out; have q26 := HS_26.out; omega))
  have OU_27 := hide (OU_26.out.kept hg (fun i e1 e2 => by have r1 := HK_OU.out i e1; have r2 := HK_R2t.out i e2; have q1 := HS_1.out; have q2 := HS_2.out; have q3 := HS_3.out; have q4 := HS_4.out; have q5 := HS_5.out; have q6 := HS_6.out; have q7 := HS_7.out; have q8 := HS_8.out; have q9 := HS_9.out; have q10 := HS_10.out; have q11 := HS_11.out; have q12 := HS_12.out; have q13 := HS_13.out; have q14 := HS_14.out; have q15 := HS_15.out; have q16 := HS_16.out; have q17 := HS_17.out; have q18 := HS_18.out; have q19 := HS_19.out; have q20 := HS_20.out; have q21 := HS_21.out; have q22 := HS_22.out; have q23 := HS_23.out; have q24 := HS_24.out; have q25 := HS_25.out; have q26 := HS_26.out; omega))
  have SS_27 := hide (keep SS_26.out hg (fun i j e1 e2 e3 => by have r1 := HK_SS.out i e1; have r2 := HK_R2t.out j e2; have q1 := HS_1.out; have q2 := HS_2.out; have q3 := HS_3.out; have q4 := HS_4.out; have q5 := HS_5.out; have q6 := HS_6.out; have q7 := HS_7.out; have q8 := HS_8.out; have q9 := HS_9.out; have q10 := HS_10.out; have q11 := HS_11.out; have q12 := HS_12.out; have q13 := HS_13.out; have q14 := HS_14.out; have q15 := HS_15.out; have q16 := HS_16.out; have q17 := HS_17.out; have q18 := HS_18.out; have q19 := HS_19.out; have q20 := HS_20.out; have q21 := HS_21.out; have q22 := HS_22.out; have q23 := HS_23.out; have q24 := HS_24.out; have q25 := HS_25.out; have q26 := HS_26.out; omega))
  have UU_27 := hide (keep UU_26.out hg (fun i j e1 e2 e3 => by have r1 := HK_UU.out i e1; have r2 := HK_R2t.out j e2; have q1 := HS_1.out; have q2 := HS_2.out; have q3 := HS_3.out; have q4 := HS_4.out; have q5 := HS_5.out; have q6 := HS_6.out; have q7 := HS_7.out; have q8 := HS_8.out; have q9 := HS_9.out; have q10 := HS_10.out; have q11 := HS_11.out; have q12 := HS_12.out; have q13 := HS_13.out; have q14 := HS_14.out; have q15 := HS_15.out; have q16 := HS_16.out; have q17 := HS_17.out; have q18 := HS_18.out; have q19 := HS_19.out; have q20 := HS_20.out; have q21 := HS_21.out; have q22 := HS_22.out; have q23 := HS_23.out; have q24 := HS_24.out; have q25 := HS_25.out; have q26 := HS_26.out; omega))
  have FUt_27 := hide (keep FUt_26.out hg (fun i j e1 e2 e3 => by have r1 := HK_FUt.out i e1; have r2 := HK_R2t.out j e2; have q1 := HS_1.out; have q2 := HS_2.out; have q3 := HS_3.out; have q4 := HS_4.out; have q5 := HS_5.out; have q6 := HS_6.out; have q7 := HS_7.out; have q8 := HS_8.out; have q9 := HS_9.out; have q10 := HS_10.out; have q11 := HS_11.out; have q12 := HS_12.out; have q13 := HS_13.out; have q14 := HS_14.out; have q15 := HS_15.out; have q16 := HS_16.out; have q17 := HS_17.out; have q18 := HS_18.out; have q19 := HS_19.out; have q20 := HS_20.out; have q21 := HS_21.out; have q22 := HS_22.out; have q23 := HS_23.out; have q24 := HS_24.out; have q25 := HS_25.out; have q26 := HS_26.out; omega))
  have VV_27 := hide (VV_26.out.kept hg (fun i e1 e2 => by have r1 := HK_VV.out i e1; have r2 := HK_R2t.out i e2; have q1 := HS_1.out; have q2 := HS_2.out; have q3 := HS_3.out; have q4 := HS_4.out; have q5 := HS_5.out; have q6 := HS_6.out; have q7 := HS_7.out; have q8 := HS_8.out; have q9 := HS_9.out; have q10 := HS_10.out; have q11 := HS_11.out; have q12 := HS_12.out; have q13 := HS_13.out; have q14 := HS_14.out; have q15 := HS_15.out; have q16 := HS_16.out; have q17 := HS_17.out; have q18 := HS_18.out; have q19 := HS_19.out; have q20 := HS_20.out; have q21 := HS_21.out; have q22 := HS_22.out; have q23 := HS_23.out; have q24 := HS_24.out; have q25 := HS_25.out; have q26 := HS_26.out; omega))
  have HS_27 : Hid (w26.heap.size ≤ w27.heap.size) := (hg).size
  have HW_27 : Hid (Below w.heap.size w w27) := HW_26.out.grown hg HW_26.out.size (fun i e => by have r2 := HK_R2t.out i e; have q1 := HS_1.out; have q2 := HS_2.out; have q3 := HS_3.out; have q4 := HS_4.out; have q5 := HS_5.out; have q6 := HS_6.out; have q7 := HS_7.out; have q8 := HS_8.out; have q9 := HS_9.out; have q10 := HS_10.out; have q11 := HS_11.out; have q12 := HS_12.out; have q13 := HS_13.out; have q14 := HS_14.out; have q15 := HS_15.out; have q16 := HS_16.out; have q17 := HS_17.out; have q18 := HS_18.out; have q19 := HS_19.out; have q20 := HS_20.out; have q21 := HS_21.out; have q22 := HS_22.out; have q23 := HS_23.out; have q24 := HS_24.out; have q25 := HS_25.out; have q26 := HS_26.out; omega)
  have R2t_27 := hide ho
  clear X_26 QQ_26 OU_26 SS_26 UU_26 FUt_26 VV_26 R2t_26 HW_26 ho hg
  go_wp2_with fail
  refine (refDecode_r (some ⟨gR2, 0, none⟩) n1 (n1 + 64) TB _ (Got.rd R2t_27.out (by rw [HTL.out]; omega)) (by omega) (by omega)).mono ?_
  rintro e w28 ⟨⟨vLA, rfl, ho⟩, hb⟩
  obtain ⟨aLA, cLA, hv, _, _⟩ := ho.shape
  rw [HNT.out] at hv
  subst hv
  have X_28 := hide (X_27.out.below hb)
  have QQ_28 := hide (QQ_27.out.below hb)
  have OU_28 := hide (OU_27.out.below hb)
  have SS_28 := hide (SS_27.out.below hb)
  have UU_28 := hide (UU_27.out.below hb)
  have FUt_28 := hide (FUt_27.out.below hb)
  have VV_28 := hide (VV_27.out.below hb)
  have R2t_28 := hide (R2t_27.out.below hb)
  have HS_28 : Hid (w27.heap.size ≤ w28.heap.size) := (hb).size
  have HW_28 := hide (below_trans HW_27.out hb)
  have LA_28 := hide ho
  have HK_LA : Hid (∀ i, (Value.slice aLA NT cLA).ownBlock = some i → w27.heap.size ≤ i ∧ i < w28.heap.size) := fun i e => World.ownsRow.lt ho i e
  clear X_27 QQ_27 OU_27 SS_27 UU_27 FUt_27 VV_27 R2t_27 HW_27 hb ho
  clear FUt_28
  clear R2t_28
  by_cases hn : 0 < n
  rotate_left
  · have hni : ¬ (0 : Int) < (n : Int) := by omega
    go_wp2_with fail
    refine (check_any (some ⟨gX, 0, none⟩) n (n + 64) fs.reverse _ (rdl_cut X_28.out HLR.out)).mono ?_
    rintro e w29 ⟨rfl, hb⟩
    have X_29 := hide (X_28.out.below hb)
    have QQ_29 := hide (QQ_28.out.below hb)
    have OU_29 := hide (OU_28.out.below hb)
    have SS_29 := hide (SS_28.out.below hb)
    have UU_29 := hide (UU_28.out.below hb)
    have VV_29 := hide (VV_28.out.below hb)
    have LA_29 := hide (LA_28.out.below hb)
    have HS_29 : Hid (w28.heap.size ≤ w29.heap.size) := (hb).size
    have HW_29 := hide (below_trans HW_28.out hb)
    clear X_28 QQ_28 OU_28 SS_28 UU_28 VV_28 LA_28 HW_28 hb
    go_wp2_with fail
    refine (given_any a n cap fs _ (HR.out.below HW_29.out) (by omega)).mono ?_
    rintro e w30 ⟨gG4, rfl, ho, hb⟩
    have X_30 := hide (X_29.out.below hb)
    have QQ_30 := hide (QQ_29.out.below hb)
    have OU_30 := hide (OU_29.out.below hb)
    have SS_30 := hide (SS_29.out.below hb)
    have UU_30 := hide (UU_29.out.below hb)
    have VV_30 := hide (VV_29.out.below hb)
    have LA_30 := hide (LA_29.out.below hb)
    have HS_30 : Hid (w29.heap.size ≤ w30.heap.size) := (hb).size
    have HW_30 := hide (below_trans HW_29.out hb)
    have G4_30 := hide ho
    have HK_G4 : Hid (∀ i, (Value.slice (some ⟨gG4, 0, none⟩) (n + 64) (n + 64)).ownBlock = some i → w29.heap.size ≤ i ∧ i < w30.heap.size) := fun i e => World.ownsRow.lt ho i e
    clear X_29 QQ_29 OU_29 SS_29 UU_29 VV_29 LA_29 HW_29 hb ho
    go_wp2_with fail
    refine (back_own w29.heap.size gG4 fs (List.replicate 64 markF) n (n + 64) _ G4_30.out HL.out (by simp) (by omega)).mono ?_
    rintro e w31 ⟨rfl, ho, hg⟩
    have X_31 := hide (X_30.out.kept hg (fun i e1 e2 => by have r1 := HK_X.out i e1; have r2 := HK_G4.out i e2; have q1 := HS_1.out; have q2 := HS_2.out; have q3 := HS_3.out; have q4 := HS_4.out; have q5 := HS_5.out; have q6 := HS_6.out; have q7 := HS_7.out; have q8 := HS_8.out; have q9 := HS_9.out; have q10 := HS_10.out; have q11 := HS_11.out; have q12 := HS_12.out; have q13 := HS_13.out; have q14 := HS_14.out; have q15 := HS_15.out; have q16 := HS_16.out; have q17 := HS_17.out; have q18 := HS_18.out; have q19 := HS_19.out; have q20 := HS_20.out; have q21 := HS_21.out; have q22 := HS_22.out; have q23 := HS_23.out; have q24 := HS_24.out; have q25 := HS_25.out; have q26 := HS_26.out; have q27 := HS_27.out; have q28 := HS_28.out; have q29 := HS_29.out; have q30 := HS_30.out; omega))
    have QQ_31 := hide (QQ_30.out.kept hg (fun i e1 e2 => by have r1 := HK_QQ.out i e1; have r2 := HK_G4.out i e2; have q1 := HS_1.out; have q2 := HS_2.out; have q3 := HS_3.out; have q4 := HS_4.out; have q5 := HS_5.out; have q6 := HS_6.out; have q7 := HS_7.out; have q8 := HS_8.out; have q9 := HS_9.out; have q10 := HS_10.out; have q11 := HS_11.out; have q12 := HS_12.out; have q13 := HS_13.out; have q14 := HS_14.out; have q15 := HS_15.out; have q16 := HS_16.out; have q17 := HS_17.out; have q18 := HS_18.out; have q19 := HS_19.out; have q20 := HS_20.out; have q21 := HS_21.out; have q22 := HS_22.out; have q23 := HS_23.out; have q24 := HS_24.out; have q25 := HS_25.out; have q26 := HS_26.out; have q27 := HS_27.out; have q28 := HS_28.out; have q29 := HS_29.out; have q30 := HS_30.out; omega))
    have OU_31 := hide (OU_30.out.kept hg (fun i e1 e2 => by have r1 := HK_OU.out i e1; have r2 := HK_G4.out i e2; have q1 := HS_1.out; have q2 := HS_2.out; have q3 := HS_3.out; have q4 := HS_4.out; have q5 := HS_5.out; have q6 := HS_6.out; have q7 := HS_7.out; have q8 := HS_8.out; have q9 := HS_9.out; have q10 := HS_10.out; have q11 := HS_11.out; have q12 := HS_12.out; have q13 := HS_13.out; have q14 := HS_14.out; have q15 := HS_15.out; have q16 := HS_16.out; have q17 := HS_17.out; have q18 := HS_18.out; have q19 := HS_19.out; have q20 := HS_20.out; have q21 := HS_21.out; have q22 := HS_22.out; have q23 := HS_23.out; have q24 := HS_24.out; have q25 := HS_25.out; have q26 := HS_26.out; have q27 := HS_27.out; have q28 := HS_28.out; have q29 := HS_29.out; have q30 := HS_30.out; omega))
    have SS_31 := hide (keep SS_30.out hg (fun i j e1 e2 e3 => by have r1 := HK_SS.out i e1; have r2 := HK_G4.out j e2; have q1 := HS_1.out; have q2 := HS_2.out; have q3 := HS_3.out; have q4 := HS_4.out; have q5 := HS_5.out; have q6 := HS_6.out; have q7 := HS_7.out; have q8 := HS_8.out; have q9 := HS_9.out; have q10 := HS_10.out; have q11 := HS_11.out; have q12 := HS_12.out; have q13 := HS_13.out; have q14 := HS_14.out; have q15 := HS_15.out; have q16 := HS_16.out; have q17 := HS_17.out; have q18 := HS_18.out; have q19 := HS_19.out; have q20 := HS_20.out; have q21 := HS_21.out; have q22 := HS_22.out; have q23 := HS_23.out; have q24 := HS_24.out; have q25 := HS_25.out; have q26 := HS_26.out; have q27 := HS_27.out; have q28 := HS_28.out; have q29 := HS_29.out; have q30 := HS_30.out; omega))
    have UU_31 := hide (keep UU_30.out hg (fun i j e1 e2 e3 => by have r1 := HK_UU.out i e1; have r2 := HK_G4.out j e2; have q1 := HS_1.out; have q2 := HS_2.out; have q3 := HS_3.out; have q4 := HS_4.out; have q5 := HS_5.out; have q6 := HS_6.out; have q7 := HS_7.out; have q8 := HS_8.out; have q9 := HS_9.out; have q10 := HS_10.out; have q11 := HS_11.out; have q12 := HS_12.out; have q13 := HS_13.out; have q14 := HS_14.out; have q15 := HS_15.out; have q16 := HS_16.out; have q17 := HS_17.out; have q18 := HS_18.out; have q19 := HS_19.out; have q20 := HS_20.out; have q21 := HS_21.out; have q22 := HS_22.out; have q23 := HS_23.out; have q24 := HS_24.out; have q25 := HS_25.out; have q26 := HS_26.out; have q27 := HS_27.out; have q28 := HS_28.out; have q29 := HS_29.out; have q30 := HS_30.out; omega))
    have VV_31 := hide (VV_30.out.kept hg (fun i e1 e2 => by have r1 := HK_VV.out i e1; have r2 := HK_G4.out i e2; have q1 := HS_1.out; have q2 := HS_2.out; have q3 := HS_3.out; have q4 := HS_4.out; have q5 := HS_5.out; have q6 := HS_6.out; have q7 := HS_7.out; have q8 := HS_8.out; have q9 := HS_9.out; have q10 := HS_10.out; have q11 := HS_11.out; have q12 := HS_12.out; have q13 := HS_13.out; have q14 := HS_14.out; have q15 := HS_15.out; have q16 := HS_16.out; have q17 := HS_17.out; have q18 := HS_18.out; have q19 := HS_19.out; have q20 := HS_20.out; have q21 := HS_21.out; have q22 := HS_22.out; have q23 := HS_23.out; have q24 := HS_24.out; have q25 := HS_25.out; have q26 := HS_26.out; have q27 := HS_27.out; have q28 := HS_28.out; have q29 := HS_29.out; have q30 := HS_30.out; omega))
    have LA_31 := hide (LA_30.out.kept hg (fun i e1 e2 => by have r1 := HK_LA.out i e1; have r2 := HK_G4.out i e2; have q1 := HS_1.out; have q2 := HS_2.out; have q3 := HS_3.out; have q4 := HS_4.out; have q5 := HS_5.out; have q6 := HS_6.out; have q7 := HS_7.out; have q8 := HS_8.out; have q9 := HS_9.out; have q10 := HS_10.out; have q11 := HS_11.out; have q12 := HS_12.out; have q13 := HS_13.out; have q14 := HS_14.out; have q15 := HS_15.out; have q16 := HS_16.out; have q17 := HS_17.out; have q18 := HS_18.out; have q19 := HS_19.out; have q20 := HS_20.out; have q21 := HS_21.out; have q22 := HS_22.out; have q23 := HS_23.out; have q24 := HS_24.out; have q25 := HS_25.out; have q26 := HS_26.out; have q27 := HS_27.out; have q28 := HS_28.out; have q29 := HS_29.out; have q30 := HS_30.out; omega))
    have HS_31 : Hid (w30.heap.size ≤ w31.heap.size) := (hg).size
    have HW_31 : Hid (Below w.heap.size w w31) := HW_30.out.grown hg HW_30.out.size (fun i e => by have r2 := HK_G4.out i e; have q1 := HS_1.out; have q2 := HS_2.out; have q3 := HS_3.out; have q4 := HS_4.out; have q5 := HS_5.out; have q6 := HS_6.out; have q7 := HS_7.out; have q8 := HS_8.out; have q9 := HS_9.out; have q10 := HS_10.out; have q11 := HS_11.out; have q12 := HS_12.out; have q13 := HS_13.out; have q14 := HS_14.out; have q15 := HS_15.out; have q16 := HS_16.out; have q17 := HS_17.out; have q18 := HS_18.out; have q19 := HS_19.out; have q20 := HS_20.out; have q21 := HS_21.out; have q22 := HS_22.out; have q23 := HS_23.out; have q24 := HS_24.out; have q25 := HS_25.out; have q26 := HS_26.out; have q27 := HS_27.out; have q28 := HS_28.out; have q29 := HS_29.out; have q30 := HS_30.out; omega)
    have G4_31 := hide ho
    clear X_30 QQ_30 OU_30 SS_30 UU_30 VV_30 LA_30 G4_30 HW_30 ho hg
    go_wp2_with fail
    refine (refCheck_any (some ⟨gG4, 0, none⟩) n (n + 64) fs.reverse _ (rdl_cut G4_31.out HLR.out)).mono ?_
    rintro e w32 ⟨rfl, hb⟩
    have X_32 := hide (X_31.out.below hb)
    have QQ_32 := hide (QQ_31.out.below hb)
    have OU_32 := hide (OU_31.out.below hb)
    have SS_32 := hide (SS_31.out.below hb)
    have UU_32 := hide (UU_31.out.below hb)
    have VV_32 := hide (VV_31.out.below hb)
    have LA_32 := hide (LA_31.out.below hb)
    have G4_32 := hide (G4_31.out.below hb)
    have HS_32 : Hid (w31.heap.size ≤ w32.heap.size) := (hb).size
    have HW_32 := hide (below_trans HW_31.out hb)
    clear X_31 QQ_31 OU_31 SS_31 UU_31 VV_31 LA_31 G4_31 HW_31 hb
    clear G4_32
    go_wp2_with fail
    refine (same_eq aSS aUU NR cSS NR cUU (encR fs.reverse) _ (Got.rd SS_32.out (by rw [HNR.out]; omega)) (Got.rd UU_32.out (by rw [HNR.out]; omega))).mono ?_
    rintro e w33 ⟨rfl, hb⟩
    have X_33 := hide (X_32.out.below hb)
    have QQ_33 := hide (QQ_32.out.below hb)
    have OU_33 := hide (OU_32.out.below hb)
    have SS_33 := hide (SS_32.out.below hb)
    have UU_33 := hide (UU_32.out.below hb)
    have VV_33 := hide (VV_32.out.below hb)
    have LA_33 := hide (LA_32.out.below hb)
    have HS_33 : Hid (w32.heap.size ≤ w33.heap.size) := (hb).size
    have HW_33 := hide (below_trans HW_32.out hb)
    clear X_32 QQ_32 OU_32 SS_32 UU_32 VV_32 LA_32 HW_32 hb
    go_wp2_with fail
    refine (sameF_eq aVV aLA NT cVV NT cLA (decR TB) _ VV_33.out.rdl LA_33.out.rdl (by omega)).mono ?_
    rintro e w34 ⟨rfl, zq, hzq⟩
    have hb : Below w33.heap.size w33 w34 := by rw [hzq]; exact below_drewN' _ _ _
    clear hzq
    have X_34 := hide (X_33.out.below hb)
    have QQ_34 := hide (QQ_33.out.below hb)
    have OU_34 := hide (OU_33.out.below hb)
    have SS_34 := hide (SS_33.out.below hb)
    have UU_34 := hide (UU_33.out.below hb)
    have VV_34 := hide (VV_33.out.below hb)
    have LA_34 := hide (LA_33.out.below hb)
    have HS_34 : Hid (w33.heap.size ≤ w34.heap.size) := (hb).size
    have HW_34 := hide (below_trans HW_33.out hb)
    clear X_33 QQ_33 OU_33 SS_33 UU_33 VV_33 LA_33 HW_33 hb
    go_wp2_with fail
    refine (sameF_eq aQQ aOU ND cQQ ND cOU (decR bs) _ QQ_34.out.rdl OU_34.out.rdl (by omega)).mono ?_
    rintro e w35 ⟨rfl, zq, hzq⟩
    have hb : Below w34.heap.size w34 w35 := by rw [hzq]; exact below_drewN' _ _ _
    clear hzq
    have X_35 := hide (X_34.out.below hb)
    have QQ_35 := hide (QQ_34.out.below hb)
    have OU_35 := hide (OU_34.out.below hb)
    have SS_35 := hide (SS_34.out.below hb)
    have UU_35 := hide (UU_34.out.below hb)
    have VV_35 := hide (VV_34.out.below hb)
    have LA_35 := hide (LA_34.out.below hb)
    have HS_35 : Hid (w34.heap.size ≤ w35.heap.size) := (hb).size
    have HW_35 := hide (below_trans HW_34.out hb)
    clear X_34 QQ_34 OU_34 SS_34 UU_34 VV_34 LA_34 HW_34 hb
    go_wp2_with fail
    go_ret
    exact ⟨rfl, HW_35.out⟩
  have hni : (0 : Int) < (n : Int) := by omega
  go_wp2_with fail
  refine (given_any a n cap fs _ (HR.out.below HW_28.out) (by omega)).mono ?_
  rintro e w29 ⟨gG3, rfl, ho, hb⟩
  have X_29 := hide (X_28.out.below hb)
  have QQ_29 := hide (QQ_28.out.below hb)
  have OU_29 := hide (OU_28.out.below hb)
  have SS_29 := hide (SS_28.out.below hb)
  have UU_29 := hide (UU_28.out.below hb)
  have VV_29 := hide (VV_28.out.below hb)
  have LA_29 := hide (LA_28.out.below hb)
  have HS_29 : Hid (w28.heap.size ≤ w29.heap.size) := (hb).size
  have HW_29 := hide (below_trans HW_28.out hb)
  have G3_29 := hide ho
  have HK_G3 : Hid (∀ i, (Value.slice (some ⟨gG3, 0, none⟩) (n + 64) (n + 64)).ownBlock = some i → w28.heap.size ≤ i ∧ i < w29.heap.size) := fun i e => World.ownsRow.lt ho i e
  clear X_28 QQ_28 OU_28 SS_28 UU_28 VV_28 LA_28 HW_28 hb ho
  go_wp2_with fail
  refine (back_own w28.heap.size gG3 fs (List.replicate 64 markF) n (n + 64) _ G3_29.out HL.out (by simp) (by omega)).mono ?_
  rintro e w30 ⟨rfl, ho, hg⟩
  have X_30 := hide (X_29.out.kept hg (fun i e1 e2 => by have r1 := HK_X.out i e1; have r2 := HK_G3.out i e2; have q1 := HS_1.out; have q2 := HS_2.out; have q3 := HS_3.out; have q4 := HS_4.out; have q5 := HS_5.out; have q6 := HS_6.out; have q7 := HS_7.out; have q8 := HS_8.out; have q9 := HS_9.out; have q10 := HS_10.out; have q11 := HS_11.out; have q12 := HS_12.out; have q13 := HS_13.out; have q14 := HS_14.out; have q15 := HS_15.out; have q16 := HS_16.out; have q17 := HS_17.out; have q18 := HS_18.out; have q19 := HS_19.out; have q20 := HS_20.out; have q21 := HS_21.out; have q22 := HS_22.out; have q23 := HS_23.out; have q24 := HS_24.out; have q25 := HS_25.out; have q26 := HS_26.out; have q27 := HS_27.out; have q28 := HS_28.out; have q29 := HS_29.out; omega))
  have QQ_30 := hide (QQ_29.out.kept hg (fun i e1 e2 => by have r1 := HK_QQ.out i e1; have r2 := HK_G3.out i e2; have q1 := HS_1.out; have q2 := HS_2.out; have q3 := HS_3.out; have q4 := HS_4.out; have q5 := HS_5.out; have q6 := HS_6.out; have q7 := HS_7.out; have q8 := HS_8.out; have q9 := HS_9.out; have q10 := HS_10.out; have q11 := HS_11.out; have q12 := HS_12.out; have q13 := HS_13.out; have q14 := HS_14.out; have q15 := HS_15.out; have q16 := HS_16.out; have q17 := HS_17.out; have q18 := HS_18.out; have q19 := HS_19.out; have q20 := HS_20.out; have q21 := HS_21.out; have q22 := HS_22.out; have q23 := HS_23.out; have q24 := HS_24.out; have q25 := HS_25.out; have q26 := HS_26.out; have q27 := HS_27.out; have q28 := HS_28.out; have q29 := HS_29.out; omega))
  have OU_30 := hide (OU_29.out.kept hg (fun i e1 e2 => by have r1 := HK_OU.out i e1; have r2 := HK_G3.out i e2; have q1 := HS_1.out; have q2 := HS_2.out; have q3 := HS_3.out; have q4 := HS_4.out; have q5 := HS_5.out; have q6 := HS_6.out; have q7 := HS_7.out; have q8 := HS_8.out; have q9 := HS_9.out; have q10 := HS_10.out; have q11 := HS_11.out; have q12 := HS_12.out; have q13 := HS_13.out; have q14 := HS_14.out; have q15 := HS_15.out; have q16 := HS_16.out; have q17 := HS_17.out; have q18 := HS_18.out; have q19 := HS_19.out; have q20 := HS_20.out; have q21 := HS_21.out; have q22 := HS_22.out; have q23 := HS_23.out; have q24 := HS_24.out; have q25 := HS_25.out; have q26 := HS_26.out; have q27 := HS_27.out; have q28 := HS_28.out; have q29 := HS_29.out; omega))
  have SS_30 := hide (keep SS_29.out hg (fun i j e1 e2 e3 => by have r1 := HK_SS.out i e1; have r2 := HK_G3.out j e2; have q1 := HS_1.out; have q2 := HS_2.out; have q3 := HS_3.out; have q4 := HS_4.out; have q5 := HS_5.out; have q6 := HS_6.out; have q7 := HS_7.out; have q8 := HS_8.out; have q9 := HS_9.out; have q10 := HS_10.out; have q11 := HS_11.out; have q12 := HS_12.out; have q13 := HS_13.out; have q14 := HS_14.out; have q15 := HS_15.out; have q16 := HS_16.out; have q17 := HS_17.out; have q18 := HS_18.out; have q19 := HS_19.out; have q20 := HS_20.out; have q21 := HS_21.out; have q22 := HS_22.out; have q23 := HS_23.out; have q24 := HS_24.out; have q25 := HS_25.out; have q26 := HS_26.out; have q27 := HS_27.out; have q28 := HS_28.out; have q29 := HS_29.out; omega))
  have UU_30 := hide (keep UU_29.out hg (fun i j e1 e2 e3 => by have r1 := HK_UU.out i e1; have r2 := HK_G3.out j e2; have q1 := HS_1.out; have q2 := HS_2.out; have q3 := HS_3.out; have q4 := HS_4.out; have q5 := HS_5.out; have q6 := HS_6.out; have q7 := HS_7.out; have q8 := HS_8.out; have q9 := HS_9.out; have q10 := HS_10.out; have q11 := HS_11.out; have q12 := HS_12.out; have q13 := HS_13.out; have q14 := HS_14.out; have q15 := HS_15.out; have q16 := HS_16.out; have q17 := HS_17.out; have q18 := HS_18.out; have q19 := HS_19.out; have q20 := HS_20.out; have q21 := HS_21.out; have q22 := HS_22.out; have q23 := HS_23.out; have q24 := HS_24.out; have q25 := HS_25.out; have q26 := HS_26.out; have q27 := HS_27.out; have q28 := HS_28.out; have q29 := HS_29.out; omega))
  have VV_30 := hide (VV_29.out.kept hg (fun i e1 e2 => by have r1 := HK_VV.out i e1; have r2 := HK_G3.out i e2; have q1 := HS_1.out; have q2 := HS_2.out; have q3 := HS_3.out; have q4 := HS_4.out; have q5 := HS_5.out; have q6 := HS_6.out; have q7 := HS_7.out; have q8 := HS_8.out; have q9 := HS_9.out; have q10 := HS_10.out; have q11 := HS_11.out; have q12 := HS_12.out; have q13 := HS_13.out; have q14 := HS_14.out; have q15 := HS_15.out; have q16 := HS_16.out; have q17 := HS_17.out; have q18 := HS_18.out; have q19 := HS_19.out; have q20 := HS_20.out; have q21 := HS_21.out; have q22 := HS_22.out; have q23 := HS_23.out; have q24 := HS_24.out; have q25 := HS_25.out; have q26 := HS_26.out; have q27 := HS_27.out; have q28 := HS_28.out; have q29 := HS_29.out; omega))
  have LA_30 := hide (LA_29.out.kept hg (fun i e1 e2 => by have r1 := HK_LA.out i e1; have r2 := HK_G3.out i e2; have q1 := HS_1.out; have q2 := HS_2.out; have q3 := HS_3.out; have q4 := HS_4.out; have q5 := HS_5.out; have q6 := HS_6.out; have q7 := HS_7.out; have q8 := HS_8.out; have q9 := HS_9.out; have q10 := HS_10.out; have q11 := HS_11.out; have q12 := HS_12.out; have q13 := HS_13.out; have q14 := HS_14.out; have q15 := HS_15.out; have q16 := HS_16.out; have q17 := HS_17.out; have q18 := HS_18.out; have q19 := HS_19.out; have q20 := HS_20.out; have q21 := HS_21.out; have q22 := HS_22.out; have q23 := HS_23.out; have q24 := HS_24.out; have q25 := HS_25.out; have q26 := HS_26.out; have q27 := HS_27.out; have q28 := HS_28.out; have q29 := HS_29.out; omega))
  have HS_30 : Hid (w29.heap.size ≤ w30.heap.size) := (hg).size
  have HW_30 : Hid (Below w.heap.size w w30) := HW_29.out.grown hg HW_29.out.size (fun i e => by have r2 := HK_G3.out i e; have q1 := HS_1.out; have q2 := HS_2.out; have q3 := HS_3.out; have q4 := HS_4.out; have q5 := HS_5.out; have q6 := HS_6.out; have q7 := HS_7.out; have q8 := HS_8.out; have q9 := HS_9.out; have q10 := HS_10.out; have q11 := HS_11.out; have q12 := HS_12.out; have q13 := HS_13.out; have q14 := HS_14.out; have q15 := HS_15.out; have q16 := HS_16.out; have q17 := HS_17.out; have q18 := HS_18.out; have q19 := HS_19.out; have q20 := HS_20.out; have q21 := HS_21.out; have q22 := HS_22.out; have q23 := HS_23.out; have q24 := HS_24.out; have q25 := HS_25.out; have q26 := HS_26.out; have q27 := HS_27.out; have q28 := HS_28.out; have q29 := HS_29.out; omega)
  have G3_30 := hide ho
  clear X_29 QQ_29 OU_29 SS_29 UU_29 VV_29 LA_29 G3_29 HW_29 ho hg
  obtain ⟨f, r, hfr⟩ : ∃ f r, fs.reverse = f :: r := by
    cases hq : fs.reverse with
    | nil => have := HLR.out; rw [hq] at this; simp at this; omega
    | cons f r => exact ⟨f, r, rfl⟩
  have HFR := hide hfr
  have HWA : Hid (-9223372036854775808 ≤ f.a ∧ f.a ≤ 9223372036854775807) := wf_bounds (HWF.out f (by rw [← List.mem_reverse, hfr]; exact List.mem_cons_self)).a
  obtain ⟨A2, hA2⟩ : ∃ A2, IntKind.i64.wrap (f.a + 99) = A2 := ⟨_, rfl⟩
  have hA3 : IntKind.i64.wrap (A2 - 99) = f.a := by have := HWA.out; rw [← hA2, IntKind.wrap_i64, IntKind.wrap_i64]; omega
  clear hfr
  have HQ_31 := hide (own_rw HFR.out G3_30.out)
  have hc3_31 := (setA_c3 HQ_31.out).1
  have hf3_31 := (setA_c3 HQ_31.out).2
  obtain ⟨w31, hw31⟩ : ∃ wn, w30.setCell ⟨gG3, 3, none⟩ (.int .i64 A2) = wn := ⟨_, rfl⟩
  have hs := setA_own HQ_31.out A2
  rw [hw31] at hs
  obtain ⟨ho, hg⟩ := hs
  have X_31 := hide (X_30.out.kept hg (fun i e1 e2 => by have r1 := HK_X.out i e1; have r2 := HK_G3.out i e2; have q1 := HS_1.out; have q2 := HS_2.out; have q3 := HS_3.out; have q4 := HS_4.out; have q5 := HS_5.out; have q6 := HS_6.out; have q7 := HS_7.out; have q8 := HS_8.out; have q9 := HS_9.out; have q10 := HS_10.out; have q11 := HS_11.out; have q12 := HS_12.out; have q13 := HS_13.out; have q14 := HS_14.out; have q15 := HS_15.out; have q16 := HS_16.out; have q17 := HS_17.out; have q18 := HS_18.out; have q19 := HS_19.out; have q20 := HS_20.out; have q21 := HS_21.out; have q22 := HS_22.out; have q23 := HS_23.out; have q24 := HS_24.out; have q25 := HS_25.out; have q26 := HS_26.out; have q27 := HS_27.out; have q28 := HS_28.out; have q29 := HS_29.out; have q30 := HS_30.out; omega))
  have QQ_31 := hide (QQ_30.out.kept hg (fun i e1 e2 => by have r1 := HK_QQ.out i e1; have r2 := HK_G3.out i e2; have q1 := HS_1.out; have q2 := HS_2.out; have q3 := HS_3.out; have q4 := HS_4.out; have q5 := HS_5.out; have q6 := HS_6.out; have q7 := HS_7.out; have q8 := HS_8.out; have q9 := HS_9.out; have q10 := HS_10.out; have q11 := HS_11.out; have q12 := HS_12.out; have q13 := HS_13.out; have q14 := HS_14.out; have q15 := HS_15.out; have q16 := HS_16.out; have q17 := HS_17.out; have q18 := HS_18.out; have q19 := HS_19.out; have q20 := HS_20.out; have q21 := HS_21.out; have q22 := HS_22.out; have q23 := HS_23.out; have q24 := HS_24.out; have q25 := HS_25.out; have q26 := HS_26.out; have q27 := HS_27.out; have q28 := HS_28.out; have q29 := HS_29.out; have q30 := HS_30.out; omega))
  have OU_31 := hide (OU_30.out.kept hg (fun i e1 e2 => by have r1 := HK_OU.out i e1; have r2 := HK_G3.out i e2; have q1 := HS_1.out; have q2 := HS_2.out; have q3 := HS_3.out; have q4 := HS_4.out; have q5 := HS_5.out; have q6 := HS_6.out; have q7 := HS_7.out; have q8 := HS_8.out; have q9 := HS_9.out; have q10 := HS_10.out; have q11 := HS_11.out; have q12 := HS_12.out; have q13 := HS_13.out; have q14 := HS_14.out; have q15 := HS_15.out; have q16 := HS_16.out; have q17 := HS_17.out; have q18 := HS_18.out; have q19 := HS_19.out; have q20 := HS_20.out; have q21 := HS_21.out; have q22 := HS_22.out; have q23 := HS_23.out; have q24 := HS_24.out; have q25 := HS_25.out; have q26 := HS_26.out; have q27 := HS_27.out; have q28 := HS_28.out; have q29 := HS_29.out; have q30 := HS_30.out; omega))
  have SS_31 := hide (keep SS_30.out hg (fun i j e1 e2 e3 => by have r1 := HK_SS.out i e1; have r2 := HK_G3.out j e2; have q1 := HS_1.out; have q2 := HS_2.out; have q3 := HS_3.out; have q4 := HS_4.out; have q5 := HS_5.out; have q6 := HS_6.out; have q7 := HS_7.out; have q8 := HS_8.out; have q9 := HS_9.out; have q10 := HS_10.out; have q11 := HS_11.out; have q12 := HS_12.out; have q13 := HS_13.out; have q14 := HS_14.out; have q15 := HS_15.out; have q16 := HS_16.out; have q17 := HS_17.out; have q18 := HS_18.out; have q19 := HS_19.out; have q20 := HS_20.out; have q21 := HS_21.out; have q22 := HS_22.out; have q23 := HS_23.out; have q24 := HS_24.out; have q25 := HS_25.out; have q26 := HS_26.out; have q27 := HS_27.out; have q28 := HS_28.out; have q29 := HS_29.out; have q30 := HS_30.out; omega))
  have UU_31 := hide (keep UU_30.out hg (fun i j e1 e2 e3 => by have r1 := HK_UU.out i e1; have r2 := HK_G3.out j e2; have q1 := HS_1.out; have q2 := HS_2.out; have q3 := HS_3.out; have q4 := HS_4.out; have q5 := HS_5.out; have q6 := HS_6.out; have q7 := HS_7.out; have q8 := HS_8.out; have q9 := HS_9.out; have q10 := HS_10.out; have q11 := HS_11.out; have q12 := HS_12.out; have q13 := HS_13.out; have q14 := HS_14.out; have q15 := HS_15.out; have q16 := HS_16.out; have q17 := HS_17.out; have q18 := HS_18.out; have q19 := HS_19.out; have q20 := HS_20.out; have q21 := HS_21.out; have q22 := HS_22.out; have q23 := HS_23.out; have q24 := HS_24.out; have q25 := HS_25.out; have q26 := HS_26.out; have q27 := HS_27.out; have q28 := HS_28.out; have q29 := HS_29.out; have q30 := HS_30.out; omega))
  have VV_31 := hide (VV_30.out.kept hg (fun i e1 e2 => by have r1 := HK_VV.out i e1; have r2 := HK_G3.out i e2; have q1 := HS_1.out; have q2 := HS_2.out; have q3 := HS_3.out; have q4 := HS_4.out; have q5 := HS_5.out; have q6 := HS_6.out; have q7 := HS_7.out; have q8 := HS_8.out; have q9 := HS_9.out; have q10 := HS_10.out; have q11 := HS_11.out; have q12 := HS_12.out; have q13 := HS_13.out; have q14 := HS_14.out; have q15 := HS_15.out; have q16 := HS_16.out; have q17 := HS_17.out; have q18 := HS_18.out; have q19 := HS_19.out; have q20 := HS_20.out; have q21 := HS_21.out; have q22 := HS_22.out; have q23 := HS_23.out; have q24 := HS_24.out; have q25 := HS_25.out; have q26 := HS_26.out; have q27 := HS_27.out; have q28 := HS_28.out; have q29 := HS_29.out; have q30 := HS_30.out; omega))
  have LA_31 := hide (LA_30.out.kept hg (fun i e1 e2 => by have r1 := HK_LA.out i e1; have r2 := HK_G3.out i e2; have q1 := HS_1.out; have q2 := HS_2.out; have q3 := HS_3.out; have q4 := HS_4.out; have q5 := HS_5.out; have q6 := HS_6.out; have q7 := HS_7.out; have q8 := HS_8.out; have q9 := HS_9.out; have q10 := HS_10.out; have q11 := HS_11.out; have q12 := HS_12.out; have q13 := HS_13.out; have q14 := HS_14.out; have q15 := HS_15.out; have q16 := HS_16.out; have q17 := HS_17.out; have q18 := HS_18.out; have q19 := HS_19.out; have q20 := HS_20.out; have q21 := HS_21.out; have q22 := HS_22.out; have q23 := HS_23.out; have q24 := HS_24.out; have q25 := HS_25.out; have q26 := HS_26.out; have q27 := HS_27.out; have q28 := HS_28.out; have q29 := HS_29.out; have q30 := HS_30.out; omega))
  have HS_31 : Hid (w30.heap.size ≤ w31.heap.size) := (hg).size
  have HW_31 : Hid (Below w.heap.size w w31) := HW_30.out.grown hg HW_30.out.size (fun i e => by have r2 := HK_G3.out i e; have q1 := HS_1.out; have q2 := HS_2.out; have q3 := HS_3.out; have q4 := HS_4.out; have q5 := HS_5.out; have q6 := HS_6.out; have q7 := HS_7.out; have q8 := HS_8.out; have q9 := HS_9.out; have q10 := HS_10.out; have q11 := HS_11.out; have q12 := HS_12.out; have q13 := HS_13.out; have q14 := HS_14.out; have q15 := HS_15.out; have q16 := HS_16.out; have q17 := HS_17.out; have q18 := HS_18.out; have q19 := HS_19.out; have q20 := HS_20.out; have q21 := HS_21.out; have q22 := HS_22.out; have q23 := HS_23.out; have q24 := HS_24.out; have q25 := HS_25.out; have q26 := HS_26.out; have q27 := HS_27.out; have q28 := HS_28.out; have q29 := HS_29.out; have q30 := HS_30.out; omega)
  have G3_31 := hide ho
  clear X_30 QQ_30 OU_30 SS_30 UU_30 VV_30 LA_30 G3_30 HW_30 ho hg HQ_31
  have HQ_32 := hide (own_rw HFR.out X_31.out)
  have hc3_32 := (setA_c3 HQ_32.out).1
  have hf3_32 := (setA_c3 HQ_32.out).2
  obtain ⟨w32, hw32⟩ : ∃ wn, w31.setCell ⟨gX, 3, none⟩ (.int .i64 A2) = wn := ⟨_, rfl⟩
  have hs := setA_own HQ_32.out A2
  rw [hw32] at hs
  obtain ⟨ho, hg⟩ := hs
  have QQ_32 := hide (QQ_31.out.kept hg (fun i e1 e2 => by have r1 := HK_QQ.out i e1; have r2 := HK_X.out i e2; have q1 := HS_1.out; have q2 := HS_2.out; have q3 := HS_3.out; have q4 := HS_4.out; have q5 := HS_5.out; have q6 := HS_6.out; have q7 := HS_7.out; have q8 := HS_8.out; have q9 := HS_9.out; have q10 := HS_10.out; have q11 := HS_11.out; have q12 := HS_12.out; have q13 := HS_13.out; have q14 := HS_14.out; have q15 := HS_15.out; have q16 := HS_16.out; have q17 := HS_17.out; have q18 := HS_18.out; have q19 := HS_19.out; have q20 := HS_20.out; have q21 := HS_21.out; have q22 := HS_22.out; have q23 := HS_23.out; have q24 := HS_24.out; have q25 := HS_25.out; have q26 := HS_26.out; have q27 := HS_27.out; have q28 := HS_28.out; have q29 := HS_29.out; have q30 := HS_30.out; have q31 := HS_31.out; omega))
  have OU_32 := hide (OU_31.out.kept hg (fun i e1 e2 => by have r1 := HK_OU.out i e1; have r2 := HK_X.out i e2; have q1 := HS_1.out; have q2 := HS_2.out; have q3 := HS_3.out; have q4 := HS_4.out; have q5 := HS_5.out; have q6 := HS_6.out; have q7 := HS_7.out; have q8 := HS_8.out; have q9 := HS_9.out; have q10 := HS_10.out; have q11 := HS_11.out; have q12 := HS_12.out; have q13 := HS_13.out; have q14 := HS_14.out; have q15 := HS_15.out; have q16 := HS_16.out; have q17 := HS_17.out; have q18 := HS_18.out; have q19 := HS_19.out; have q20 := HS_20.out; have q21 := HS_21.out; have q22 := HS_22.out; have q23 := HS_23.out; have q24 := HS_24.out; have q25 := HS_25.out; have q26 := HS_26.out; have q27 := HS_27.out; have q28 := HS_28.out; have q29 := HS_29.out; have q30 := HS_30.out; have q31 := HS_31.out; omega))
  have SS_32 := hide (keep SS_31.out hg (fun i j e1 e2 e3 => by have r1 := HK_SS.out i e1; have r2 := HK_X.out j e2; have q1 := HS_1.out; have q2 := HS_2.out; have q3 := HS_3.out; have q4 := HS_4.out; have q5 := HS_5.out; have q6 := HS_6.out; have q7 := HS_7.out; have q8 := HS_8.out; have q9 := HS_9.out; have q10 := HS_10.out; have q11 := HS_11.out; have q12 := HS_12.out; have q13 := HS_13.out; have q14 := HS_14.out; have q15 := HS_15.out; have q16 := HS_16.out; have q17 := HS_17.out; have q18 := HS_18.out; have q19 := HS_19.out; have q20 := HS_20.out; have q21 := HS_21.out; have q22 := HS_22.out; have q23 := HS_23.out; have q24 := HS_24.out; have q25 := HS_25.out; have q26 := HS_26.out; have q27 := HS_27.out; have q28 := HS_28.out; have q29 := HS_29.out; have q30 := HS_30.out; have q31 := HS_31.out; omega))
  have UU_32 := hide (keep UU_31.out hg (fun i j e1 e2 e3 => by have r1 := HK_UU.out i e1; have r2 := HK_X.out j e2; have q1 := HS_1.out; have q2 := HS_2.out; have q3 := HS_3.out; have q4 := HS_4.out; have q5 := HS_5.out; have q6 := HS_6.out; have q7 := HS_7.out; have q8 := HS_8.out; have q9 := HS_9.out; have q10 := HS_10.out; have q11 := HS_11.out; have q12 := HS_12.out; have q13 := HS_13.out; have q14 := HS_14.out; have q15 := HS_15.out; have q16 := HS_16.out; have q17 := HS_17.out; have q18 := HS_18.out; have q19 := HS_19.out; have q20 := HS_20.out; have q21 := HS_21.out; have q22 := HS_22.out; have q23 := HS_23.out; have q24 := HS_24.out; have q25 := HS_25.out; have q26 := HS_26.out; have q27 := HS_27.out; have q28 := HS_28.out; have q29 := HS_29.out; have q30 := HS_30.out; have q31 := HS_31.out; omega))
  have VV_32 := hide (VV_31.out.kept hg (fun i e1 e2 => by have r1 := HK_VV.out i e1; have r2 := HK_X.out i e2; have q1 := HS_1.out; have q2 := HS_2.out; have q3 := HS_3.out; have q4 := HS_4.out; have q5 := HS_5.out; have q6 := HS_6.out; have q7 := HS_7.out; have q8 := HS_8.out; have q9 := HS_9.out; have q10 := HS_10.out; have q11 := HS_11.out; have q12 := HS_12.out; have q13 := HS_13.out; have q14 := HS_14.out; have q15 := HS_15.out; have q16 := HS_16.out; have q17 := HS_17.out; have q18 := HS_18.out; have q19 := HS_19.out; have q20 := HS_20.out; have q21 := HS_21.out; have q22 := HS_22.out; have q23 := HS_23.out; have q24 := HS_24.out; have q25 := HS_25.out; have q26 := HS_26.out; have q27 := HS_27.out; have q28 := HS_28.out; have q29 := HS_29.out; have q30 := HS_30.out; have q31 := HS_31.out; omega))
  have LA_32 := hide (LA_31.out.kept hg (fun i e1 e2 => by have r1 := HK_LA.out i e1; have r2 := HK_X.out i e2; have q1 := HS_1.out; have q2 := HS_2.out; have q3 := HS_3.out; have q4 := HS_4.out; have q5 := HS_5.out; have q6 := HS_6.out; have q7 := HS_7.out; have q8 := HS_8.out; have q9 := HS_9.out; have q10 := HS_10.out; have q11 := HS_11.out; have q12 := HS_12.out; have q13 := HS_13.out; have q14 := HS_14.out; have q15 := HS_15.out; have q16 := HS_16.out; have q17 := HS_17.out; have q18 := HS_18.out; have q19 := HS_19.out; have q20 := HS_20.out; have q21 := HS_21.out; have q22 := HS_22.out; have q23 := HS_23.out; have q24 := HS_24.out; have q25 := HS_25.out; have q26 := HS_26.out; have q27 := HS_27.out; have q28 := HS_28.out; have q29 := HS_29.out; have q30 := HS_30.out; have q31 := HS_31.out; omega))
  have G3_32 := hide (G3_31.out.kept hg (fun i e1 e2 => by have r1 := HK_G3.out i e1; have r2 := HK_X.out i e2; have q1 := HS_1.out; have q2 := HS_2.out; have q3 := HS_3.out; have q4 := HS_4.out; have q5 := HS_5.out; have q6 := HS_6.out; have q7 := HS_7.out; have q8 := HS_8.out; have q9 := HS_9.out; have q10 := HS_10.out; have q11 := HS_11.out; have q12 := HS_12.out; have q13 := HS_13.out; have q14 := HS_14.out; have q15 := HS_15.out; have q16 := HS_16.out; have q17 := HS_17.out; have q18 := HS_18.out; have q19 := HS_19.out; have q20 := HS_20.out; have q21 := HS_21.out; have q22 := HS_22.out; have q23 := HS_23.out; have q24 := HS_24.out; have q25 := HS_25.out; have q26 := HS_26.out; have q27 := HS_27.out; have q28 := HS_28.out; have q29 := HS_29.out; have q30 := HS_30.out; have q31 := HS_31.out; omega))
  have HS_32 : Hid (w31.heap.size ≤ w32.heap.size) := (hg).size
  have HW_32 : Hid (Below w.heap.size w w32) := HW_31.out.grown hg HW_31.out.size (fun i e => by have r2 := HK_X.out i e; have q1 := HS_1.out; have q2 := HS_2.out; have q3 := HS_3.out; have q4 := HS_4.out; have q5 := HS_5.out; have q6 := HS_6.out; have q7 := HS_7.out; have q8 := HS_8.out; have q9 := HS_9.out; have q10 := HS_10.out; have q11 := HS_11.out; have q12 := HS_12.out; have q13 := HS_13.out; have q14 := HS_14.out; have q15 := HS_15.out; have q16 := HS_16.out; have q17 := HS_17.out; have q18 := HS_18.out; have q19 := HS_19.out; have q20 := HS_20.out; have q21 := HS_21.out; have q22 := HS_22.out; have q23 := HS_23.out; have q24 := HS_24.out; have q25 := HS_25.out; have q26 := HS_26.out; have q27 := HS_27.out; have q28 := HS_28.out; have q29 := HS_29.out; have q30 := HS_30.out; have q31 := HS_31.out; omega)
  have X_32 := hide ho
  clear X_31 QQ_31 OU_31 SS_31 UU_31 VV_31 LA_31 G3_31 HW_31 ho hg HQ_32
  have HLS : Hid ((⟨f.k, f.j, f.t, A2, f.m, f.r, f.p, f.q⟩ :: r : List Flt).length = n) := by have h1 := HLR.out; have h2 := HFR.out; rw [h2] at h1; exact h1
  go_wp2_with fail
  refine (check_any (some ⟨gX, 0, none⟩) n (n + 64) (⟨f.k, f.j, f.t, A2, f.m, f.r, f.p, f.q⟩ :: r) _ (rdl_cut X_32.out HLS.out)).mono ?_
  rintro e w33 ⟨rfl, hb⟩
  have X_33 := hide (X_32.out.below hb)
  have QQ_33 := hide (QQ_32.out.below hb)
  have OU_33 := hide (OU_32.out.below hb)
  have SS_33 := hide (SS_32.out.below hb)
  have UU_33 := hide (UU_32.out.below hb)
  have VV_33 := hide (VV_32.out.below hb)
  have LA_33 := hide (LA_32.out.below hb)
  have G3_33 := hide (G3_32.out.below hb)
  have HS_33 : Hid (w32.heap.size ≤ w33.heap.size) := (hb).size
  have HW_33 := hide (below_trans HW_32.out hb)
  clear X_32 QQ_32 OU_32 SS_32 UU_32 VV_32 LA_32 G3_32 HW_32 hb
  go_wp2_with fail
  refine (refCheck_any (some ⟨gG3, 0, none⟩) n (n + 64) (⟨f.k, f.j, f.t, A2, f.m, f.r, f.p, f.q⟩ :: r) _ (rdl_cut G3_33.out HLS.out)).mono ?_
  rintro e w34 ⟨rfl, hb⟩
  have X_34 := hide (X_33.out.below hb)
  have QQ_34 := hide (QQ_33.out.below hb)
  have OU_34 := hide (OU_33.out.below hb)
  have SS_34 := hide (SS_33.out.below hb)
  have UU_34 := hide (UU_33.out.below hb)
  have VV_34 := hide (VV_33.out.below hb)
  have LA_34 := hide (LA_33.out.below hb)
  have G3_34 := hide (G3_33.out.below hb)
  have HS_34 : Hid (w33.heap.size ≤ w34.heap.size) := (hb).size
  have HW_34 := hide (below_trans HW_33.out hb)
  clear X_33 QQ_33 OU_33 SS_33 UU_33 VV_33 LA_33 G3_33 HW_33 hb
  clear G3_34
  have HQ_35 := hide (id X_34.out)
  have hc3_35 := (setA_c3 HQ_35.out).1
  have hf3_35 := (setA_c3 HQ_35.out).2
  obtain ⟨w35, hw35⟩ : ∃ wn, w34.setCell ⟨gX, 3, none⟩ (.int .i64 f.a) = wn := ⟨_, rfl⟩
  have hs := setA_own HQ_35.out f.a
  rw [hw35] at hs
  obtain ⟨ho, hg⟩ := hs
  have QQ_35 := hide (QQ_34.out.kept hg (fun i e1 e2 => by have r1 := HK_QQ.out i e1; have r2 := HK_X.out i e2; have q1 := HS_1.out; have q2 := HS_2.out; have q3 := HS_3.out; have q4 := HS_4.out; have q5 := HS_5.out; have q6 := HS_6.out; have q7 := HS_7.out; have q8 := HS_8.out; have q9 := HS_9.out; have q10 := HS_10.out; have q11 := HS_11.out; have q12 := HS_12.out; have q13 := HS_13.out; have q14 := HS_14.out; have q15 := HS_15.out; have q16 := HS_16.out; have q17 := HS_17.out; have q18 := HS_18.out; have q19 := HS_19.out; have q20 := HS_20.out; have q21 := HS_21.out; have q22 := HS_22.out; have q23 := HS_23.out; have q24 := HS_24.out; have q25 := HS_25.out; have q26 := HS_26.out; have q27 := HS_27.out; have q28 := HS_28.out; have q29 := HS_29.out; have q30 := HS_30.out; have q31 := HS_31.out; have q32 := HS_32.out; have q33 := HS_33.out; have q34 := HS_34.out; omega))
  have OU_35 := hide (OU_34.out.kept hg (fun i e1 e2 => by have r1 := HK_OU.out i e1; have r2 := HK_X.out i e2; have q1 := HS_1.out; have q2 := HS_2.out; have q3 := HS_3.out; have q4 := HS_4.out; have q5 := HS_5.out; have q6 := HS_6.out; have q7 := HS_7.out; have q8 := HS_8.out; have q9 := HS_9.out; have q10 := HS_10.out; have q11 := HS_11.out; have q12 := HS_12.out; have q13 := HS_13.out; have q14 := HS_14.out; have q15 := HS_15.out; have q16 := HS_16.out; have q17 := HS_17.out; have q18 := HS_18.out; have q19 := HS_19.out; have q20 := HS_20.out; have q21 := HS_21.out; have q22 := HS_22.out; have q23 := HS_23.out; have q24 := HS_24.out; have q25 := HS_25.out; have q26 := HS_26.out; have q27 := HS_27.out; have q28 := HS_28.out; have q29 := HS_29.out; have q30 := HS_30.out; have q31 := HS_31.out; have q32 := HS_32.out; have q33 := HS_33.out; have q34 := HS_34.out; omega))
  have SS_35 := hide (keep SS_34.out hg (fun i j e1 e2 e3 => by have r1 := HK_SS.out i e1; have r2 := HK_X.out j e2; have q1 := HS_1.out; have q2 := HS_2.out; have q3 := HS_3.out; have q4 := HS_4.out; have q5 := HS_5.out; have q6 := HS_6.out; have q7 := HS_7.out; have q8 := HS_8.out; have q9 := HS_9.out; have q10 := HS_10.out; have q11 := HS_11.out; have q12 := HS_12.out; have q13 := HS_13.out; have q14 := HS_14.out; have q15 := HS_15.out; have q16 := HS_16.out; have q17 := HS_17.out; have q18 := HS_18.out; have q19 := HS_19.out; have q20 := HS_20.out; have q21 := HS_21.out; have q22 := HS_22.out; have q23 := HS_23.out; have q24 := HS_24.out; have q25 := HS_25.out; have q26 := HS_26.out; have q27 := HS_27.out; have q28 := HS_28.out; have q29 := HS_29.out; have q30 := HS_30.out; have q31 := HS_31.out; have q32 := HS_32.out; have q33 := HS_33.out; have q34 := HS_34.out; omega))
  have UU_35 := hide (keep UU_34.out hg (fun i j e1 e2 e3 => by have r1 := HK_UU.out i e1; have r2 := HK_X.out j e2; have q1 := HS_1.out; have q2 := HS_2.out; have q3 := HS_3.out; have q4 := HS_4.out; have q5 := HS_5.out; have q6 := HS_6.out; have q7 := HS_7.out; have q8 := HS_8.out; have q9 := HS_9.out; have q10 := HS_10.out; have q11 := HS_11.out; have q12 := HS_12.out; have q13 := HS_13.out; have q14 := HS_14.out; have q15 := HS_15.out; have q16 := HS_16.out; have q17 := HS_17.out; have q18 := HS_18.out; have q19 := HS_19.out; have q20 := HS_20.out; have q21 := HS_21.out; have q22 := HS_22.out; have q23 := HS_23.out; have q24 := HS_24.out; have q25 := HS_25.out; have q26 := HS_26.out; have q27 := HS_27.out; have q28 := HS_28.out; have q29 := HS_29.out; have q30 := HS_30.out; have q31 := HS_31.out; have q32 := HS_32.out; have q33 := HS_33.out; have q34 := HS_34.out; omega))
  have VV_35 := hide (VV_34.out.kept hg (fun i e1 e2 => by have r1 := HK_VV.out i e1; have r2 := HK_X.out i e2; have q1 := HS_1.out; have q2 := HS_2.out; have q3 := HS_3.out; have q4 := HS_4.out; have q5 := HS_5.out; have q6 := HS_6.out; have q7 := HS_7.out; have q8 := HS_8.out; have q9 := HS_9.out; have q10 := HS_10.out; have q11 := HS_11.out; have q12 := HS_12.out; have q13 := HS_13.out; have q14 := HS_14.out; have q15 := HS_15.out; have q16 := HS_16.out; have q17 := HS_17.out; have q18 := HS_18.out; have q19 := HS_19.out; have q20 := HS_20.out; have q21 := HS_21.out; have q22 := HS_22.out; have q23 := HS_23.out; have q24 := HS_24.out; have q25 := HS_25.out; have q26 := HS_26.out; have q27 := HS_27.out; have q28 := HS_28.out; have q29 := HS_29.out; have q30 := HS_30.out; have q31 := HS_31.out; have q32 := HS_32.out; have q33 := HS_33.out; have q34 := HS_34.out; omega))
  have LA_35 := hide (LA_34.out.kept hg (fun i e1 e2 => by have r1 := HK_LA.out i e1; have r2 := HK_X.out i e2; have q1 := HS_1.out; have q2 := HS_2.out; have q3 := HS_3.out; have q4 := HS_4.out; have q5 := HS_5.out; have q6 := HS_6.out; have q7 := HS_7.out; have q8 := HS_8.out; have q9 := HS_9.out; have q10 := HS_10.out; have q11 := HS_11.out; have q12 := HS_12.out; have q13 := HS_13.out; have q14 := HS_14.out; have q15 := HS_15.out; have q16 := HS_16.out; have q17 := HS_17.out; have q18 := HS_18.out; have q19 := HS_19.out; have q20 := HS_20.out; have q21 := HS_21.out; have q22 := HS_22.out; have q23 := HS_23.out; have q24 := HS_24.out; have q25 := HS_25.out; have q26 := HS_26.out; have q27 := HS_27.out; have q28 := HS_28.out; have q29 := HS_29.out; have q30 := HS_30.out; have q31 := HS_31.out; have q32 := HS_32.out; have q33 := HS_33.out; have q34 := HS_34.out; omega))
  have HS_35 : Hid (w34.heap.size ≤ w35.heap.size) := (hg).size
  have HW_35 : Hid (Below w.heap.size w w35) := HW_34.out.grown hg HW_34.out.size (fun i e => by have r2 := HK_X.out i e; have q1 := HS_1.out; have q2 := HS_2.out; have q3 := HS_3.out; have q4 := HS_4.out; have q5 := HS_5.out; have q6 := HS_6.out; have q7 := HS_7.out; have q8 := HS_8.out; have q9 := HS_9.out; have q10 := HS_10.out; have q11 := HS_11.out; have q12 := HS_12.out; have q13 := HS_13.out; have q14 := HS_14.out; have q15 := HS_15.out; have q16 := HS_16.out; have q17 := HS_17.out; have q18 := HS_18.out; have q19 := HS_19.out; have q20 := HS_20.out; have q21 := HS_21.out; have q22 := HS_22.out; have q23 := HS_23.out; have q24 := HS_24.out; have q25 := HS_25.out; have q26 := HS_26.out; have q27 := HS_27.out; have q28 := HS_28.out; have q29 := HS_29.out; have q30 := HS_30.out; have q31 := HS_31.out; have q32 := HS_32.out; have q33 := HS_33.out; have q34 := HS_34.out; omega)
  have X_35 := hide ho
  clear X_34 QQ_34 OU_34 SS_34 UU_34 VV_34 LA_34 HW_34 ho hg HQ_35
  have X_35 := hide (own_rw2 HFR.out X_35.out)
  go_wp2_with fail
  refine (check_any (some ⟨gX, 0, none⟩) n (n + 64) fs.reverse _ (rdl_cut X_35.out HLR.out)).mono ?_
  rintro e w36 ⟨rfl, hb⟩
  have X_36 := hide (X_35.out.below hb)
  have QQ_36 := hide (QQ_35.out.below hb)
  have OU_36 := hide (OU_35.out.below hb)
  have SS_36 := hide (SS_35.out.below hb)
  have UU_36 := hide (UU_35.out.below hb)
  have VV_36 := hide (VV_35.out.below hb)
  have LA_36 := hide (LA_35.out.below hb)
  have HS_36 : Hid (w35.heap.size ≤ w36.heap.size) := (hb).size
  have HW_36 := hide (below_trans HW_35.out hb)
  clear X_35 QQ_35 OU_35 SS_35 UU_35 VV_35 LA_35 HW_35 hb
  go_wp2_with fail
  refine (given_any a n cap fs _ (HR.out.below HW_36.out) (by omega)).mono ?_
  rintro e w37 ⟨gG4, rfl, ho, hb⟩
  have X_37 := hide (X_36.out.below hb)
  have QQ_37 := hide (QQ_36.out.below hb)
  have OU_37 := hide (OU_36.out.below hb)
  have SS_37 := hide (SS_36.out.below hb)
  have UU_37 := hide (UU_36.out.below hb)
  have VV_37 := hide (VV_36.out.below hb)
  have LA_37 := hide (LA_36.out.below hb)
  have HS_37 : Hid (w36.heap.size ≤ w37.heap.size) := (hb).size
  have HW_37 := hide (below_trans HW_36.out hb)
  have G4_37 := hide ho
  have HK_G4 : Hid (∀ i, (Value.slice (some ⟨gG4, 0, none⟩) (n + 64) (n + 64)).ownBlock = some i → w36.heap.size ≤ i ∧ i < w37.heap.size) := fun i e => World.ownsRow.lt ho i e
  clear X_36 QQ_36 OU_36 SS_36 UU_36 VV_36 LA_36 HW_36 hb ho
  go_wp2_with fail
  refine (back_own w36.heap.size gG4 fs (List.replicate 64 markF) n (n + 64) _ G4_37.out HL.out (by simp) (by omega)).mono ?_
  rintro e w38 ⟨rfl, ho, hg⟩
  have X_38 := hide (X_37.out.kept hg (fun i e1 e2 => by have r1 := HK_X.out i e1; have r2 := HK_G4.out i e2; have q1 := HS_1.out; have q2 := HS_2.out; have q3 := HS_3.out; have q4 := HS_4.out; have q5 := HS_5.out; have q6 := HS_6.out; have q7 := HS_7.out; have q8 := HS_8.out; have q9 := HS_9.out; have q10 := HS_10.out; have q11 := HS_11.out; have q12 := HS_12.out; have q13 := HS_13.out; have q14 := HS_14.out; have q15 := HS_15.out; have q16 := HS_16.out; have q17 := HS_17.out; have q18 := HS_18.out; have q19 := HS_19.out; have q20 := HS_20.out; have q21 := HS_21.out; have q22 := HS_22.out; have q23 := HS_23.out; have q24 := HS_24.out; have q25 := HS_25.out; have q26 := HS_26.out; have q27 := HS_27.out; have q28 := HS_28.out; have q29 := HS_29.out; have q30 := HS_30.out; have q31 := HS_31.out; have q32 := HS_32.out; have q33 := HS_33.out; have q34 := HS_34.out; have q35 := HS_35.out; have q36 := HS_36.out; have q37 := HS_37.out; omega))
  have QQ_38 := hide (QQ_37.out.kept hg (fun i e1 e2 => by have r1 := HK_QQ.out i e1; have r2 := HK_G4.out i e2; have q1 := HS_1.out; have q2 := HS_2.out; have q3 := HS_3.out; have q4 := HS_4.out; have q5 := HS_5.out; have q6 := HS_6.out; have q7 := HS_7.out; have q8 := HS_8.out; have q9 := HS_9.out; have q10 := HS_10.out; have q11 := HS_11.out; have q12 := HS_12.out; have q13 := HS_13.out; have q14 := HS_14.out; have q15 := HS_15.out; have q16 := HS_16.out; have q17 := HS_17.out; have q18 := HS_18.out; have q19 := HS_19.out; have q20 := HS_20.out; have q21 := HS_21.out; have q22 := HS_22.out; have q23 := HS_23.out; have q24 := HS_24.out; have q25 := HS_25.out; have q26 := HS_26.out; have q27 := HS_27.out; have q28 := HS_28.out; have q29 := HS_29.out; have q30 := HS_30.out; have q31 := HS_31.out; have q32 := HS_32.out; have q33 := HS_33.out; have q34 := HS_34.out; have q35 := HS_35.out; have q36 := HS_36.out; have q37 := HS_37.out; omega))
  have OU_38 := hide (OU_37.out.kept hg (fun i e1 e2 => by have r1 := HK_OU.out i e1; have r2 := HK_G4.out i e2; have q1 := HS_1.out; have q2 := HS_2.out; have q3 := HS_3.out; have q4 := HS_4.out; have q5 := HS_5.out; have q6 := HS_6.out; have q7 := HS_7.out; have q8 := HS_8.out; have q9 := HS_9.out; have q10 := HS_10.out; have q11 := HS_11.out; have q12 := HS_12.out; have q13 := HS_13.out; have q14 := HS_14.out; have q15 := HS_15.out; have q16 := HS_16.out; have q17 := HS_17.out; have q18 := HS_18.out; have q19 := HS_19.out; have q20 := HS_20.out; have q21 := HS_21.out; have q22 := HS_22.out; have q23 := HS_23.out; have q24 := HS_24.out; have q25 := HS_25.out; have q26 := HS_26.out; have q27 := HS_27.out; have q28 := HS_28.out; have q29 := HS_29.out; have q30 := HS_30.out; have q31 := HS_31.out; have q32 := HS_32.out; have q33 := HS_33.out; have q34 := HS_34.out; have q35 := HS_35.out; have q36 := HS_36.out; have q37 := HS_37.out; omega))
  have SS_38 := hide (keep SS_37.out hg (fun i j e1 e2 e3 => by have r1 := HK_SS.out i e1; have r2 := HK_G4.out j e2; have q1 := HS_1.out; have q2 := HS_2.out; have q3 := HS_3.out; have q4 := HS_4.out; have q5 := HS_5.out; have q6 := HS_6.out; have q7 := HS_7.out; have q8 := HS_8.out; have q9 := HS_9.out; have q10 := HS_10.out; have q11 := HS_11.out; have q12 := HS_12.out; have q13 := HS_13.out; have q14 := HS_14.out; have q15 := HS_15.out; have q16 := HS_16.out; have q17 := HS_17.out; have q18 := HS_18.out; have q19 := HS_19.out; have q20 := HS_20.out; have q21 := HS_21.out; have q22 := HS_22.out; have q23 := HS_23.out; have q24 := HS_24.out; have q25 := HS_25.out; have q26 := HS_26.out; have q27 := HS_27.out; have q28 := HS_28.out; have q29 := HS_29.out; have q30 := HS_30.out; have q31 := HS_31.out; have q32 := HS_32.out; have q33 := HS_33.out; have q34 := HS_34.out; have q35 := HS_35.out; have q36 := HS_36.out; have q37 := HS_37.out; omega))
  have UU_38 := hide (keep UU_37.out hg (fun i j e1 e2 e3 => by have r1 := HK_UU.out i e1; have r2 := HK_G4.out j e2; have q1 := HS_1.out; have q2 := HS_2.out; have q3 := HS_3.out; have q4 := HS_4.out; have q5 := HS_5.out; have q6 := HS_6.out; have q7 := HS_7.out; have q8 := HS_8.out; have q9 := HS_9.out; have q10 := HS_10.out; have q11 := HS_11.out; have q12 := HS_12.out; have q13 := HS_13.out; have q14 := HS_14.out; have q15 := HS_15.out; have q16 := HS_16.out; have q17 := HS_17.out; have q18 := HS_18.out; have q19 := HS_19.out; have q20 := HS_20.out; have q21 := HS_21.out; have q22 := HS_22.out; have q23 := HS_23.out; have q24 := HS_24.out; have q25 := HS_25.out; have q26 := HS_26.out; have q27 := HS_27.out; have q28 := HS_28.out; have q29 := HS_29.out; have q30 := HS_30.out; have q31 := HS_31.out; have q32 := HS_32.out; have q33 := HS_33.out; have q34 := HS_34.out; have q35 := HS_35.out; have q36 := HS_36.out; have q37 := HS_37.out; omega))
  have VV_38 := hide (VV_37.out.kept hg (fun i e1 e2 => by have r1 := HK_VV.out i e1; have r2 := HK_G4.out i e2; have q1 := HS_1.out; have q2 := HS_2.out; have q3 := HS_3.out; have q4 := HS_4.out; have q5 := HS_5.out; have q6 := HS_6.out; have q7 := HS_7.out; have q8 := HS_8.out; have q9 := HS_9.out; have q10 := HS_10.out; have q11 := HS_11.out; have q12 := HS_12.out; have q13 := HS_13.out; have q14 := HS_14.out; have q15 := HS_15.out; have q16 := HS_16.out; have q17 := HS_17.out; have q18 := HS_18.out; have q19 := HS_19.out; have q20 := HS_20.out; have q21 := HS_21.out; have q22 := HS_22.out; have q23 := HS_23.out; have q24 := HS_24.out; have q25 := HS_25.out; have q26 := HS_26.out; have q27 := HS_27.out; have q28 := HS_28.out; have q29 := HS_29.out; have q30 := HS_30.out; have q31 := HS_31.out; have q32 := HS_32.out; have q33 := HS_33.out; have q34 := HS_34.out; have q35 := HS_35.out; have q36 := HS_36.out; have q37 := HS_37.out; omega))
  have LA_38 := hide (LA_37.out.kept hg (fun i e1 e2 => by have r1 := HK_LA.out i e1; have r2 := HK_G4.out i e2; have q1 := HS_1.out; have q2 := HS_2.out; have q3 := HS_3.out; have q4 := HS_4.out; have q5 := HS_5.out; have q6 := HS_6.out; have q7 := HS_7.out; have q8 := HS_8.out; have q9 := HS_9.out; have q10 := HS_10.out; have q11 := HS_11.out; have q12 := HS_12.out; have q13 := HS_13.out; have q14 := HS_14.out; have q15 := HS_15.out; have q16 := HS_16.out; have q17 := HS_17.out; have q18 := HS_18.out; have q19 := HS_19.out; have q20 := HS_20.out; have q21 := HS_21.out; have q22 := HS_22.out; have q23 := HS_23.out; have q24 := HS_24.out; have q25 := HS_25.out; have q26 := HS_26.out; have q27 := HS_27.out; have q28 := HS_28.out; have q29 := HS_29.out; have q30 := HS_30.out; have q31 := HS_31.out; have q32 := HS_32.out; have q33 := HS_33.out; have q34 := HS_34.out; have q35 := HS_35.out; have q36 := HS_36.out; have q37 := HS_37.out; omega))
  have HS_38 : Hid (w37.heap.size ≤ w38.heap.size) := (hg).size
  have HW_38 : Hid (Below w.heap.size w w38) := HW_37.out.grown hg HW_37.out.size (fun i e => by have r2 := HK_G4.out i e; have q1 := HS_1.out; have q2 := HS_2.out; have q3 := HS_3.out; have q4 := HS_4.out; have q5 := HS_5.out; have q6 := HS_6.out; have q7 := HS_7.out; have q8 := HS_8.out; have q9 := HS_9.out; have q10 := HS_10.out; have q11 := HS_11.out; have q12 := HS_12.out; have q13 := HS_13.out; have q14 := HS_14.out; have q15 := HS_15.out; have q16 := HS_16.out; have q17 := HS_17.out; have q18 := HS_18.out; have q19 := HS_19.out; have q20 := HS_20.out; have q21 := HS_21.out; have q22 := HS_22.out; have q23 := HS_23.out; have q24 := HS_24.out; have q25 := HS_25.out; have q26 := HS_26.out; have q27 := HS_27.out; have q28 := HS_28.out; have q29 := HS_29.out; have q30 := HS_30.out; have q31 := HS_31.out; have q32 := HS_32.out; have q33 := HS_33.out; have q34 := HS_34.out; have q35 := HS_35.out; have q36 := HS_36.out; have q37 := HS_37.out; omega)
  have G4_38 := hide ho
  clear X_37 QQ_37 OU_37 SS_37 UU_37 VV_37 LA_37 G4_37 HW_37 ho hg
  go_wp2_with fail
  refine (refCheck_any (some ⟨gG4, 0, none⟩) n (n + 64) fs.reverse _ (rdl_cut G4_38.out HLR.out)).mono ?_
  rintro e w39 ⟨rfl, hb⟩
  have X_39 := hide (X_38.out.below hb)
  have QQ_39 := hide (QQ_38.out.below hb)
  have OU_39 := hide (OU_38.out.below hb)
  have SS_39 := hide (SS_38.out.below hb)
  have UU_39 := hide (UU_38.out.below hb)
  have VV_39 := hide (VV_38.out.below hb)
  have LA_39 := hide (LA_38.out.below hb)
  have G4_39 := hide (G4_38.out.below hb)
  have HS_39 : Hid (w38.heap.size ≤ w39.heap.size) := (hb).size
  have HW_39 := hide (below_trans HW_38.out hb)
  clear X_38 QQ_38 OU_38 SS_38 UU_38 VV_38 LA_38 G4_38 HW_38 hb
  clear G4_39
  go_wp2_with fail
  refine (same_eq aSS aUU NR cSS NR cUU (encR fs.reverse) _ (Got.rd SS_39.out (by rw [HNR.out]; omega)) (Got.rd UU_39.out (by rw [HNR.out]; omega))).mono ?_
  rintro e w40 ⟨rfl, hb⟩
  have X_40 := hide (X_39.out.below hb)
  have QQ_40 := hide (QQ_39.out.below hb)
  have OU_40 := hide (OU_39.out.below hb)
  have SS_40 := hide (SS_39.out.below hb)
  have UU_40 := hide (UU_39.out.below hb)
  have VV_40 := hide (VV_39.out.below hb)
  have LA_40 := hide (LA_39.out.below hb)
  have HS_40 : Hid (w39.heap.size ≤ w40.heap.size) := (hb).size
  have HW_40 := hide (below_trans HW_39.out hb)
  clear X_39 QQ_39 OU_39 SS_39 UU_39 VV_39 LA_39 HW_39 hb
  go_wp2_with fail
  refine (sameF_eq aVV aLA NT cVV NT cLA (decR TB) _ VV_40.out.rdl LA_40.out.rdl (by omega)).mono ?_
  rintro e w41 ⟨rfl, zq, hzq⟩
  have hb : Below w40.heap.size w40 w41 := by rw [hzq]; exact below_drewN' _ _ _
  clear hzq
  have X_41 := hide (X_40.out.below hb)
  have QQ_41 := hide (QQ_40.out.below hb)
  have OU_41 := hide (OU_40.out.below hb)
  have SS_41 := hide (SS_40.out.below hb)
  have UU_41 := hide (UU_40.out.below hb)
  have VV_41 := hide (VV_40.out.below hb)
  have LA_41 := hide (LA_40.out.below hb)
  have HS_41 : Hid (w40.heap.size ≤ w41.heap.size) := (hb).size
  have HW_41 := hide (below_trans HW_40.out hb)
  clear X_40 QQ_40 OU_40 SS_40 UU_40 VV_40 LA_40 HW_40 hb
  go_wp2_with fail
  refine (sameF_eq aQQ aOU ND cQQ ND cOU (decR bs) _ QQ_41.out.rdl OU_41.out.rdl (by omega)).mono ?_
  rintro e w42 ⟨rfl, zq, hzq⟩
  have hb : Below w41.heap.size w41 w42 := by rw [hzq]; exact below_drewN' _ _ _
  clear hzq
  have X_42 := hide (X_41.out.below hb)
  have QQ_42 := hide (QQ_41.out.below hb)
  have OU_42 := hide (OU_41.out.below hb)
  have SS_42 := hide (SS_41.out.below hb)
  have UU_42 := hide (UU_41.out.below hb)
  have VV_42 := hide (VV_41.out.below hb)
  have LA_42 := hide (LA_41.out.below hb)
  have HS_42 : Hid (w41.heap.size ≤ w42.heap.size) := (hb).size
  have HW_42 := hide (below_trans HW_41.out hb)
  clear X_41 QQ_41 OU_41 SS_41 UU_41 VV_41 LA_41 HW_41 hb
  go_wp2_with fail
  go_ret
  exact ⟨rfl, HW_42.out⟩
end Go.Proofs.Ytbmbhcjocgbbpab.faultCodes
