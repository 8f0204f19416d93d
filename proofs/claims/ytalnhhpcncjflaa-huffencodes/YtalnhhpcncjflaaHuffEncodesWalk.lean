/-
  The walk of the statement HuffEncodes.
-/
import Derived.Test.YtalnhhpcncjflaaHuffT10
import Derived.Test.YtalnhhpcncjflaaHuffK4
import Derived.Test.YtalnhhpcncjflaaHuffK7
import Derived.Deep.RegionHeld
import Derived.Deep.DeepCutAuto
namespace Go.Proofs.Ytalnhhpcncjflaa.huffEncodes
open Go.ChangeShapes Go.WideShapes Go.ChangeAt Go.RowKit
open Go.Proofs.Ytalnhhpcncjflaa.Base Go.Proofs.Ytalnhhpcncjflaa.Huff
set_option linter.unusedVariables false
theorem front {w : World} {base g n c : Nat} {xs ys : List (BitVec 8)} {len : Nat} (h : Own w base (.slice (some ⟨g, 0, none⟩) n c) (xs ++ ys)) (hl : xs.length = len) (hm : len ≤ 140737488355328) : Rd w (some ⟨g, 0, none⟩) len xs := by
  have hn := h.len
  have h2 := h.cut len (by rw [hn, List.length_append]; omega)
  rw [List.take_append_of_le_length (by omega), List.take_of_length_le (by omega)] at h2
  exact h2.rd (by omega)
theorem enc_at (bs : List (BitVec 8)) (T : List (BitVec 8)) (E : Int) (h : encoded bs = (T, E)) (a : Option Addr) (len cap : Nat) (w : World) (hr : Rd w a len bs) (hc : len ≤ cap) :
    Calls Try.prog 20 #[.slice a len cap] w fun e w' => ∃ v, e = .returned (.tuple #[v, .int .i64 E]) ∧ Own w' w.heap.size v T ∧ Below w.heap.size w w' := by
  have := encode_any a len cap bs w hr hc
  rw [h] at this
  exact this
theorem ref_at (bs : List (BitVec 8)) (T : List (BitVec 8)) (E : Int) (h : encoded bs = (T, E)) (a : Option Addr) (len cap : Nat) (w : World) (hr : Rd w a len bs) (hc : len ≤ cap) :
    Calls Try.prog 27 #[.slice a len cap] w fun e w' => ∃ v, e = .returned (.tuple #[v, .int .i64 E]) ∧ Own w' w.heap.size v T ∧ Below w.heap.size w w' := by
  have := refEncode_any a len cap bs w hr hc
  rw [h] at this
  exact this
theorem enc_len (t : List (BitVec 8)) : (encoded t).1.length ≤ 1048609 := by
  unfold encoded
  split
  · simp
  · next h =>
    simp only []
    have ht : t.length ≤ 65536 := by omega
    rw [packed_app, List.length_append, flushed_len _ (bitsOf_le _ _)]
    have h1 := (pairs_small (textLens t) (by rw [textLens_len]; omega)).1
    have h2 := bitsOf_len (codesOf (textLens t)) (codes_lenOk t ht) t
    omega
set_option maxHeartbeats 4000000 in
set_option maxRecDepth 100000 in
theorem walk (a0 : Option Addr) (len0 cap0 : Nat) (b0 : List (BitVec 8)) (w : World) (r0 : Rd w a0 len0 b0) (l0 : len0 ≤ cap0) (m0 : cap0 ≤ 140737488351232) (z0 : a0 = none → len0 = 0 ∧ cap0 = 0) :
    Calls Try.prog 7 #[.slice a0 len0 cap0] w fun e w' => e = .returned (.bool true) ∧ Below w.heap.size w w' := by
  have HL0 := hide r0.1
  have R0 := hide r0
  have h0i : (len0 : Int) ≤ 140737488351232 := by omega
  clear r0 z0
  obtain ⟨C, E, hCE⟩ : ∃ C E, encoded b0 = (C, E) := ⟨_, _, rfl⟩
  have HCE := hide hCE
  have HCL : Hid (C.length ≤ 1048609) := by have := enc_len b0; rw [hCE] at this; exact this
  obtain ⟨N, hN⟩ : ∃ N, C.length = N := ⟨_, rfl⟩
  have HN := hide hN
  have hNb : N ≤ 1048609 := by rw [← hN]; exact HCL.out
  have hNi : (N : Int) ≤ 1048609 := by omega
  obtain ⟨C2, E2, hCE2⟩ : ∃ C E, encoded (bkB b0) = (C, E) := ⟨_, _, rfl⟩
  have HCE2 := hide hCE2
  have HCL2 : Hid (C2.length ≤ 1048609) := by have := enc_len (bkB b0); rw [hCE2] at this; exact this
  obtain ⟨N2, hN2⟩ : ∃ N, C2.length = N := ⟨_, rfl⟩
  have HN2 := hide hN2
  have he2 : (E2 == E2) = true := by simp
  have HKL : Hid ((bkB b0).length = len0) := by show _ = _; rw [bkB_len]; exact HL0.out
  clear hCE hN hCE2 hN2
  have he : (E != E) = false := by simp
  go_enter Try.func7, Try.ntmps7
  go_wp2_with fail
  refine (roomy4_any a0 len0 cap0 b0 w R0.out (by omega)).mono ?_
  rintro e w1 ⟨gx, rfl, hgx, hrow1, hb1⟩
  have HX1 := hide hrow1
  have HB1 := hide hb1
  have HGX : Hid (w.heap.size ≤ gx) := hgx
  clear hrow1 hb1 hgx
  have hx4 : len0 ≤ len0 + 64 := by omega
  have hx5 : (len0 : Int) ≤ (len0 : Int) + 64 := by omega
  go_wp2_with fail
  refine (enc_at b0 C E HCE.out _ len0 _ w1 (front HX1.out HL0.out (by omega)) (by omega)).mono ?_
  rintro e w2 ⟨v2, rfl, ho2, hb2⟩
  obtain ⟨a2, c2, rfl⟩ := ho2.shape
  rw [HN.out] at ho2 ⊢
  have HB2 := hide (below_trans HB1.out hb2)
  have HX2 := hide (HX1.out.below hb2)
  have HO2 := hide ho2
  have HK2 : Hid (∀ i, (Value.slice a2 N c2).ownBlock = some i → w1.heap.size ≤ i ∧ i < w2.heap.size) := blk ho2
  have HGL : Hid (gx < w1.heap.size) := HX1.out.lt'.2
  have hs1 : w.heap.size ≤ w1.heap.size := HB1.out.size
  have hs12 : w1.heap.size ≤ w2.heap.size := hb2.size
  clear hb2 ho2 HB1 HX1
  go_wp2_with fail
  refine (enc_at b0 C E HCE.out _ len0 _ w2 (front HX2.out HL0.out (by omega)) (by omega)).mono ?_
  rintro e w3 ⟨v3, rfl, ho3, hb3⟩
  obtain ⟨a3, c3, rfl⟩ := ho3.shape
  rw [HN.out] at ho3 ⊢
  have HB3 := hide (below_trans HB2.out hb3)
  have HX3 := hide (HX2.out.below hb3)
  have HO3 := hide (HO2.out.below hb3)
  have HT3 := hide ho3
  have HK3 : Hid (∀ i, (Value.slice a3 N c3).ownBlock = some i → w2.heap.size ≤ i) := fun i e => (blk ho3 i e).1
  have hs13 : w1.heap.size ≤ w3.heap.size := Nat.le_trans hs12 hb3.size
  clear hb3 ho3 HB2 HX2 HO2
  go_wp2_with fail
  refine (fill7_any w1.heap.size N c2 a2 C w3 HO3.out (by omega) hs13).mono ?_
  rintro e w9 ⟨rfl, hg9⟩
  have HX9 := hide (keep HX3.out hg9 (fun i j e e2 => by have h1 := (HK2.out _ e2).1; have h2 := HGL.out; have h3 := blk_eq e; omega))
  have HT9 := hide (keep HT3.out hg9 (fun i j e e2 => by have h1 := HK3.out i e; have h2 := (HK2.out j e2).2; omega))
  have HB9 := hide (HB3.out.grown hg9 HB3.out.size (fun i e => by have h1 := (HK2.out i e).1; omega))
  have hq : (((N : Int) + 64) != ((N : Int) + 64)) = false := by simp
  clear hg9 HX3 HT3 HB3 HO3
  go_wp2_with fail
  refine (ref_at b0 C E HCE.out _ len0 _ w9 (R0.out.below HB9.out) (by omega)).mono ?_
  rintro e w10 ⟨v10, rfl, ho10, hb10⟩
  obtain ⟨a10, c10, rfl⟩ := ho10.shape
  rw [HN.out] at ho10 ⊢
  have HB10 := hide (below_trans HB9.out hb10)
  have HX10 := hide (HX9.out.below hb10)
  have HT10 := hide (HT9.out.below hb10)
  have HW10 := hide ho10
  clear hb10 ho10 HB9 HX9 HT9
  go_wp2_with fail
  refine (same4_eq _ _ N _ N _ C w10 (Got.rd HT10.out (by have := HCL.out; omega)) (Got.rd HW10.out (by have := HCL.out; omega))).mono ?_
  rintro e w11 ⟨rfl, hb11⟩
  have HB11 := hide (below_trans HB10.out hb11)
  have HX11 := hide (HX10.out.below hb11)
  clear hb11 HB10 HX10 HT10 HW10
  go_wp2_with fail
  refine (roomy4_any a0 len0 cap0 b0 w11 (R0.out.below HB11.out) (by omega)).mono ?_
  rintro e w12 ⟨gr, rfl, hgr, hrow12, hb12⟩
  have HB12 := hide (below_trans HB11.out hb12)
  have HX12 := hide (HX11.out.below hb12)
  have HR12 := hide hrow12
  clear hb12 HB11 HX11 hrow12 hgr
  have HML : Hid ((b0 ++ marks8).length ≤ 140737488355328) := by show _ ≤ _; rw [List.length_append, marks8_len, HL0.out]; omega
  go_wp2_with fail
  refine (same4_eq _ _ (len0 + 64) _ (len0 + 64) _ (b0 ++ marks8) w12 (Got.rd HX12.out HML.out) (Got.rd HR12.out HML.out)).mono ?_
  rintro e w13 ⟨rfl, hb13⟩
  have HB13 := hide (below_trans HB12.out hb13)
  have HX13 := hide (HX12.out.below hb13)
  clear hb13 HB12 HX12 HR12
  go_wp2_with fail
  refine (backB_any _ gx len0 (len0 + 64) (len0 + 64) b0 marks8 w13 HX13.out HL0.out (by omega)).mono ?_
  rintro e w14 ⟨rfl, hrow14, hg14⟩
  have HX14 := hide hrow14
  have HB14 := hide (HB13.out.grown hg14 HB13.out.size (fun i h => by have := HGX.out; have := Option.some.inj h; omega))
  clear hrow14 hg14 HB13 HX13
  go_wp2_with fail
  refine (enc_at (bkB b0) C2 E2 HCE2.out _ len0 _ w14 (front HX14.out HKL.out (by omega)) (by omega)).mono ?_
  rintro e w15 ⟨v15, rfl, ho15, hb15⟩
  obtain ⟨a15, c15, rfl⟩ := ho15.shape
  rw [HN2.out] at ho15 ⊢
  have HB15 := hide (below_trans HB14.out hb15)
  have HO15 := hide ho15
  clear hb15 ho15 HB14 HX14
  go_wp2_with fail
  refine (roomy4_any a0 len0 cap0 b0 w15 (R0.out.below HB15.out) (by omega)).mono ?_
  rintro e w16 ⟨gr, rfl, hgr, hrow16, hb16⟩
  have HB16 := hide (below_trans HB15.out hb16)
  have HO16 := hide (HO15.out.below hb16)
  have HR16 := hide hrow16
  have HGR : Hid (w15.heap.size ≤ gr) := hgr
  have HO15B : Hid (∀ i, (Value.slice a15 N2 c15).ownBlock = some i → i < w15.heap.size) := fun i e => (blk HO15.out i e).2
  have hs15 := HB15.out.size
  clear hb16 hrow16 hgr HB15 HO15
  go_wp2_with fail
  refine (backB_any _ gr len0 (len0 + 64) (len0 + 64) b0 marks8 w16 HR16.out HL0.out (by omega)).mono ?_
  rintro e w17 ⟨rfl, hrow17, hg17⟩
  have HR17 := hide hrow17
  have HB17 := hide (HB16.out.grown hg17 HB16.out.size (fun i h => by have := HGR.out; have := Option.some.inj h; omega))
  have HO17 := hide (keep HO16.out hg17 (fun i j e1 e2 => by have := HO15B.out i e1; have := HGR.out; have := Option.some.inj e2; omega))
  clear hrow17 hg17 HB16 HO16 HR16
  go_wp2_with fail
  refine (ref_at (bkB b0) C2 E2 HCE2.out _ len0 _ w17 (front HR17.out HKL.out (by omega)) (by omega)).mono ?_
  rintro e w18 ⟨v18, rfl, ho18, hb18⟩
  obtain ⟨a18, c18, rfl⟩ := ho18.shape
  rw [HN2.out] at ho18 ⊢
  have HB18 := hide (below_trans HB17.out hb18)
  have HO18 := hide (HO17.out.below hb18)
  have HP18 := hide ho18
  clear hb18 ho18 HB17 HO17 HR17
  go_wp2_with fail
  refine (same4_eq _ _ N2 _ N2 _ C2 w18 (Got.rd HO18.out (by have := HCL2.out; omega)) (Got.rd HP18.out (by have := HCL2.out; omega))).mono ?_
  rintro e w19 ⟨rfl, hb19⟩
  have HB19 := hide (below_trans HB18.out hb19)
  clear hb19
  go_wp2_with fail
  go_ret
  exact ⟨rfl, HB19.out⟩
end Go.Proofs.Ytalnhhpcncjflaa.huffEncodes
