/-
  The walk of the statement HuffDecodes.
-/
import Derived.Test.YtjpmeecahckglaaHuffD7
import Derived.Test.YtjpmeecahckglaaHuffK4
import Derived.Test.YtjpmeecahckglaaHuffK5
import Derived.Deep.RegionHeld
import Derived.Deep.DeepCutAuto
namespace Go.Proofs.Ytjpmeecahckglaa.huffDecodes
open Go.ChangeShapes Go.WideShapes Go.ChangeAt Go.RowKit
open Go.Proofs.Ytjpmeecahckglaa.Base Go.Proofs.Ytjpmeecahckglaa.Huff
set_option linter.unusedVariables false
theorem front {w : World} {base g n c : Nat} {xs ys : List (BitVec 8)} {len : Nat} (h : Own w base (.slice (some ⟨g, 0, none⟩) n c) (xs ++ ys)) (hl : xs.length = len) (hm : len ≤ 140737488355328) : Rd w (some ⟨g, 0, none⟩) len xs := by
  have hn := h.len
  have h2 := h.cut len (by rw [hn, List.length_append]; omega)
  rw [List.take_append_of_le_length (by omega), List.take_of_length_le (by omega)] at h2
  exact h2.rd (by omega)
theorem dec_at (bs : List (BitVec 8)) (n : Int) (T : List (BitVec 8)) (E : Int) (h : decoded bs n = (T, E)) (a : Option Addr) (len cap : Nat) (w : World) (hr : Rd w a len bs) (hc : len ≤ cap) (hm : cap ≤ 9223372036854775807) :
    Calls Try.prog 7 #[.slice a len cap, .int .i64 n] w fun e w' => ∃ v, e = .returned (.tuple #[v, .int .i64 E]) ∧ Own w' w.heap.size v T ∧ Below w.heap.size w w' := by
  have := decode_any a len cap bs n w hr hc hm
  rw [h] at this
  exact this
theorem ref_at (bs : List (BitVec 8)) (n : Int) (T : List (BitVec 8)) (E : Int) (h : decoded bs n = (T, E)) (a : Option Addr) (len cap : Nat) (w : World) (hr : Rd w a len bs) (hc : len ≤ cap) :
    Calls Try.prog 9 #[.slice a len cap, .int .i64 n] w fun e w' => ∃ v, e = .returned (.tuple #[v, .int .i64 E]) ∧ Own w' w.heap.size v T ∧ Below w.heap.size w w' := by
  have := refDecode_any a len cap bs n w hr hc
  rw [h] at this
  exact this
theorem set_front (xs : List (BitVec 8)) (k : Nat) (c : BitVec 8) (h : k < xs.length) : (xs ++ marks8).set k c = xs.set k c ++ marks8 := List.set_append_left _ _ h
set_option maxHeartbeats 4000000 in
set_option maxRecDepth 100000 in
theorem walk (a0 : Option Addr) (len0 cap0 : Nat) (b0 : List (BitVec 8)) (n1 : Int) (w : World) (r0 : Rd w a0 len0 b0) (l0 : len0 ≤ cap0) (m0 : cap0 ≤ 140737488351232) (z0 : a0 = none → len0 = 0 ∧ cap0 = 0) (w1 : (Lit.int .i64 n1).wf = true) :
    Calls Try.prog 3 #[.slice a0 len0 cap0, .int .i64 n1] w fun e w' => e = .returned (.bool true) ∧ Below w.heap.size w w' := by
  have HL0 := hide r0.1
  have R0 := hide r0
  have h0i : (len0 : Int) ≤ 140737488351232 := by omega
  clear r0 w1 z0
  obtain ⟨C, E, hCE⟩ : ∃ C E, decoded b0 n1 = (C, E) := ⟨_, _, rfl⟩
  have HCE := hide hCE
  have HCL : Hid (C.length ≤ 65536) := by have := decoded_len b0 n1; rw [hCE] at this; exact this
  obtain ⟨N, hN⟩ : ∃ N, C.length = N := ⟨_, rfl⟩
  have HN := hide hN
  have hNb : N ≤ 65536 := by rw [← hN]; exact HCL.out
  have hNi : (N : Int) ≤ 65536 := by omega
  clear hCE hN
  have he : (E != E) = false := by simp
  go_enter Try.func3, Try.ntmps3
  go_wp2_with fail
  refine (roomy4_any a0 len0 cap0 b0 w R0.out (by omega)).mono ?_
  rintro e w1 ⟨gx, rfl, hgx, hrow1, hb1⟩
  have HX1 := hide hrow1
  have HB1 := hide hb1
  have HGX : Hid (w.heap.size ≤ gx) := hgx
  clear hrow1 hb1 hgx
  have hx4 : len0 ≤ len0 + 64 := by omega
  have hx5 : (len0 : Int) ≤ (len0 : Int) + 64 := by omega
  go_wp2_with fail
  refine (dec_at b0 n1 C E HCE.out _ len0 _ w1 (front HX1.out HL0.out (by omega)) (by omega) (by omega)).mono ?_
  rintro e w2 ⟨v2, rfl, ho2, hb2⟩
  obtain ⟨a2, c2, rfl⟩ := ho2.shape
  rw [HN.out] at ho2 ⊢
  have HB2 := hide (below_trans HB1.out hb2)
  have HX2 := hide (HX1.out.below hb2)
  have HO2 := hide ho2
  have HK2 : Hid (∀ i, (Value.slice a2 N c2).ownBlock = some i → w1.heap.size ≤ i ∧ i < w2.heap.size) := blk ho2
  have HGL : Hid (gx < w1.heap.size) := HX1.out.lt'.2
  have hs1 : w.heap.size ≤ w1.heap.size := HB1.out.size
  have hs12 : w1.heap.size ≤ w2.heap.size := hb2.size
  clear hb2 ho2 HB1 HX1
  go_wp2_with fail
  refine (dec_at b0 n1 C E HCE.out _ len0 _ w2 (front HX2.out HL0.out (by omega)) (by omega) (by omega)).mono ?_
  rintro e w3 ⟨v3, rfl, ho3, hb3⟩
  obtain ⟨a3, c3, rfl⟩ := ho3.shape
  rw [HN.out] at ho3 ⊢
  have HB3 := hide (below_trans HB2.out hb3)
  have HX3 := hide (HX2.out.below hb3)
  have HO3 := hide (HO2.out.below hb3)
  have HT3 := hide ho3
  have HK3 : Hid (∀ i, (Value.slice a3 N c3).ownBlock = some i → w2.heap.size ≤ i) := fun i e => (blk ho3 i e).1
  have hs13 : w1.heap.size ≤ w3.heap.size := Nat.le_trans hs12 hb3.size
  clear hb3 ho3 HB2 HX2 HO2
  go_wp2_with fail
  refine (fill7_any w1.heap.size N c2 a2 C w3 HO3.out (by omega) hs13).mono ?_
  rintro e w9 ⟨rfl, hg9⟩
  have HX9 := hide (keep HX3.out hg9 (fun i j e e2 => by have h1 := (HK2.out _ e2).1; have h2 := HGL.out; have h3 := blk_eq e; omega))
  have HT9 := hide (keep HT3.out hg9 (fun i j e e2 => by have h1 := HK3.out i e; have h2 := (HK2.out j e2).2; omega))
  have HB9 := hide (HB3.out.grown hg9 HB3.out.size (fun i e => by have h1 := (HK2.out i e).1; omega))
  have hq : (((N : Int) + 64) != ((N : Int) + 64)) = false := by simp
  clear hg9 HX3 HT3 HB3 HO3
  go_wp2_with fail
  refine (ref_at b0 n1 C E HCE.out _ len0 _ w9 (R0.out.below HB9.out) (by omega)).mono ?_
  rintro e w10 ⟨v10, rfl, ho10, hb10⟩
  obtain ⟨a10, c10, rfl⟩ := ho10.shape
  rw [HN.out] at ho10 ⊢
  have HB10 := hide (below_trans HB9.out hb10)
  have HX10 := hide (HX9.out.below hb10)
  have HT10 := hide (HT9.out.below hb10)
  have HW10 := hide ho10
  clear hb10 ho10 HB9 HX9 HT9
  go_wp2_with fail
  refine (same4_eq _ _ N _ N _ C w10 (Got.rd HT10.out (by have := HCL.out; omega)) (Got.rd HW10.out (by have := HCL.out; omega))).mono ?_
  rintro e w11 ⟨rfl, hb11⟩
  have HB11 := hide (below_trans HB10.out hb11)
  have HX11 := hide (HX10.out.below hb11)
  clear hb11 HB10 HX10 HT10 HW10
  go_wp2_with fail
  refine (roomy4_any a0 len0 cap0 b0 w11 (R0.out.below HB11.out) (by omega)).mono ?_
  rintro e w12 ⟨gr, rfl, hgr, hrow12, hb12⟩
  have HB12 := hide (below_trans HB11.out hb12)
  have HX12 := hide (HX11.out.below hb12)
  have HR12 := hide hrow12
  clear hb12 HB11 HX11 hrow12 hgr
  have HML : Hid ((b0 ++ marks8).length ≤ 140737488355328) := by show _ ≤ _; rw [List.length_append, marks8_len, HL0.out]; omega
  go_wp2_with fail
  refine (same4_eq _ _ (len0 + 64) _ (len0 + 64) _ (b0 ++ marks8) w12 (Got.rd HX12.out HML.out) (Got.rd HR12.out HML.out)).mono ?_
  rintro e w13 ⟨rfl, hb13⟩
  have HB13 := hide (below_trans HB12.out hb13)
  have HX13 := hide (HX12.out.below hb13)
  clear hb13 HB12 HX12 HR12
  go_wp2_with fail
  refine (roomy4_any a0 len0 cap0 b0 w13 (R0.out.below HB13.out) (by omega)).mono ?_
  rintro e w14 ⟨gr, rfl, hgr, hrow14, hb14⟩
  have HB14 := hide (below_trans HB13.out hb14)
  have HX14 := hide (HX13.out.below hb14)
  have HR14 := hide (hrow14.mono HB13.out.size)
  have HGR : Hid (w.heap.size ≤ gr) := Nat.le_trans HB13.out.size hgr
  have HNE : Hid (gx ≠ gr) := by have h1 := HX13.out.lt'.2; show _ ≠ _; omega
  clear hb14 HB13 HX13 hrow14 hgr
  by_cases hz : len0 = 0
  · subst hz
    have hz1 : ¬ (0 : Int) < 0 := by omega
    go_wp2_with fail
    obtain ⟨ys, hys⟩ : ∃ ys, b0 = ys := ⟨_, rfl⟩
    have HYL : Hid (ys.length = 0) := by show _ = _; rw [← hys]; exact HL0.out
    have HX16 : Hid (Own w14 w.heap.size (.slice (some ⟨gx, 0, none⟩) (0 + 64) (0 + 64)) (ys ++ marks8)) := by rw [← hys]; exact HX14.out
    have HR16 : Hid (Own w14 w.heap.size (.slice (some ⟨gr, 0, none⟩) (0 + 64) (0 + 64)) (ys ++ marks8)) := by rw [← hys]; exact HR14.out
    have HB16 := HB14
    clear hys HB14 HX14 HR14
    obtain ⟨C2, E2, hCE2⟩ : ∃ C E, decoded ys n1 = (C, E) := ⟨_, _, rfl⟩
    have HCE2 := hide hCE2
    have HCL2 : Hid (C2.length ≤ 65536) := by have := decoded_len ys n1; rw [hCE2] at this; exact this
    obtain ⟨N2, hN2⟩ : ∃ N, C2.length = N := ⟨_, rfl⟩
    have HN2 := hide hN2
    have hNb2 : N2 ≤ 65536 := by rw [← hN2]; exact HCL2.out
    have he2 : (E2 == E2) = true := by simp
    clear hCE2 hN2
    refine (dec_at ys n1 C2 E2 HCE2.out _ 0 _ w14 (front HX16.out HYL.out (by omega)) (by omega) (by omega)).mono ?_
    rintro e w17 ⟨v17, rfl, ho17, hb17⟩
    obtain ⟨a17, c17, rfl⟩ := ho17.shape
    rw [HN2.out] at ho17 ⊢
    have HB17 := hide (below_trans HB16.out hb17)
    have HR17 := hide (HR16.out.below hb17)
    have HO17 := hide ho17
    clear hb17 ho17 HB16 HX16 HR16
    go_wp2_with fail
    refine (ref_at ys n1 C2 E2 HCE2.out _ 0 _ w17 (front HR17.out HYL.out (by omega)) (by omega)).mono ?_
    rintro e w18 ⟨v18, rfl, ho18, hb18⟩
    obtain ⟨a18, c18, rfl⟩ := ho18.shape
    rw [HN2.out] at ho18 ⊢
    have HB18 := hide (below_trans HB17.out hb18)
    have HO18 := hide (HO17.out.below hb18)
    have HP18 := hide ho18
    clear hb18 ho18 HB17 HR17 HO17
    go_wp2_with fail
    refine (same4_eq _ _ N2 _ N2 _ C2 w18 (Got.rd HO18.out (by have := HCL2.out; omega)) (Got.rd HP18.out (by have := HCL2.out; omega))).mono ?_
    rintro e w19 ⟨rfl, hb19⟩
    have HB19 := hide (below_trans HB18.out hb19)
    clear hb19
    go_wp2_with fail
    go_ret
    exact ⟨rfl, HB19.out⟩
  · obtain ⟨m, hm⟩ : ∃ m, len0 = m + 1 := ⟨len0 - 1, by omega⟩
    subst hm
    have hm1 : ((m + 1 : Nat) : Int) - 1 = (m : Int) := by omega
    have hm2 : (m : Int) < ((m + 1 : Nat) : Int) := by omega
    have hm3 : (0 : Int) < ((m + 1 : Nat) : Int) := by omega
    have hm4 : (m : Int) < ((m + 1 + 64 : Nat) : Int) := by omega
    obtain ⟨d, hd⟩ : ∃ d, b0.getD m 0 = d := ⟨_, rfl⟩
    have hg : (b0 ++ marks8).getD m 0 = d := by rw [marked_in b0 m (by rw [HL0.out]; omega), hd]
    have c1 := HX14.out.cell m (by omega)
    rw [hg] at c1
    have f1 := HX14.out.frozen m
    have hdd : ((d + 1).toNat : Int) = ((d.toNat : Int) + 1) % 256 := by rw [BitVec.toNat_add]; simp
    have HS1 := hide (HX14.out.store m (d + 1))
    rw [set_front b0 m _ (by rw [HL0.out]; omega)] at HS1
    have HR15 := hide (keep HR14.out HS1.out.2 (fun i j e e2 => by have h1 := blk_eq e; have h2 := Option.some.inj e2; have := HNE.out; omega))
    have HB15 := hide (grown_below HB14.out HS1.out.2 HGX.out)
    have c2 := HR15.out.cell m (by omega)
    rw [hg] at c2
    have f2 := HR15.out.frozen m
    have HS2 := hide (HR15.out.store m (d + 1))
    rw [set_front b0 m _ (by rw [HL0.out]; omega)] at HS2
    have HX16 := hide (keep HS1.out.1 HS2.out.2 (fun i j e e2 => by have h1 := blk_eq e; have h2 := Option.some.inj e2; have := HNE.out; omega))
    have HB16 := hide (grown_below HB15.out HS2.out.2 HGR.out)
    have HR16 := hide HS2.out.1
    have HYL : Hid ((b0.set m (d + 1)).length = m + 1) := by show _ = _; rw [List.length_set]; exact HL0.out
    generalize b0.set m (d + 1) = ys at HS1 HS2 HX16 HR16 HYL
    simp only [hdd] at HX16 HB16 HR16 c2 f2
    clear HS1 HS2 HR15 HB15 hd hg hdd HB14 HX14 HR14
    go_wp2_with fail
    obtain ⟨w16, hw16⟩ : ∃ w16, (w14.setCell ⟨gx, m, none⟩ (.int .u8 (((d.toNat : Int) + 1) % 256))).setCell ⟨gr, m, none⟩ (.int .u8 (((d.toNat : Int) + 1) % 256)) = w16 := ⟨_, rfl⟩
    rw [hw16] at HX16 HB16 HR16 ⊢
    clear hw16
    obtain ⟨C2, E2, hCE2⟩ : ∃ C E, decoded ys n1 = (C, E) := ⟨_, _, rfl⟩
    have HCE2 := hide hCE2
    have HCL2 : Hid (C2.length ≤ 65536) := by have := decoded_len ys n1; rw [hCE2] at this; exact this
    obtain ⟨N2, hN2⟩ : ∃ N, C2.length = N := ⟨_, rfl⟩
    have HN2 := hide hN2
    have hNb2 : N2 ≤ 65536 := by rw [← hN2]; exact HCL2.out
    have he2 : (E2 == E2) = true := by simp
    clear hCE2 hN2
    refine (dec_at ys n1 C2 E2 HCE2.out _ (m + 1) _ w16 (front HX16.out HYL.out (by omega)) (by omega) (by omega)).mono ?_
    rintro e w17 ⟨v17, rfl, ho17, hb17⟩
    obtain ⟨a17, c17, rfl⟩ := ho17.shape
    rw [HN2.out] at ho17 ⊢
    have HB17 := hide (below_trans HB16.out hb17)
    have HR17 := hide (HR16.out.below hb17)
    have HO17 := hide ho17
    clear hb17 ho17 HB16 HX16 HR16
    go_wp2_with fail
    refine (ref_at ys n1 C2 E2 HCE2.out _ (m + 1) _ w17 (front HR17.out HYL.out (by omega)) (by omega)).mono ?_
    rintro e w18 ⟨v18, rfl, ho18, hb18⟩
    obtain ⟨a18, c18, rfl⟩ := ho18.shape
    rw [HN2.out] at ho18 ⊢
    have HB18 := hide (below_trans HB17.out hb18)
    have HO18 := hide (HO17.out.below hb18)
    have HP18 := hide ho18
    clear hb18 ho18 HB17 HR17 HO17
    go_wp2_with fail
    refine (same4_eq _ _ N2 _ N2 _ C2 w18 (Got.rd HO18.out (by have := HCL2.out; omega)) (Got.rd HP18.out (by have := HCL2.out; omega))).mono ?_
    rintro e w19 ⟨rfl, hb19⟩
    have HB19 := hide (below_trans HB18.out hb19)
    clear hb19
    go_wp2_with fail
    go_ret
    exact ⟨rfl, HB19.out⟩
end Go.Proofs.Ytjpmeecahckglaa.huffDecodes
