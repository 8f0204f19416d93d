/-
  The walk of the statement LzDecodes.
-/
import Derived.Test.YtcchknpgkcmneaaLzO3
namespace Go.Proofs.Ytcchknpgkcmneaa.lzDecodes
open Go.ChangeShapes Go.WideShapes Go.ChangeAt Go.RowKit
open Go.Proofs.Ytcchknpgkcmneaa.Base Go.Proofs.Ytcchknpgkcmneaa.Nums Go.Proofs.Ytcchknpgkcmneaa.Lz
set_option linter.unusedVariables false
theorem rd_room {w : World} {base g len c : Nat} {bs : List (BitVec 8)} (h : Own w base (.slice (some ⟨g, 0, none⟩) (len + 4) c) (bs ++ marks)) (hl : bs.length = len) (hm : len ≤ 140737488351232) : Rd w (some ⟨g, 0, none⟩) (len + 4) (bs ++ marks) :=
  Got.rd h (by rw [List.length_append, hl]; show len + 4 ≤ _; omega)
theorem own_front {w : World} {base g len c : Nat} {bs : List (BitVec 8)} (h : Own w base (.slice (some ⟨g, 0, none⟩) (len + 4) c) (bs ++ marks)) (hl : bs.length = len) : Own w base (.slice (some ⟨g, 0, none⟩) len c) bs := by
  have h := h.cut len (by omega)
  rw [List.take_append_of_le_length (by rw [hl]; exact Nat.le_refl _), List.take_of_length_le (by rw [hl]; exact Nat.le_refl _)] at h
  exact h
set_option maxHeartbeats 4000000 in
set_option maxRecDepth 100000 in
theorem walk (a : Option Addr) (len cap : Nat) (bs : List (BitVec 8)) (n : Int) (w : World) (r0 : Rd w a len bs) (l0 : len ≤ cap) (m0 : cap ≤ 140737488351232) (z0 : a = none → len = 0 ∧ cap = 0) :
    Calls Try.prog 5 #[.slice a len cap, .int .i64 n] w fun e w' => e = .returned (.bool true) ∧ Below w.heap.size w w' := by
  have R0 := hide r0
  have HZ := hide z0
  have HL := hide r0.1
  have hlen : len ≤ 140737488351232 := by omega
  have hcm : cap ≤ 9223372036854775807 := by omega
  obtain ⟨D, DE, hD, hD0, hDl⟩ := named_dec bs n
  obtain ⟨T, TE, hT, hT0, hTl, hTt⟩ := named_tok bs n
  obtain ⟨N, hN⟩ : ∃ N, D.length = N := ⟨_, rfl⟩
  obtain ⟨NT, hNT⟩ : ∃ N, T.length = N := ⟨_, rfl⟩
  have HD := hide hD
  have HD0 := hide hD0
  have HT := hide hT
  have HT0 := hide hT0
  have HN := hide hN
  have HNT := hide hNT
  have HDL := hide hDl
  have HTL := hide hTl
  have HTT := hide hTt
  have hNb : N ≤ 65536 := by omega
  have hNTb : NT ≤ 65536 := by omega
  have hNi : (N : Int) ≤ 65536 := by omega
  have hNTi : (NT : Int) ≤ 65536 := by omega
  have hee : (DE == DE) = true := by simp
  have hff : (TE == TE) = true := by simp
  clear r0 z0 hD hT hD0 hT0 hN hNT hDl hTl hTt
  go_enter Try.func5, Try.ntmps5
  go_wp2_with fail
  refine (rdec_at a len cap bs n D DE N w HN.out HD.out HD0.out R0.out l0 hcm HZ.out).mono ?_
  rintro e u1 ⟨wa, wc, rfl, ho, hb⟩
  have OW_1 := hide ho
  have L_OW : Hid (∀ i, (Value.slice wa N wc).ownBlock = some i → i < u1.heap.size) := fun i e => (blk ho i e).2
  clear ho
  have SZ_1 : Hid (w.heap.size ≤ u1.heap.size) := (hb).size
  have HB_1 := hide hb
  clear hb
  go_wp2_with fail
  refine (rtok_at a len cap bs n T TE NT u1 HNT.out HT.out HT0.out (R0.out.below HB_1.out) l0 hcm HZ.out).mono ?_
  rintro e u2 ⟨ta, tc, rps, rfl, ho, hp, hb⟩
  have RT_2 := hide ho
  have L_RT := hide ho.top
  clear ho
  have OW_2 := hide (OW_1.out.below hb)
  have SZ_2 : Hid (u1.heap.size ≤ u2.heap.size) := (hb).size
  have HB_2 := hide (below_trans HB_1.out hb)
  clear OW_1 HB_1 hb
  have HRP := hide hp
  clear hp
  go_wp2_with fail
  refine (roomy_any a len cap bs u2 (R0.out.below HB_2.out) HZ.out hlen).mono ?_
  rintro e u3 ⟨gx, cx, rfl, hgx, ho, hb⟩
  have OX_3 := hide ho
  have L_OX : Hid (∀ i, (Value.slice (some ⟨gx, 0, none⟩) (len + 4) cx).ownBlock = some i → i < u3.heap.size) := fun i e => (blk ho i e).2
  clear ho
  have OW_3 := hide (OW_2.out.below hb)
  have RT_3 := hide (RT_2.out.below hb)
  have SZ_3 : Hid (u2.heap.size ≤ u3.heap.size) := (hb).size
  have HB_3 := hide (below_trans HB_2.out hb)
  clear OW_2 RT_2 HB_2 hb
  have HCX : Hid (len + 4 ≤ cx ∧ cx ≤ 9223372036854775807) := ⟨OX_3.out.cap, OX_3.out.room⟩
  have hcx1 : len ≤ cx := by have := HCX.out.1; omega
  clear hgx
  go_wp2_with fail
  refine (dec_at (some ⟨gx, 0, none⟩) len cx bs n D DE N u3 HN.out HD.out HD0.out (rd_front (rd_room OX_3.out HL.out hlen)) hcx1 HCX.out.2).mono ?_
  rintro e u4 ⟨ya, yc, rfl, ho, hb⟩
  have OT_4 := hide ho
  have L_OT : Hid (∀ i, (Value.slice ya N yc).ownBlock = some i → i < u4.heap.size) := fun i e => (blk ho i e).2
  clear ho
  have OW_4 := hide (OW_3.out.below hb)
  have RT_4 := hide (RT_3.out.below hb)
  have OX_4 := hide (OX_3.out.below hb)
  have SZ_4 : Hid (u3.heap.size ≤ u4.heap.size) := (hb).size
  have HB_4 := hide (below_trans HB_3.out hb)
  clear OW_3 RT_3 OX_3 HB_3 hb
  go_wp2_with fail
  refine (dec_at (some ⟨gx, 0, none⟩) len cx bs n D DE N u4 HN.out HD.out HD0.out (rd_front (rd_room OX_4.out HL.out hlen)) hcx1 HCX.out.2).mono ?_
  rintro e u5 ⟨va, vc, rfl, ho, hb⟩
  have OU_5 := hide ho
  have L_OU : Hid (∀ i, (Value.slice va N vc).ownBlock = some i → i < u5.heap.size) := fun i e => (blk ho i e).2
  clear ho
  have OW_5 := hide (OW_4.out.below hb)
  have RT_5 := hide (RT_4.out.below hb)
  have OX_5 := hide (OX_4.out.below hb)
  have OT_5 := hide (OT_4.out.below hb)
  have SZ_5 : Hid (u4.heap.size ≤ u5.heap.size) := (hb).size
  have HB_5 := hide (below_trans HB_4.out hb)
  clear OW_4 RT_4 OX_4 OT_4 HB_4 hb
  go_wp2_with fail
  refine (tok_at (some ⟨gx, 0, none⟩) len cx bs n T TE NT u5 HNT.out HT.out HT0.out (rd_front (rd_room OX_5.out HL.out hlen)) hcx1 HCX.out.2).mono ?_
  rintro e u6 ⟨la, lc, lps, rfl, ho, hp, hb⟩
  have KL_6 := hide ho
  have L_KL := hide ho.top
  clear ho
  have OW_6 := hide (OW_5.out.below hb)
  have RT_6 := hide (RT_5.out.below hb)
  have OX_6 := hide (OX_5.out.below hb)
  have OT_6 := hide (OT_5.out.below hb)
  have OU_6 := hide (OU_5.out.below hb)
  have SZ_6 : Hid (u5.heap.size ≤ u6.heap.size) := (hb).size
  have HB_6 := hide (below_trans HB_5.out hb)
  clear OW_5 RT_5 OX_5 OT_5 OU_5 HB_5 hb
  have HLP := hide hp
  clear hp
  go_wp2_with fail
  refine (tok_at (some ⟨gx, 0, none⟩) len cx bs n T TE NT u6 HNT.out HT.out HT0.out (rd_front (rd_room OX_6.out HL.out hlen)) hcx1 HCX.out.2).mono ?_
  rintro e u7 ⟨ma, mc, mps, rfl, ho, hp, hb⟩
  have KM_7 := hide ho
  have L_KM := hide ho.top
  clear ho
  have OW_7 := hide (OW_6.out.below hb)
  have RT_7 := hide (RT_6.out.below hb)
  have OX_7 := hide (OX_6.out.below hb)
  have OT_7 := hide (OT_6.out.below hb)
  have OU_7 := hide (OU_6.out.below hb)
  have KL_7 := hide (KL_6.out.below hb)
  have SZ_7 : Hid (u6.heap.size ≤ u7.heap.size) := (hb).size
  have HB_7 := hide (below_trans HB_6.out hb)
  clear OW_6 RT_6 OX_6 OT_6 OU_6 KL_6 HB_6 hb
  have HMP := hide hp
  clear hp
  go_wp2_with fail
  have hba : Below u7.heap.size u7 (u7.alloc (.cells #[.int .u8 1, .int .u8 97, .int .u8 1, .int .u8 1] 5)) := (Below.refl _ _).alloc (Nat.le_refl _) _
  refine (decode_any _ 4 4 [1, 97, 1, 1] 6 _ (rd_new u7 [1, 97, 1, 1] (0, 0) (by simp)) (by omega) (by omega)).mono ?_
  rintro e u8 ⟨v8, rfl, _, hb8⟩
  have hb := below_trans hba hb8
  clear hba hb8
  have OW_8 := hide (OW_7.out.below hb)
  have RT_8 := hide (RT_7.out.below hb)
  have OX_8 := hide (OX_7.out.below hb)
  have OT_8 := hide (OT_7.out.below hb)
  have OU_8 := hide (OU_7.out.below hb)
  have KL_8 := hide (KL_7.out.below hb)
  have KM_8 := hide (KM_7.out.below hb)
  have SZ_8 : Hid (u7.heap.size ≤ u8.heap.size) := (hb).size
  have HB_8 := hide (below_trans HB_7.out hb)
  clear OW_7 RT_7 OX_7 OT_7 OU_7 KL_7 KM_7 HB_7 hb
  generalize ((decoded [1, 97, 1, 1] 6).2 : Int) = z8
  go_wp2_with fail
  have hba : Below u8.heap.size u8 (u8.alloc (.cells #[.int .u8 1, .int .u8 97, .int .u8 1, .int .u8 1] 5)) := (Below.refl _ _).alloc (Nat.le_refl _) _
  refine (tokens_any _ 4 4 [1, 97, 1, 1] 6 _ (rd_new u8 [1, 97, 1, 1] (0, 0) (by simp)) (by omega) (by omega)).mono ?_
  rintro e u9 ⟨v9, ps9, rfl, _, _, hb8⟩
  have hb := below_trans hba hb8
  clear hba hb8
  have OW_9 := hide (OW_8.out.below hb)
  have RT_9 := hide (RT_8.out.below hb)
  have OX_9 := hide (OX_8.out.below hb)
  have OT_9 := hide (OT_8.out.below hb)
  have OU_9 := hide (OU_8.out.below hb)
  have KL_9 := hide (KL_8.out.below hb)
  have KM_9 := hide (KM_8.out.below hb)
  have SZ_9 : Hid (u8.heap.size ≤ u9.heap.size) := (hb).size
  have HB_9 := hide (below_trans HB_8.out hb)
  clear OW_8 RT_8 OX_8 OT_8 OU_8 KL_8 KM_8 HB_8 hb
  generalize ((toked [1, 97, 1, 1] 6).2 : Int) = z9
  go_wp2_with fail
  refine (sameBytes_eq _ _ _ _ _ _ D _ (Got.rd OT_9.out (by have := HDL.out; omega)) (Got.rd OW_9.out (by have := HDL.out; omega))).mono ?_
  rintro e u10 ⟨rfl, hb⟩
  have OW_10 := hide (OW_9.out.below hb)
  have RT_10 := hide (RT_9.out.below hb)
  have OX_10 := hide (OX_9.out.below hb)
  have OT_10 := hide (OT_9.out.below hb)
  have OU_10 := hide (OU_9.out.below hb)
  have KL_10 := hide (KL_9.out.below hb)
  have KM_10 := hide (KM_9.out.below hb)
  have SZ_10 : Hid (u9.heap.size ≤ u10.heap.size) := (hb).size
  have HB_10 := hide (below_trans HB_9.out hb)
  clear OW_9 RT_9 OX_9 OT_9 OU_9 KL_9 KM_9 HB_9 hb
  go_wp2_with fail
  refine (sameBytes_eq _ _ _ _ _ _ D _ (Got.rd OU_10.out (by have := HDL.out; omega)) (Got.rd OW_10.out (by have := HDL.out; omega))).mono ?_
  rintro e u11 ⟨rfl, hb⟩
  have OW_11 := hide (OW_10.out.below hb)
  have RT_11 := hide (RT_10.out.below hb)
  have OX_11 := hide (OX_10.out.below hb)
  have OT_11 := hide (OT_10.out.below hb)
  have OU_11 := hide (OU_10.out.below hb)
  have KL_11 := hide (KL_10.out.below hb)
  have KM_11 := hide (KM_10.out.below hb)
  have SZ_11 : Hid (u10.heap.size ≤ u11.heap.size) := (hb).size
  have HB_11 := hide (below_trans HB_10.out hb)
  clear OW_10 RT_10 OX_10 OT_10 OU_10 KL_10 KM_10 HB_10 hb
  go_wp2_with fail
  refine (same_eq _ _ _ _ _ T _ (otoks_trd KL_11.out HLP.out HTL.out HTT.out) (rtoks_trd RT_11.out HRP.out HTL.out HTT.out) (by omega)).mono ?_
  rintro e u12 ⟨rfl, hb⟩
  have OW_12 := hide (OW_11.out.below hb)
  have RT_12 := hide (RT_11.out.below hb)
  have OX_12 := hide (OX_11.out.below hb)
  have OT_12 := hide (OT_11.out.below hb)
  have OU_12 := hide (OU_11.out.below hb)
  have KL_12 := hide (KL_11.out.below hb)
  have KM_12 := hide (KM_11.out.below hb)
  have SZ_12 : Hid (u11.heap.size ≤ u12.heap.size) := (hb).size
  have HB_12 := hide (below_trans HB_11.out hb)
  clear OW_11 RT_11 OX_11 OT_11 OU_11 KL_11 KM_11 HB_11 hb
  go_wp2_with fail
  refine (same_eq _ _ _ _ _ T _ (otoks_trd KM_12.out HMP.out HTL.out HTT.out) (rtoks_trd RT_12.out HRP.out HTL.out HTT.out) (by omega)).mono ?_
  rintro e u13 ⟨rfl, hb⟩
  have OW_13 := hide (OW_12.out.below hb)
  have RT_13 := hide (RT_12.out.below hb)
  have OX_13 := hide (OX_12.out.below hb)
  have OT_13 := hide (OT_12.out.below hb)
  have OU_13 := hide (OU_12.out.below hb)
  have KL_13 := hide (KL_12.out.below hb)
  have KM_13 := hide (KM_12.out.below hb)
  have SZ_13 : Hid (u12.heap.size ≤ u13.heap.size) := (hb).size
  have HB_13 := hide (below_trans HB_12.out hb)
  clear OW_12 RT_12 OX_12 OT_12 OU_12 KL_12 KM_12 HB_12 hb
  go_wp2_with fail
  refine (spoilt_any u5.heap.size NT lc la lps u13 KL_13.out (fun p hp => HTT.out p.2 (by rw [← HLP.out]; exact List.mem_map_of_mem hp)) (by have h1 := HTL.out; rw [← HLP.out, List.length_map] at h1; exact h1) (by have c6 := SZ_6.out; have c7 := SZ_7.out; have c8 := SZ_8.out; have c9 := SZ_9.out; have c10 := SZ_10.out; have c11 := SZ_11.out; have c12 := SZ_12.out; have c13 := SZ_13.out; omega) u6.heap.size L_KL.out.1 L_KL.out.2).mono ?_
  rintro e u14 ⟨sm, rfl, hsm, ⟨F, hsp⟩, hot⟩
  have HLN : Hid (lps.length = NT) := by show _ = _; rw [← HNT.out, ← HLP.out, List.length_map]
  have HROW : Hid (u14.ownsRow u5.heap.size 61 3 (.slice la NT lc) NT (cellsOf lps)) := by have h1 := hsp.row; rw [HLN.out] at h1; exact h1
  clear hsp
  have OW_14 := hide (own_out hot OW_13.out L_OW.out (.inl (by have c2 := SZ_2.out; have c3 := SZ_3.out; have c4 := SZ_4.out; have c5 := SZ_5.out; omega)))
  have RT_14 := hide (rtoks_out hot RT_13.out L_RT.out.1 L_RT.out.2 (.inl (by have c3 := SZ_3.out; have c4 := SZ_4.out; have c5 := SZ_5.out; omega)))
  have OX_14 := hide (own_out hot OX_13.out L_OX.out (.inl (by have c4 := SZ_4.out; have c5 := SZ_5.out; omega)))
  have OT_14 := hide (own_out hot OT_13.out L_OT.out (.inl (by have c5 := SZ_5.out; omega)))
  have OU_14 := hide (own_out hot OU_13.out L_OU.out (.inl (by  omega)))
  have KM_14 := hide (otoks_out hot KM_13.out L_KM.out.1 L_KM.out.2 (.inr (by  omega)))
  have SZ_14 : Hid (u13.heap.size ≤ u14.heap.size) := (hot).size
  have HB_14 := hide (Out.below HB_13.out hot (by have c1 := SZ_1.out; have c2 := SZ_2.out; have c3 := SZ_3.out; have c4 := SZ_4.out; have c5 := SZ_5.out; omega) (by have c1 := SZ_1.out; have c2 := SZ_2.out; have c3 := SZ_3.out; have c4 := SZ_4.out; have c5 := SZ_5.out; have c6 := SZ_6.out; have c7 := SZ_7.out; have c8 := SZ_8.out; have c9 := SZ_9.out; have c10 := SZ_10.out; have c11 := SZ_11.out; have c12 := SZ_12.out; have c13 := SZ_13.out; omega))
  clear OW_13 RT_13 OX_13 OT_13 OU_13 KL_13 KM_13 HB_13 hot
  go_wp2_with fail
  refine (full_any u3.heap.size N yc ya D u14 OT_14.out (by omega) (by have c4 := SZ_4.out; have c5 := SZ_5.out; have c6 := SZ_6.out; have c7 := SZ_7.out; have c8 := SZ_8.out; have c9 := SZ_9.out; have c10 := SZ_10.out; have c11 := SZ_11.out; have c12 := SZ_12.out; have c13 := SZ_13.out; have c14 := SZ_14.out; omega)).mono ?_
  rintro e u15 ⟨rfl, hg⟩
  have hlt := L_OT.out
  have hot : Out u3.heap.size u4.heap.size u14 u15 := Out.of_grown hg (fun i e _ => ⟨(blk OT_14.out i e).1, hlt i e⟩)
  clear hlt hg
  have HROW15 := hide (row_out hot HROW.out L_KL.out.1 (.inr (by have c5 := SZ_5.out; omega)))
  clear HROW
  have OW_15 := hide (own_out hot OW_14.out L_OW.out (.inl (by have c2 := SZ_2.out; have c3 := SZ_3.out; omega)))
  have RT_15 := hide (rtoks_out hot RT_14.out L_RT.out.1 L_RT.out.2 (.inl (by have c3 := SZ_3.out; omega)))
  have OX_15 := hide (own_out hot OX_14.out L_OX.out (.inl (by  omega)))
  have OU_15 := hide (own_out hot OU_14.out L_OU.out (.inr (by  omega)))
  have KM_15 := hide (otoks_out hot KM_14.out L_KM.out.1 L_KM.out.2 (.inr (by have c5 := SZ_5.out; have c6 := SZ_6.out; omega)))
  have SZ_15 : Hid (u14.heap.size ≤ u15.heap.size) := (hot).size
  have HB_15 := hide (Out.below HB_14.out hot (by have c1 := SZ_1.out; have c2 := SZ_2.out; have c3 := SZ_3.out; omega) (by have c1 := SZ_1.out; have c2 := SZ_2.out; have c3 := SZ_3.out; have c4 := SZ_4.out; have c5 := SZ_5.out; have c6 := SZ_6.out; have c7 := SZ_7.out; have c8 := SZ_8.out; have c9 := SZ_9.out; have c10 := SZ_10.out; have c11 := SZ_11.out; have c12 := SZ_12.out; have c13 := SZ_13.out; have c14 := SZ_14.out; omega))
  clear OW_14 RT_14 OX_14 OT_14 OU_14 KM_14 HB_14 hot
  have HTI : Hid (TIn u15 u15 u5.heap.size u6.heap.size (.slice la NT lc) NT) := ⟨⟨_, HROW15.out⟩, fun i e => .inl (L_KL.out.1 i e), Out.refl _ _ _⟩
  clear HROW15
  go_wp2_with fail
  go_loopw [21] (fun s1 wr => ∃ k : Nat, k ≤ NT ∧ s1 = .int .i64 (k : Int) ∧ Hid (TIn u15 wr u5.heap.size u6.heap.size (.slice la NT lc) NT)) (fun s1 _ => NT - (intOf s1).toNat)
  case atStart => exact ⟨0, Nat.zero_le _, rfl, HTI⟩
  case round =>
    clear HTI
    obtain ⟨k, hk, rfl, HTI⟩ := hrel
    by_cases hlt : (k : Int) < (NT : Int)
    · obtain ⟨g, rfl⟩ := HTI.out.some' (by omega)
      obtain ⟨⟨x0, hx0⟩, hf0⟩ := HTI.out.cell (k * 3) (by omega)
      obtain ⟨⟨x1, hx1⟩, hf1⟩ := HTI.out.cell (k * 3 + 1) (by omega)
      obtain ⟨⟨x2, hx2⟩, hf2⟩ := HTI.out.cell (k * 3 + 2) (by omega)
      go_wp2_with fail
      go_roundw
      case measure => simp [intOf]; omega
      case rel => exact ⟨k + 1, by omega, by go_num, ((HTI.out.set _ _).set _ _).set _ _⟩
    · obtain rfl : NT = k := by omega
      clear hk
      go_wp2_with fail
      clear hlt
      go_loopw [14, 22] (fun v s2 wz => ∃ (j : Nat) (xa : Option Addr) (xc : Nat), j ≤ 64 ∧ s2 = .int .i64 (j : Int) ∧ v = .slice xa (NT + j) xc ∧ Hid (TIn u15 wz u5.heap.size u6.heap.size (.slice xa (NT + j) xc) (NT + j))) (fun _ s2 _ => 64 - (intOf s2).toNat)
      case atStart => exact ⟨0, la, lc, Nat.zero_le _, rfl, rfl, HTI⟩
      case round =>
        clear HTI
        obtain ⟨j, xa, xc, hj, rfl, rfl, HTI⟩ := hrel
        by_cases hj2 : (j : Int) < 64
        · have HTA := hide (HTI.out.alloc (.cells #[.slice none 0 0, .int .i64 (-2), .int .i64 0] 61))
          have HWS : Hid (u5.heap.size ≤ wr.heap.size) := by show _ ≤ _; have h9 := HTI.out.out.size; have c6 := SZ_6.out; have c7 := SZ_7.out; have c8 := SZ_8.out; have c9 := SZ_9.out; have c10 := SZ_10.out; have c11 := SZ_11.out; have c12 := SZ_12.out; have c13 := SZ_13.out; have c14 := SZ_14.out; have c15 := SZ_15.out; omega
          go_wp2_with (at_builtin; refine pushTok u15 _ rfl _ _ rfl u5.heap.size u6.heap.size _ (NT + j) rfl HTA.out ⟨wr.heap.size, 0, none⟩ 1 [.slice none 0 0, .int .i64 (-2), .int .i64 0] rfl rfl (news_tok wr _ _ _) (one_tok _ _ _ _ _) (by omega) (by simp; have := HWS.out; omega) ?_
                       intro g9 c9 w9 hti
                       have HTI9 := hide hti
                       clear hti)
          go_roundw
          case measure => simp [intOf]; omega
          case rel => exact ⟨j + 1, _, c9, by omega, by go_num, rfl, HTI9⟩
        · obtain rfl : j = 64 := by omega
          clear hj hj2
          have hot := HTI.out.out
          clear HTI
          have OW_16 := hide (own_out hot OW_15.out L_OW.out (.inl (by have c2 := SZ_2.out; have c3 := SZ_3.out; have c4 := SZ_4.out; have c5 := SZ_5.out; omega)))
          have RT_16 := hide (rtoks_out hot RT_15.out L_RT.out.1 L_RT.out.2 (.inl (by have c3 := SZ_3.out; have c4 := SZ_4.out; have c5 := SZ_5.out; omega)))
          have OX_16 := hide (own_out hot OX_15.out L_OX.out (.inl (by have c4 := SZ_4.out; have c5 := SZ_5.out; omega)))
          have OU_16 := hide (own_out hot OU_15.out L_OU.out (.inl (by  omega)))
          have KM_16 := hide (otoks_out hot KM_15.out L_KM.out.1 L_KM.out.2 (.inr (by  omega)))
          have SZ_16 : Hid (u15.heap.size ≤ wr.heap.size) := hot.size
          have HB_16 := hide (Out.below HB_15.out hot (by have c1 := SZ_1.out; have c2 := SZ_2.out; have c3 := SZ_3.out; have c4 := SZ_4.out; have c5 := SZ_5.out; omega) (by have c1 := SZ_1.out; have c2 := SZ_2.out; have c3 := SZ_3.out; have c4 := SZ_4.out; have c5 := SZ_5.out; have c6 := SZ_6.out; have c7 := SZ_7.out; have c8 := SZ_8.out; have c9 := SZ_9.out; have c10 := SZ_10.out; have c11 := SZ_11.out; have c12 := SZ_12.out; have c13 := SZ_13.out; have c14 := SZ_14.out; have c15 := SZ_15.out; omega))
          clear OW_15 RT_15 OX_15 OU_15 KM_15 HB_15 hot
          go_wp2_with fail
          refine (dec_at (some ⟨gx, 0, none⟩) len cx bs n D DE N wr HN.out HD.out HD0.out (rd_front (rd_room OX_16.out HL.out hlen)) hcx1 HCX.out.2).mono ?_
          rintro e u17 ⟨aa, ac, rfl, ho, hb⟩
          have OA_17 := hide ho
          have L_OA : Hid (∀ i, (Value.slice aa N ac).ownBlock = some i → i < u17.heap.size) := fun i e => (blk ho i e).2
          clear ho
          have OW_17 := hide (OW_16.out.below hb)
          have RT_17 := hide (RT_16.out.below hb)
          have OX_17 := hide (OX_16.out.below hb)
          have OU_17 := hide (OU_16.out.below hb)
          have KM_17 := hide (KM_16.out.below hb)
          have SZ_17 : Hid (wr.heap.size ≤ u17.heap.size) := (hb).size
          have HB_17 := hide (below_trans HB_16.out hb)
          clear OW_16 RT_16 OX_16 OU_16 KM_16 HB_16 hb
          have hq1 : ((N : Int) + 64 == (N : Int) + 64) = true := by simp
          have hq2 : ((NT : Int) + 64 == (NT : Int) + 64) = true := by simp
          have hsm2 : decide ((0 : Int) ≤ sm) = true := by simp; omega
          go_wp2_with fail
          refine (same_eq _ _ _ _ _ T _ (otoks_trd KM_17.out HMP.out HTL.out HTT.out) (rtoks_trd RT_17.out HRP.out HTL.out HTT.out) (by omega)).mono ?_
          rintro e u18 ⟨rfl, hb⟩
          have OW_18 := hide (OW_17.out.below hb)
          have RT_18 := hide (RT_17.out.below hb)
          have OX_18 := hide (OX_17.out.below hb)
          have OU_18 := hide (OU_17.out.below hb)
          have KM_18 := hide (KM_17.out.below hb)
          have OA_18 := hide (OA_17.out.below hb)
          have SZ_18 : Hid (u17.heap.size ≤ u18.heap.size) := (hb).size
          have HB_18 := hide (below_trans HB_17.out hb)
          clear OW_17 RT_17 OX_17 OU_17 KM_17 OA_17 HB_17 hb
          go_wp2_with fail
          refine (kept_any gx 0 len cx a cap bs u18 (rd_room OX_18.out HL.out hlen) HCX.out.1 (R0.out.below HB_18.out) hlen).mono ?_
          rintro e u19 ⟨rfl, hb⟩
          have OW_19 := hide (OW_18.out.below hb)
          have RT_19 := hide (RT_18.out.below hb)
          have OX_19 := hide (OX_18.out.below hb)
          have OU_19 := hide (OU_18.out.below hb)
          have KM_19 := hide (KM_18.out.below hb)
          have OA_19 := hide (OA_18.out.below hb)
          have SZ_19 : Hid (u18.heap.size ≤ u19.heap.size) := (hb).size
          have HB_19 := hide (below_trans HB_18.out hb)
          clear OW_18 RT_18 OX_18 OU_18 KM_18 OA_18 HB_18 hb
          go_wp2_with fail
          refine (sameBytes_eq _ _ _ _ _ _ D _ (Got.rd OA_19.out (by have := HDL.out; omega)) (Got.rd OW_19.out (by have := HDL.out; omega))).mono ?_
          rintro e u20 ⟨rfl, hb⟩
          have OW_20 := hide (OW_19.out.below hb)
          have RT_20 := hide (RT_19.out.below hb)
          have OX_20 := hide (OX_19.out.below hb)
          have OU_20 := hide (OU_19.out.below hb)
          have KM_20 := hide (KM_19.out.below hb)
          have OA_20 := hide (OA_19.out.below hb)
          have SZ_20 : Hid (u19.heap.size ≤ u20.heap.size) := (hb).size
          have HB_20 := hide (below_trans HB_19.out hb)
          clear OW_19 RT_19 OX_19 OU_19 KM_19 OA_19 HB_19 hb
          go_wp2_with fail
          refine (sameBytes_eq _ _ _ _ _ _ D _ (Got.rd OU_20.out (by have := HDL.out; omega)) (Got.rd OW_20.out (by have := HDL.out; omega))).mono ?_
          rintro e u21 ⟨rfl, hb⟩
          have OW_21 := hide (OW_20.out.below hb)
          have RT_21 := hide (RT_20.out.below hb)
          have OX_21 := hide (OX_20.out.below hb)
          have OU_21 := hide (OU_20.out.below hb)
          have KM_21 := hide (KM_20.out.below hb)
          have OA_21 := hide (OA_20.out.below hb)
          have SZ_21 : Hid (u20.heap.size ≤ u21.heap.size) := (hb).size
          have HB_21 := hide (below_trans HB_20.out hb)
          clear OW_20 RT_20 OX_20 OU_20 KM_20 OA_20 HB_20 hb
          go_wp2_with fail
          refine (tok_at (some ⟨gx, 0, none⟩) len cx bs n T TE NT u21 HNT.out HT.out HT0.out (rd_front (rd_room OX_21.out HL.out hlen)) hcx1 HCX.out.2).mono ?_
          rintro e u22 ⟨ba, bc, bps, rfl, _, _, hb⟩
          have OX_22 := hide (OX_21.out.below hb)
          have SZ_22 : Hid (u21.heap.size ≤ u22.heap.size) := (hb).size
          have HB_22 := hide (below_trans HB_21.out hb)
          clear OX_21 HB_21 hb
          go_wp2_with fail
          refine (dec_at (some ⟨gx, 0, none⟩) len cx bs n D DE N u22 HN.out HD.out HD0.out (rd_front (rd_room OX_22.out HL.out hlen)) hcx1 HCX.out.2).mono ?_
          rintro e u23 ⟨ca, cc, rfl, _, hb⟩
          have OX_23 := hide (OX_22.out.below hb)
          have SZ_23 : Hid (u22.heap.size ≤ u23.heap.size) := (hb).size
          have HB_23 := hide (below_trans HB_22.out hb)
          clear OX_22 HB_22 hb
          go_wp2_with fail
          have HX23 := hide (own_front OX_23.out HL.out)
          refine (turned_any _ gx len cx bs u23 HX23.out hlen).mono ?_
          rintro e u24 ⟨v24, z, rfl, hz, ho24, hx24, hg⟩
          obtain ⟨da, dn, dc, rfl, HDN⟩ := own_named ho24
          obtain rfl : dn = len := by rw [← hz]; exact HDN.out
          have HZL := hide hz
          have HX24 := hide hx24
          have HO24 := hide ho24
          have hlo : u2.heap.size ≤ gx := (blk OX_23.out gx rfl).1
          have HB_24 : Hid (Below w.heap.size w u24) := HB_23.out.grown hg HB_23.out.size (fun i e => by cases e; have c1 := SZ_1.out; have c2 := SZ_2.out; omega)
          clear hz ho24 hx24 hg HX23 HDN hlo OX_23 HB_23
          obtain ⟨D2, DE2, hD, hD0, hDl⟩ := named_dec z n
          obtain ⟨T2, TE2, hT, hT0, hTl, hTt⟩ := named_tok z n
          obtain ⟨N2, hN⟩ : ∃ N, D2.length = N := ⟨_, rfl⟩
          obtain ⟨NT2, hNT⟩ : ∃ N, T2.length = N := ⟨_, rfl⟩
          have HD2 := hide hD
          have HD02 := hide hD0
          have HT2 := hide hT
          have HT02 := hide hT0
          have HN2 := hide hN
          have HNT2 := hide hNT
          have HDL2 := hide hDl
          have HTL2 := hide hTl
          have HTT2 := hide hTt
          have hNb2 : N2 ≤ 65536 := by omega
          have hNTb2 : NT2 ≤ 65536 := by omega
          have hee2 : (DE2 == DE2) = true := by simp
          have hff2 : (TE2 == TE2) = true := by simp
          have hdn : dn ≤ 140737488351232 := hlen
          clear hD hT hD0 hT0 hN hNT hDl hTl hTt
          have OZ_24 := hide HO24.out
          have OY_24 := hide HX24.out
          clear HO24 HX24
          go_wp2_with fail
          refine (rdec_at da dn dc z n D2 DE2 N2 u24 HN2.out HD2.out HD02.out (Got.rd OZ_24.out (by rw [HZL.out]; omega)) (Got.cap OZ_24.out).1 OZ_24.out.room (fun h => Got.nil OZ_24.out h)).mono ?_
          rintro e u25 ⟨ea, ec, rfl, ho, hb⟩
          have OE_25 := hide ho
          have L_OE : Hid (∀ i, (Value.slice ea N2 ec).ownBlock = some i → i < u25.heap.size) := fun i e => (blk ho i e).2
          clear ho
          have OZ_25 := hide (OZ_24.out.below hb)
          have OY_25 := hide (OY_24.out.below hb)
          have SZ_25 : Hid (u24.heap.size ≤ u25.heap.size) := (hb).size
          have HB_25 := hide (below_trans HB_24.out hb)
          clear OZ_24 OY_24 HB_24 hb
          go_wp2_with fail
          refine (rtok_at da dn dc z n T2 TE2 NT2 u25 HNT2.out HT2.out HT02.out (Got.rd OZ_25.out (by rw [HZL.out]; omega)) (Got.cap OZ_25.out).1 OZ_25.out.room (fun h => Got.nil OZ_25.out h)).mono ?_
          rintro e u26 ⟨fa, fc, fps, rfl, ho, hp, hb⟩
          have RF_26 := hide ho
          have L_RF := hide ho.top
          clear ho
          have OZ_26 := hide (OZ_25.out.below hb)
          have OY_26 := hide (OY_25.out.below hb)
          have OE_26 := hide (OE_25.out.below hb)
          have SZ_26 : Hid (u25.heap.size ≤ u26.heap.size) := (hb).size
          have HB_26 := hide (below_trans HB_25.out hb)
          clear OZ_25 OY_25 OE_25 HB_25 hb
          have HFP := hide hp
          clear hp
          go_wp2_with fail
          refine (dec_at (some ⟨gx, 0, none⟩) dn cx z n D2 DE2 N2 u26 HN2.out HD2.out HD02.out (Got.rd OY_26.out (by rw [HZL.out]; omega)) hcx1 HCX.out.2).mono ?_
          rintro e u27 ⟨ga, gc, rfl, ho, hb⟩
          have OG_27 := hide ho
          have L_OG : Hid (∀ i, (Value.slice ga N2 gc).ownBlock = some i → i < u27.heap.size) := fun i e => (blk ho i e).2
          clear ho
          have OZ_27 := hide (OZ_26.out.below hb)
          have OY_27 := hide (OY_26.out.below hb)
          have OE_27 := hide (OE_26.out.below hb)
          have RF_27 := hide (RF_26.out.below hb)
          have SZ_27 : Hid (u26.heap.size ≤ u27.heap.size) := (hb).size
          have HB_27 := hide (below_trans HB_26.out hb)
          clear OZ_26 OY_26 OE_26 RF_26 HB_26 hb
          go_wp2_with fail
          refine (tok_at (some ⟨gx, 0, none⟩) dn cx z n T2 TE2 NT2 u27 HNT2.out HT2.out HT02.out (Got.rd OY_27.out (by rw [HZL.out]; omega)) hcx1 HCX.out.2).mono ?_
          rintro e u28 ⟨ha, hc, hps, rfl, ho, hp, hb⟩
          have KH_28 := hide ho
          have L_KH := hide ho.top
          clear ho
          have OZ_28 := hide (OZ_27.out.below hb)
          have OY_28 := hide (OY_27.out.below hb)
          have OE_28 := hide (OE_27.out.below hb)
          have RF_28 := hide (RF_27.out.below hb)
          have OG_28 := hide (OG_27.out.below hb)
          have SZ_28 : Hid (u27.heap.size ≤ u28.heap.size) := (hb).size
          have HB_28 := hide (below_trans HB_27.out hb)
          clear OZ_27 OY_27 OE_27 RF_27 OG_27 HB_27 hb
          have HHP := hide hp
          clear hp
          go_wp2_with fail
          refine (sameBytes_eq _ _ _ _ _ _ D2 _ (Got.rd OG_28.out (by have := HDL2.out; omega)) (Got.rd OE_28.out (by have := HDL2.out; omega))).mono ?_
          rintro e u29 ⟨rfl, hb⟩
          have OZ_29 := hide (OZ_28.out.below hb)
          have OY_29 := hide (OY_28.out.below hb)
          have OE_29 := hide (OE_28.out.below hb)
          have RF_29 := hide (RF_28.out.below hb)
          have OG_29 := hide (OG_28.out.below hb)
          have KH_29 := hide (KH_28.out.below hb)
          have SZ_29 : Hid (u28.heap.size ≤ u29.heap.size) := (hb).size
          have HB_29 := hide (below_trans HB_28.out hb)
          clear OZ_28 OY_28 OE_28 RF_28 OG_28 KH_28 HB_28 hb
          go_wp2_with fail
          refine (same_eq _ _ _ _ _ T2 _ (otoks_trd KH_29.out HHP.out HTL2.out HTT2.out) (rtoks_trd RF_29.out HFP.out HTL2.out HTT2.out) (by omega)).mono ?_
          rintro e u30 ⟨rfl, hb⟩
          have OZ_30 := hide (OZ_29.out.below hb)
          have OY_30 := hide (OY_29.out.below hb)
          have OE_30 := hide (OE_29.out.below hb)
          have RF_30 := hide (RF_29.out.below hb)
          have OG_30 := hide (OG_29.out.below hb)
          have KH_30 := hide (KH_29.out.below hb)
          have SZ_30 : Hid (u29.heap.size ≤ u30.heap.size) := (hb).size
          have HB_30 := hide (below_trans HB_29.out hb)
          clear OZ_29 OY_29 OE_29 RF_29 OG_29 KH_29 HB_29 hb
          go_wp2_with fail
          go_ret
          exact ⟨rfl, HB_30.out⟩
end Go.Proofs.Ytcchknpgkcmneaa.lzDecodes
