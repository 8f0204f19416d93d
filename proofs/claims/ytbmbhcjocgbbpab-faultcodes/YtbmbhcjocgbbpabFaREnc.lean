/-
  The bytes of entries: the document's Encode.
-/
import Derived.Test.YtbmbhcjocgbbpabFaEnc
import Derived.Test.YtbmbhcjocgbbpabFaRChk
import Derived.Test.YtbmbhcjocgbbpabNumsRefC
namespace Go.Proofs.Ytbmbhcjocgbbpab.Fa
open Go.ChangeShapes Go.WideShapes Go.ChangeAt Go.RowKit
open Go.Proofs.Ytbmbhcjocgbbpab.Base Go.Proofs.Ytbmbhcjocgbbpab.Nums
set_option linter.unusedVariables false
set_option maxHeartbeats 4000000 in
set_option maxRecDepth 100000 in
theorem refEncode_ok (a : Option Addr) (n cap : Nat) (fs : List Flt) (w : World) (hr : RdL w a n fs) (hk : chk fs = 0) :
    Calls Try.prog 7 #[.slice a n cap] w fun e w' => ∃ v, e = .returned (.tuple #[v, .int .i64 0]) ∧ Own w' w.heap.size v (encL fs) ∧ Below w.heap.size w w' := by
  obtain ⟨hall, hnd, h256⟩ := chk_ok hk
  have HL := hide hr.1
  rw [HL.out] at h256
  have HR := hide hr
  have HK := hide hk
  have HALL := hide hall
  have hni : (n : Int) ≤ 256 := by omega
  clear hr hk hall hnd
  go_enter Try.func7, Try.ntmps7
  go_wp2_with fail
  refine (refCheck_any a n cap fs w HR.out).mono ?_
  rintro e w1 ⟨rfl, hb1⟩
  have HB1 := hide hb1
  rw [HK.out]
  clear hb1
  go_wp2_with fail
  refine (refPut_any (n : Int) _ (wf_small (by omega))).mono ?_
  rintro e w2 ⟨v, rfl, ho2, hb2⟩
  rw [putI_nat] at ho2
  have HO2 := hide (ho2.mono HB1.out.size)
  have HB2 := hide (below_trans HB1.out hb2)
  clear ho2 hb2
  go_wp2_with fail
  go_loopw [5, 6] (fun sv si wr => ∃ (i : Nat) (v : Value), i ≤ n ∧ v = sv ∧ .int .i64 (i : Int) = si ∧ Hid (Own wr w.heap.size v (put n ++ (fs.take i).flatMap encF1)) ∧ Hid (Below w.heap.size w wr)) (fun _ si _ => n - (intOf si).toNat)
  case atStart => exact ⟨0, v, by omega, rfl, rfl, by show Own _ _ _ _; simpa using HO2.out, HB2.out⟩
  case round =>
    clear HO2 HB2
    rename World => V0
    obtain ⟨i, v, hi, rfl, rfl, HO, HB⟩ := hrel
    by_cases hin : i < n
    · have hii : (i : Int) < (n : Int) := by omega
      obtain ⟨b1, o1, rfl, hl1, hc1⟩ := HR.out.2 (by omega)
      obtain ⟨f, hf⟩ : ∃ f, fs.getD i f0 = f := ⟨_, rfl⟩
      obtain ⟨p0, p1, p2, p3, p4, p5, p6, p7⟩ := (hc1 i hin).same (w' := V0) (fun k => HB.out.cell (p := ⟨b1, k, none⟩) hl1)
      rw [hf] at p0 p1 p2 p3 p4 p5 p6 p7
      have hil : i < fs.length := by rw [HL.out]; exact hin
      have hmay : may f = true := by rw [← hf]; exact List.all_eq_true.1 HALL.out _ (getD_mem hil)
      have HNEXT : Hid (put n ++ (fs.take (i + 1)).flatMap encF1 = put n ++ (fs.take i).flatMap encF1 ++ encF1 f) := by
        show _ = _
        rw [take_all fs i f hil hf, List.flatMap_append, List.append_assoc]
        simp
      have HLEN : Hid ((put n ++ (fs.take i).flatMap encF1).length ≤ 16393) := by
        show _ ≤ _
        have h4 := flat_len (fs.take i) (by rw [List.all_eq_true]; intro g hg; exact List.all_eq_true.1 HALL.out g (List.mem_of_mem_take hg))
        have h5 := (put_nine n (by omega)).2
        have h6 := List.length_take_le i fs
        rw [List.length_append]
        omega
      obtain ⟨B0, hB⟩ : ∃ B0, put n ++ (fs.take i).flatMap encF1 = B0 := ⟨_, rfl⟩
      rw [hB] at HO HNEXT HLEN
      obtain ⟨m1, m2, m3, m4, m5, m6⟩ := may_nums hmay
      obtain ⟨k, j, t, at_, m, r, p, q⟩ := f
      simp only at p0 p1 p2 p3 p4 p5 p6 p7 m1 m2 m3 m4 m5 m6
      obtain ⟨K, rfl⟩ := Int.eq_ofNat_of_zero_le m1.1
      obtain ⟨J, rfl⟩ := Int.eq_ofNat_of_zero_le m2.1
      obtain ⟨T, rfl⟩ := Int.eq_ofNat_of_zero_le m3.1
      obtain ⟨A, rfl⟩ := Int.eq_ofNat_of_zero_le (show 0 ≤ at_ by omega)
      obtain ⟨M, rfl⟩ := Int.eq_ofNat_of_zero_le m5.1
      obtain ⟨R, rfl⟩ := Int.eq_ofNat_of_zero_le m6.1
      have HENC : Hid (encF1 ⟨(K : Int), (J : Int), (T : Int), (A : Int), (M : Int), (R : Int), p, q⟩ = [B8 K, B8 J] ++ put T ++ put A ++ [B8 M] ++ put R ++ fixed (w64 p) 8 ++ fixed q.toNat 4) := rfl
      have hT : T ≤ 65535 := by omega
      have hA : A ≤ 16 := by omega
      have hR : R ≤ 65535 := by omega
      have k1 := byte_of K (by omega)
      have k2 := byte_of J (by omega)
      have k3 := byte_of M (by omega)
      have HU : Hid (w64 p < 18446744073709551616) := w64_lt p
      have ku : IntKind.u64.wrap p = ((w64 p : Nat) : Int) := by unfold w64; rw [IntKind.wrap_u64]; omega
      have kq : IntKind.u64.wrap (q.toNat : Int) = (q.toNat : Int) := by rw [IntKind.wrap_u64]; have := q.isLt; omega
      generalize w64 p = U at HENC HU ku
      have LT := (put_three T hT).2
      have LA := (put_three A (by omega)).2
      have LR := (put_three R hR).2
      have HLT := hide LT
      have HLA := hide LA
      have HLR := hide LR
      clear hf hc1 hmay hB m1 m2 m3 m4 m5 m6 LT LA LR
      generalize B8 K = cK at k1 HENC
      generalize B8 J = cJ at k2 HENC
      generalize B8 M = cM at k3 HENC
      obtain ⟨fbk, hfbk⟩ : ∃ fbk, V0.heap.size = fbk := ⟨_, rfl⟩
      obtain ⟨w0, hw0⟩ : ∃ w0, V0.alloc (.cells #[.int .i64 (K : Int), .int .i64 (J : Int), .int .i64 (T : Int), .int .i64 (A : Int), .int .i64 (M : Int), .int .i64 (R : Int), .int .i64 p, .int .u32 (q.toNat : Int)] 39) = w0 := ⟨_, rfl⟩
      have HF0 : Hid (FB w0 fbk ⟨(K : Int), (J : Int), (T : Int), (A : Int), (M : Int), (R : Int), p, q⟩) := by show FB _ _ _; rw [← hw0, ← hfbk]; exact heap_alloc_new _ _
      have HB0 : Hid (Below V0.heap.size V0 w0) := by show Below _ _ _; rw [← hw0]; exact ba (b0 _) _
      have HO0 := hide (HO.out.below HB0.out)
      have HW0 := hide (below_trans HB.out HB0.out)
      obtain ⟨t0, t1, t2, t3, t4, t5, t6, t7⟩ := HF0.out.cells
      simp only at t0 t1 t2 t3 t4 t5 t6 t7
      have HLEN0 := HLEN
      have HF0' := HF0
      obtain ⟨v0, hv0⟩ : ∃ v0, v0 = v := ⟨_, rfl⟩
      subst hv0
      clear HLEN
      have HRa0 := hide (two_bytes w0 cK cJ)
      have HOa0 := hide (HO0.out.below (ba (b0 w0) (.cells #[.int .u8 (cK.toNat : Int), .int .u8 (cJ.toNat : Int)] 5)))
      have HFa0 := hide (HF0.out.below (ba (b0 w0) (.cells #[.int .u8 (cK.toNat : Int), .int .u8 (cJ.toNat : Int)] 5)))
      have HWa0 := hide (ba HW0.out (.cells #[.int .u8 (cK.toNat : Int), .int .u8 (cJ.toNat : Int)] 5))
      go_wp2_with (first
        | (at_builtin; refine join _ rfl _ _ rfl w.heap.size v0 B0 rfl HOa0.out (some ⟨w0.heap.size, 0, none⟩) 2 2 [cK, cJ] rfl HRa0.out (by intro h; cases h) (by have := HLEN0.out; omega) HWa0.out.size ?_
           intro v1 w1 ho hg
           obtain ⟨B1, hB1⟩ : ∃ B1, B0 ++ [cK, cJ] = B1 := ⟨_, rfl⟩
           have HLEN1 : Hid (B1.length ≤ 16400) := by show _ ≤ _; rw [← hB1, List.length_append]; have := HLEN0.out; simp only [List.length_cons, List.length_nil]; omega
           rw [hB1] at ho
           have HBE1 := hide hB1
           have HO1 := hide ho
           have HW1 : Hid (Below w.heap.size w w1) := HWa0.out.grown hg HWa0.out.size (fun i e => (World.ownsRow.lt HOa0.out i e).1)
           have HF1 := hide (HFa0.out.grown hg (fb_ne HFa0.out HOa0.out))
           obtain ⟨t0, t1, t2, t3, t4, t5, t6, t7⟩ := HF1.out.cells
           simp only at t0 t1 t2 t3 t4 t5 t6 t7
           clear ho hg hB1))
      refine (refPut_any (T : Int) _ (wf_small (by omega))).mono ?_
      rintro e y1 ⟨u1, rfl, hu, hb⟩
      rw [putI_nat] at hu
      obtain ⟨ua1, uc1, rfl⟩ := hu.shape
      have HU1 := hide hu
      have HNU1 : Hid (ua1 = none → (put T).length = 0 ∧ uc1 = 0) := fun h => Got.nil HU1.out h
      have HRU1 := hide (Got.rd HU1.out (by have h8 := HLT.out; omega))
      have HOa1 := hide (HO1.out.below hb)
      have HFa1 := hide (HF1.out.below hb)
      have HWa1 := hide (below_trans HW1.out hb)
      clear t0 t1 t2 t3 t4 t5 t6 t7
      obtain ⟨t0, t1, t2, t3, t4, t5, t6, t7⟩ := HFa1.out.cells
      simp only at t0 t1 t2 t3 t4 t5 t6 t7
      clear hu hb
      go_wp2_with (first
        | (at_builtin; refine join _ rfl _ _ rfl w.heap.size v1 B1 rfl HOa1.out ua1 (put T).length uc1 (put T) rfl HRU1.out HNU1.out (by have := HLEN1.out; have h8 := HLT.out; omega) HWa1.out.size ?_
           intro v2 w2 ho hg
           obtain ⟨B2, hB2⟩ : ∃ B2, B1 ++ put T = B2 := ⟨_, rfl⟩
           have HLEN2 : Hid (B2.length ≤ 16420) := by show _ ≤ _; rw [← hB2, List.length_append]; have := HLEN1.out; have h8 := HLT.out; omega
           rw [hB2] at ho
           have HBE2 := hide hB2
           have HO2 := hide ho
           have HW2 : Hid (Below w.heap.size w w2) := HWa1.out.grown hg HWa1.out.size (fun i e => (World.ownsRow.lt HOa1.out i e).1)
           have HF2 := hide (HFa1.out.grown hg (fb_ne HFa1.out HOa1.out))
           obtain ⟨t0, t1, t2, t3, t4, t5, t6, t7⟩ := HF2.out.cells
           simp only at t0 t1 t2 t3 t4 t5 t6 t7
           clear ho hg hB2))
      refine (refPut_any (A : Int) _ (wf_small (by omega))).mono ?_
      rintro e y2 ⟨u2, rfl, hu, hb⟩
      rw [putI_nat] at hu
      obtain ⟨ua2, uc2, rfl⟩ := hu.shape
      have HU2 := hide hu
      have HNU2 : Hid (ua2 = none → (put A).length = 0 ∧ uc2 = 0) := fun h => Got.nil HU2.out h
      have HRU2 := hide (Got.rd HU2.out (by have h8 := HLA.out; omega))
      have HOa2 := hide (HO2.out.below hb)
      have HFa2 := hide (HF2.out.below hb)
      have HWa2 := hide (below_trans HW2.out hb)
      clear t0 t1 t2 t3 t4 t5 t6 t7
      obtain ⟨t0, t1, t2, t3, t4, t5, t6, t7⟩ := HFa2.out.cells
      simp only at t0 t1 t2 t3 t4 t5 t6 t7
      clear hu hb
      go_wp2_with (first
        | (at_builtin; refine join _ rfl _ _ rfl w.heap.size v2 B2 rfl HOa2.out ua2 (put A).length uc2 (put A) rfl HRU2.out HNU2.out (by have := HLEN2.out; have h8 := HLA.out; omega) HWa2.out.size ?_
           intro v3 w3 ho hg
           obtain ⟨B3, hB3⟩ : ∃ B3, B2 ++ put A = B3 := ⟨_, rfl⟩
           have HLEN3 : Hid (B3.length ≤ 16440) := by show _ ≤ _; rw [← hB3, List.length_append]; have := HLEN2.out; have h8 := HLA.out; omega
           rw [hB3] at ho
           have HBE3 := hide hB3
           have HO3 := hide ho
           have HW3 : Hid (Below w.heap.size w w3) := HWa2.out.grown hg HWa2.out.size (fun i e => (World.ownsRow.lt HOa2.out i e).1)
           have HF3 := hide (HFa2.out.grown hg (fb_ne HFa2.out HOa2.out))
           obtain ⟨t0, t1, t2, t3, t4, t5, t6, t7⟩ := HF3.out.cells
           simp only at t0 t1 t2 t3 t4 t5 t6 t7
           clear ho hg hB3
           have HRa3 := hide (one_byteE w3 cM)
           have HOa3 := hide (HO3.out.below (ba (b0 w3) (.cells #[.int .u8 (cM.toNat : Int)] 5)))
           have HFa3 := hide (HF3.out.below (ba (b0 w3) (.cells #[.int .u8 (cM.toNat : Int)] 5)))
           have HWa3 := hide (ba HW3.out (.cells #[.int .u8 (cM.toNat : Int)] 5)))
        | (at_builtin; refine join _ rfl _ _ rfl w.heap.size v3 B3 rfl HOa3.out (some ⟨w3.heap.size, 0, none⟩) 1 1 [cM] rfl HRa3.out (by intro h; cases h) (by have := HLEN3.out; omega) HWa3.out.size ?_
           intro v4 w4 ho hg
           obtain ⟨B4, hB4⟩ : ∃ B4, B3 ++ [cM] = B4 := ⟨_, rfl⟩
           have HLEN4 : Hid (B4.length ≤ 16450) := by show _ ≤ _; rw [← hB4, List.length_append]; have := HLEN3.out; simp only [List.length_cons, List.length_nil]; omega
           rw [hB4] at ho
           have HBE4 := hide hB4
           have HO4 := hide ho
           have HW4 : Hid (Below w.heap.size w w4) := HWa3.out.grown hg HWa3.out.size (fun i e => (World.ownsRow.lt HOa3.out i e).1)
           have HF4 := hide (HFa3.out.grown hg (fb_ne HFa3.out HOa3.out))
           obtain ⟨t0, t1, t2, t3, t4, t5, t6, t7⟩ := HF4.out.cells
           simp only at t0 t1 t2 t3 t4 t5 t6 t7
           clear ho hg hB4))
      refine (refPut_any (R : Int) _ (wf_small (by omega))).mono ?_
      rintro e y4 ⟨u4, rfl, hu, hb⟩
      rw [putI_nat] at hu
      obtain ⟨ua4, uc4, rfl⟩ := hu.shape
      have HU4 := hide hu
      have HNU4 : Hid (ua4 = none → (put R).length = 0 ∧ uc4 = 0) := fun h => Got.nil HU4.out h
      have HRU4 := hide (Got.rd HU4.out (by have h8 := HLR.out; omega))
      have HOa4 := hide (HO4.out.below hb)
      have HFa4 := hide (HF4.out.below hb)
      have HWa4 := hide (below_trans HW4.out hb)
      clear t0 t1 t2 t3 t4 t5 t6 t7
      obtain ⟨t0, t1, t2, t3, t4, t5, t6, t7⟩ := HFa4.out.cells
      simp only at t0 t1 t2 t3 t4 t5 t6 t7
      clear hu hb
      go_wp2_with (first
        | (at_builtin; refine join _ rfl _ _ rfl w.heap.size v4 B4 rfl HOa4.out ua4 (put R).length uc4 (put R) rfl HRU4.out HNU4.out (by have := HLEN4.out; have h8 := HLR.out; omega) HWa4.out.size ?_
           intro v5 w5 ho hg
           obtain ⟨B5, hB5⟩ : ∃ B5, B4 ++ put R = B5 := ⟨_, rfl⟩
           have HLEN5 : Hid (B5.length ≤ 16470) := by show _ ≤ _; rw [← hB5, List.length_append]; have := HLEN4.out; have h8 := HLR.out; omega
           rw [hB5] at ho
           have HBE5 := hide hB5
           have HO5 := hide ho
           have HW5 : Hid (Below w.heap.size w w5) := HWa4.out.grown hg HWa4.out.size (fun i e => (World.ownsRow.lt HOa4.out i e).1)
           have HF5 := hide (HFa4.out.grown hg (fb_ne HFa4.out HOa4.out))
           obtain ⟨t0, t1, t2, t3, t4, t5, t6, t7⟩ := HF5.out.cells
           simp only at t0 t1 t2 t3 t4 t5 t6 t7
           clear ho hg hB5))
      go_loopw [5, 8] (fun sb sk wq => ∃ (k : Nat) (vq : Value), k ≤ 8 ∧ vq = sb ∧ .int .i64 (k : Int) = sk ∧ Hid (Own wq w.heap.size vq (B5 ++ fixed U k)) ∧ Hid (FB wq fbk ⟨(K : Int), (J : Int), (T : Int), (A : Int), (M : Int), (R : Int), p, q⟩) ∧ Hid (Below w.heap.size w wq)) (fun _ sk _ => 8 - (intOf sk).toNat)
      case atStart => exact ⟨0, _, by omega, rfl, rfl, by show Own _ _ _ _; rw [show fixed U 0 = [] from rfl, List.append_nil]; exact HO5.out, HF5, HW5⟩
      case round =>
        clear HO5 HF5 HW5
        obtain ⟨k8, vq, hk8, rfl, rfl, HO8, HF8, HW8⟩ := hrel
        by_cases hkk : k8 < 8
        · have hki : (k8 : Int) < 8 := by omega
          obtain ⟨X, d, hX, hd, HD⟩ := byte_step U k8 (by omega)
          have hw8 : IntKind.i64.wrap (8 * (k8 : Int)) = 8 * (k8 : Int) := by rw [IntKind.wrap_i64]; omega
          obtain ⟨t0, t1, t2, t3, t4, t5, t6, t7⟩ := HF8.out.cells
          simp only at t0 t1 t2 t3 t4 t5 t6 t7
          have HNXT : Hid (B5 ++ fixed U (k8 + 1) = B5 ++ fixed U k8 ++ [d]) := by show _ = _; rw [fixed_succ, HD.out, List.append_assoc]
          have HLQ : Hid ((B5 ++ fixed U k8).length ≤ 16490) := by show _ ≤ _; rw [List.length_append, length_fixed]; have := HLEN5.out; omega
          obtain ⟨BQ, hBQ⟩ : ∃ BQ, B5 ++ fixed U k8 = BQ := ⟨_, rfl⟩
          rw [hBQ] at HO8 HLQ HNXT
          clear hBQ
          have HRa := hide (one_byteE wr d)
          have HOa := hide (HO8.out.below (ba (b0 wr) (.cells #[.int .u8 (d.toNat : Int)] 5)))
          have HFa := hide (HF8.out.below (ba (b0 wr) (.cells #[.int .u8 (d.toNat : Int)] 5)))
          have HWa := hide (ba HW8.out (.cells #[.int .u8 (d.toNat : Int)] 5))
          go_wp2_with (at_builtin; refine join _ rfl _ _ rfl w.heap.size vq BQ rfl HOa.out (some ⟨wr.heap.size, 0, none⟩) 1 1 [d] rfl HRa.out (by intro h; cases h) (by have := HLQ.out; omega) HWa.out.size ?_
                       intro vn wn ho hg
                       have HON := hide ho
                       have HWN : Hid (Below w.heap.size w wn) := HWa.out.grown hg HWa.out.size (fun i e => (World.ownsRow.lt HOa.out i e).1)
                       have HFN := hide (HFa.out.grown hg (fb_ne HFa.out HOa.out))
                       clear ho hg)
          go_roundw
          case rel => exact ⟨k8 + 1, _, by omega, rfl, by go_num, by rw [HNXT.out]; exact HON, HFN, HWN⟩
          case measure => simp [intOf]; omega
        · obtain rfl : k8 = 8 := by omega
          obtain ⟨B6, hB6⟩ : ∃ B6, B5 ++ fixed U 8 = B6 := ⟨_, rfl⟩
          rw [hB6] at HO8
          have HBE6 := hide hB6
          have HLEN6 : Hid (B6.length ≤ 16480) := by show _ ≤ _; rw [← hB6, List.length_append]; have := HLEN5.out; have h8 := length_fixed U 8; omega
          clear hB6
          rw [show ((8 : Nat) : Int) = 8 from rfl]
          go_wp2_with fail
          go_loopw [5, 9] (fun sb sk wq => ∃ (k : Nat) (vq : Value), k ≤ 4 ∧ vq = sb ∧ .int .i64 (k : Int) = sk ∧ Hid (Own wq w.heap.size vq (B6 ++ fixed q.toNat k)) ∧ Hid (FB wq fbk ⟨(K : Int), (J : Int), (T : Int), (A : Int), (M : Int), (R : Int), p, q⟩) ∧ Hid (Below w.heap.size w wq)) (fun _ sk _ => 4 - (intOf sk).toNat)
          case atStart => exact ⟨0, _, by omega, rfl, rfl, by show Own _ _ _ _; rw [show fixed q.toNat 0 = [] from rfl, List.append_nil]; exact HO8.out, HF8, HW8⟩
          case round =>
            clear HO8 HF8 HW8
            obtain ⟨k4, vq, hk4, rfl, rfl, HO4, HF4, HW4⟩ := hrel
            by_cases hkk : k4 < 4
            · have hki : (k4 : Int) < 4 := by omega
              obtain ⟨X, d, hX, hd, HD⟩ := byte_step q.toNat k4 (by omega)
              have hw8 : IntKind.i64.wrap (8 * (k4 : Int)) = 8 * (k4 : Int) := by rw [IntKind.wrap_i64]; omega
              obtain ⟨t0, t1, t2, t3, t4, t5, t6, t7⟩ := HF4.out.cells
              simp only at t0 t1 t2 t3 t4 t5 t6 t7
              have HNXT : Hid (B6 ++ fixed q.toNat (k4 + 1) = B6 ++ fixed q.toNat k4 ++ [d]) := by show _ = _; rw [fixed_succ, HD.out, List.append_assoc]
              have HLQ : Hid ((B6 ++ fixed q.toNat k4).length ≤ 16490) := by show _ ≤ _; rw [List.length_append, length_fixed]; have := HLEN6.out; omega
              obtain ⟨BQ, hBQ⟩ : ∃ BQ, B6 ++ fixed q.toNat k4 = BQ := ⟨_, rfl⟩
              rw [hBQ] at HO4 HLQ HNXT
              clear hBQ
              have HRa := hide (one_byteE wr d)
              have HOa := hide (HO4.out.below (ba (b0 wr) (.cells #[.int .u8 (d.toNat : Int)] 5)))
              have HFa := hide (HF4.out.below (ba (b0 wr) (.cells #[.int .u8 (d.toNat : Int)] 5)))
              have HWa := hide (ba HW4.out (.cells #[.int .u8 (d.toNat : Int)] 5))
              go_wp2_with (at_builtin; refine join _ rfl _ _ rfl w.heap.size vq BQ rfl HOa.out (some ⟨wr.heap.size, 0, none⟩) 1 1 [d] rfl HRa.out (by intro h; cases h) (by have := HLQ.out; omega) HWa.out.size ?_
                           intro vn wn ho hg
                           have HON := hide ho
                           have HWN : Hid (Below w.heap.size w wn) := HWa.out.grown hg HWa.out.size (fun i e => (World.ownsRow.lt HOa.out i e).1)
                           have HFN := hide (HFa.out.grown hg (fb_ne HFa.out HOa.out))
                           clear ho hg)
              go_roundw
              case rel => exact ⟨k4 + 1, _, by omega, rfl, by go_num, by rw [HNXT.out]; exact HON, HFN, HWN⟩
              case measure => simp [intOf]; omega
            · obtain rfl : k4 = 4 := by omega
              obtain ⟨B7, hB7⟩ : ∃ B7, B6 ++ fixed q.toNat 4 = B7 := ⟨_, rfl⟩
              rw [hB7] at HO4
              have HBE7 := hide hB7
              clear hB7
              go_wp2_with fail
              go_roundw
              case rel =>
                refine ⟨i + 1, _, by omega, rfl, by go_num, ?_, HW4.out⟩
                show Own _ _ _ _
                have hq : put n ++ (fs.take (i + 1)).flatMap encF1 = B7 := by rw [HNEXT.out, HENC.out, ← HBE7.out, ← HBE6.out, ← HBE5.out, ← HBE4.out, ← HBE3.out, ← HBE2.out, ← HBE1.out]; simp only [List.append_assoc]
                rw [hq]
                exact HO4.out
              case measure => simp [intOf]; omega
    · obtain rfl : i = n := by omega
      have hall : fs.take i = fs := List.take_of_length_le (by rw [HL.out]; exact Nat.le_refl _)
      rw [hall] at HO
      have HE : Hid (encL fs = put i ++ fs.flatMap encF1) := by show _ = _; unfold encL; rw [HL.out]
      clear hall
      go_wp2_with fail
      go_ret2
      exact ⟨_, rfl, by rw [HE.out]; exact HO.out, HB.out⟩
set_option maxHeartbeats 1000000 in
theorem refEncode_no (a : Option Addr) (n cap : Nat) (fs : List Flt) (w : World) (hr : RdL w a n fs) (hk : chk fs ≠ 0) :
    Calls Try.prog 7 #[.slice a n cap] w fun e w' => e = .returned (.tuple #[.slice none 0 0, .int .i64 (chk fs : Nat)]) ∧ Below w.heap.size w w' := by
  have HR := hide hr
  obtain ⟨Q, hQ⟩ : ∃ Q, chk fs = Q := ⟨_, rfl⟩
  rw [hQ] at hk ⊢
  have HK := hide hQ
  have hki : ((Q : Int) != 0) = true := by simp; omega
  clear hr hQ hk
  go_enter Try.func7, Try.ntmps7
  go_wp2_with fail
  refine (refCheck_any a n cap fs w HR.out).mono ?_
  rintro e w1 ⟨rfl, hb1⟩
  have HB1 := hide hb1
  rw [HK.out]
  clear hb1
  go_wp2_with fail
  go_ret2
  exact ⟨rfl, HB1.out⟩
end Go.Proofs.Ytbmbhcjocgbbpab.Fa
