/-
  The bytes of entries: the program's Encode.
-/
import Derived.Test.YtbmbhcjocgbbpabFaChk
import Derived.Test.YtbmbhcjocgbbpabFaBlk
import Derived.Test.YtbmbhcjocgbbpabFaComesM
import Derived.Test.YtbmbhcjocgbbpabNumsFixC
namespace Go.Proofs.Ytbmbhcjocgbbpab.Fa
open Go.ChangeShapes Go.WideShapes Go.ChangeAt Go.RowKit
open Go.Proofs.Ytbmbhcjocgbbpab.Base Go.Proofs.Ytbmbhcjocgbbpab.Nums
set_option linter.unusedVariables false
def w64 (p : Int) : Nat := (p % 18446744073709551616).toNat
/-- The bytes of an entry. -/
def encF1 (f : Flt) : List (BitVec 8) := [B8 f.k.toNat, B8 f.j.toNat] ++ put f.t.toNat ++ put f.a.toNat ++ [B8 f.m.toNat] ++ put f.r.toNat ++ fixed (w64 f.p) 8 ++ fixed f.q.toNat 4
/-- The bytes of entries. -/
def encL (fs : List Flt) : List (BitVec 8) := put fs.length ++ fs.flatMap encF1
theorem w64_lt (p : Int) : w64 p < 18446744073709551616 := by unfold w64; omega
theorem may_nums {f : Flt} (h : may f = true) : (0 ≤ f.k ∧ f.k ≤ 2) ∧ (0 ≤ f.j ∧ f.j ≤ 1) ∧ (0 ≤ f.t ∧ f.t < 65535) ∧ (1 ≤ f.a ∧ f.a ≤ 16) ∧ (0 ≤ f.m ∧ f.m ≤ 2) ∧ (0 ≤ f.r ∧ f.r < 65535) := by
  unfold may at h
  simp only [Bool.and_eq_true, Bool.or_eq_true, decide_eq_true_eq] at h
  obtain ⟨ha, (h1 | h1) | h1⟩ := h
  · obtain ⟨hk, ⟨⟨ht, hm⟩, hp⟩, hq⟩ := h1
    simp [isTk, isMp, isRd] at ht
    simp [isNm] at hm
    omega
  · obtain ⟨hk, ⟨⟨ht, hm⟩, hp⟩, hq⟩ := h1
    simp [isMp] at ht
    simp [isMo] at hm
    omega
  · obtain ⟨hk, ⟨⟨ht, hm⟩, hp⟩, hq⟩ := h1
    simp [isMp] at ht
    simp [isMo] at hm
    omega
theorem put_three (v : Nat) (h : v ≤ 65535) : 1 ≤ (put v).length ∧ (put v).length ≤ 9 := put_nine v (by omega)
theorem enc_len (f : Flt) (h : may f = true) : (encF1 f).length ≤ 64 := by
  obtain ⟨h1, h2, h3, h4, h5, h6⟩ := may_nums h
  have a1 := (put_three f.t.toNat (by omega)).2
  have a2 := (put_three f.a.toNat (by omega)).2
  have a3 := (put_three f.r.toNat (by omega)).2
  unfold encF1
  simp only [List.length_append, List.length_cons, List.length_nil, length_fixed]
  omega
theorem flat_len : ∀ (fs : List Flt), fs.all may = true → (fs.flatMap encF1).length ≤ fs.length * 64
  | [], _ => by simp
  | f :: r, h => by
    rw [List.all_cons, Bool.and_eq_true] at h
    have h1 := enc_len f h.1
    have h2 := flat_len r h.2
    rw [List.flatMap_cons, List.length_append, List.length_cons]
    omega
theorem enc_bound {fs : List Flt} (h : chk fs = 0) : (encL fs).length ≤ 16393 := by
  obtain ⟨h1, _, h3⟩ := chk_ok h
  have h4 := flat_len fs h1
  have h5 := (put_nine fs.length (by omega)).2
  unfold encL
  rw [List.length_append]
  omega
theorem two_bytes (w : World) (c d : BitVec 8) : Rd (w.alloc (.cells #[.int .u8 (c.toNat : Int), .int .u8 (d.toNat : Int)] 5)) (some ⟨w.heap.size, 0, none⟩) 2 [c, d] := rd_new w [c, d] (0, 0) (by simp)
theorem one_byteE (w : World) (c : BitVec 8) : Rd (w.alloc (.cells #[.int .u8 (c.toNat : Int)] 5)) (some ⟨w.heap.size, 0, none⟩) 1 [c] := rd_new w [c] (0, 0) (by simp)
theorem fb_ne {w : World} {p base : Nat} {f : Flt} {v : Value} {bs : List (BitVec 8)} (h : FB w p f) (ho : Own w base v bs) : v.ownBlock ≠ some p := by
  intro e
  rcases ho.2 with ⟨e2, _⟩ | ⟨g', cap, cur, e2, _, h3, _⟩
  · subst e2; cases e
  · subst e2
    have : g' = p := Option.some.inj e
    subst this
    rw [FB, h3] at h
    simp at h
theorem byte_of (m : Nat) (h : m < 256) : (m : Int) % 256 = ((B8 m).toNat : Int) := by rw [B8_toNat m h]; omega
set_option maxHeartbeats 4000000 in
set_option maxRecDepth 100000 in
theorem encode_ok (a : Option Addr) (n cap : Nat) (fs : List Flt) (w : World) (hr : RdL w a n fs) (hk : chk fs = 0) :
    Calls Try.prog 5 #[.slice a n cap] w fun e w' => ∃ v, e = .returned (.tuple #[v, .int .i64 0]) ∧ Own w' w.heap.size v (encL fs) ∧ Below w.heap.size w w' := by
  obtain ⟨hall, hnd, h256⟩ := chk_ok hk
  have HL := hide hr.1
  rw [HL.out] at h256
  have HR := hide hr
  have HK := hide hk
  have HALL := hide hall
  have hni : (n : Int) ≤ 256 := by omega
  clear hr hk hall hnd
  go_enter Try.func5, Try.ntmps5
  go_wp2_with fail
  refine (check_any a n cap fs w HR.out).mono ?_
  rintro e w1 ⟨rfl, hb1⟩
  have HB1 := hide hb1
  rw [HK.out]
  clear hb1
  go_wp2_with fail
  refine (put_any (n : Int) _ (wf_small (by omega))).mono ?_
  rintro e w2 ⟨v, rfl, ho2, hb2⟩
  rw [putI_nat] at ho2
  have HO2 := hide (ho2.mono HB1.out.size)
  have HB2 := hide (below_trans HB1.out hb2)
  clear ho2 hb2
  go_wp2_with fail
  go_loopw [5, 18] (fun sv si wr => ∃ (i : Nat) (v : Value), i ≤ n ∧ v = sv ∧ .int .i64 (i : Int) = si ∧ Hid (Own wr w.heap.size v (put n ++ (fs.take i).flatMap encF1)) ∧ Hid (Below w.heap.size w wr)) (fun _ si _ => n - (intOf si).toNat)
  case atStart => exact ⟨0, v, by omega, rfl, rfl, by show Own _ _ _ _; simpa using HO2.out, HB2.out⟩
  case round =>
    clear HO2 HB2
    obtain ⟨i, v, hi, rfl, rfl, HO, HB⟩ := hrel
    by_cases hin : i < n
    · have hii : (i : Int) < (n : Int) := by omega
      obtain ⟨b1, o1, rfl, hl1, hc1⟩ := HR.out.2 (by omega)
      obtain ⟨f, hf⟩ : ∃ f, fs.getD i f0 = f := ⟨_, rfl⟩
      obtain ⟨p0, p1, p2, p3, p4, p5, p6, p7⟩ := (hc1 i hin).same (w' := wr) (fun k => HB.out.cell (p := ⟨b1, k, none⟩) hl1)
      rw [hf] at p0 p1 p2 p3 p4 p5 p6 p7
      have hil : i < fs.length := by rw [HL.out]; exact hin
      have hmay : may f = true := by rw [← hf]; exact List.all_eq_true.1 HALL.out _ (getD_mem hil)
      have HNEXT : Hid (put n ++ (fs.take (i + 1)).flatMap encF1 = put n ++ (fs.take i).flatMap encF1 ++ encF1 f) := by
        show _ = _
        rw [take_all fs i f hil hf, List.flatMap_append, List.append_assoc]
        simp
      have HLEN : Hid ((put n ++ (fs.take i).flatMap encF1).length ≤ 16393) := by
        show _ ≤ _
        have h4 := flat_len (fs.take i) (by rw [List.all_eq_true]; intro g hg; exact List.all_eq_true.1 HALL.out g (List.mem_of_mem_take hg))
        have h5 := (put_nine n (by omega)).2
        have h6 := List.length_take_le i fs
        rw [List.length_append]
        omega
      obtain ⟨B0, hB⟩ : ∃ B0, put n ++ (fs.take i).flatMap encF1 = B0 := ⟨_, rfl⟩
      rw [hB] at HO HNEXT HLEN
      obtain ⟨m1, m2, m3, m4, m5, m6⟩ := may_nums hmay
      obtain ⟨k, j, t, at_, m, r, p, q⟩ := f
      simp only at p0 p1 p2 p3 p4 p5 p6 p7 m1 m2 m3 m4 m5 m6
      obtain ⟨K, rfl⟩ := Int.eq_ofNat_of_zero_le m1.1
      obtain ⟨J, rfl⟩ := Int.eq_ofNat_of_zero_le m2.1
      obtain ⟨T, rfl⟩ := Int.eq_ofNat_of_zero_le m3.1
      obtain ⟨A, rfl⟩ := Int.eq_ofNat_of_zero_le (show 0 ≤ at_ by omega)
      obtain ⟨M, rfl⟩ := Int.eq_ofNat_of_zero_le m5.1
      obtain ⟨R, rfl⟩ := Int.eq_ofNat_of_zero_le m6.1
      have HENC : Hid (encF1 ⟨(K : Int), (J : Int), (T : Int), (A : Int), (M : Int), (R : Int), p, q⟩ = [B8 K, B8 J] ++ put T ++ put A ++ [B8 M] ++ put R ++ fixed (w64 p) 8 ++ fixed q.toNat 4) := rfl
      have hT : T ≤ 65535 := by omega
      have hA : A ≤ 16 := by omega
      have hR : R ≤ 65535 := by omega
      have k1 := byte_of K (by omega)
      have k2 := byte_of J (by omega)
      have k3 := byte_of M (by omega)
      have HU : Hid (w64 p < 18446744073709551616) := w64_lt p
      have ku : IntKind.u64.wrap p = ((w64 p : Nat) : Int) := by unfold w64; rw [IntKind.wrap_u64]; omega
      have kq : IntKind.u64.wrap (q.toNat : Int) = (q.toNat : Int) := by rw [IntKind.wrap_u64]; have := q.isLt; omega
      generalize w64 p = U at HENC HU ku
      have LT := (put_three T hT).2
      have LA := (put_three A (by omega)).2
      have LR := (put_three R hR).2
      have HLT := hide LT
      have HLA := hide LA
      have HLR := hide LR
      clear hf hc1 hmay hB m1 m2 m3 m4 m5 m6 LT LA LR
      generalize B8 K = cK at k1 HENC
      generalize B8 J = cJ at k2 HENC
      generalize B8 M = cM at k3 HENC
      obtain ⟨w0, hw0⟩ : ∃ w0, wr.alloc (.cells #[.int .i64 (K : Int), .int .i64 (J : Int), .int .i64 (T : Int), .int .i64 (A : Int), .int .i64 (M : Int), .int .i64 (R : Int), .int .i64 p, .int .u32 (q.toNat : Int)] 39) = w0 := ⟨_, rfl⟩
      have HF0 : Hid (FB w0 wr.heap.size ⟨(K : Int), (J : Int), (T : Int), (A : Int), (M : Int), (R : Int), p, q⟩) := by show FB _ _ _; rw [← hw0]; exact heap_alloc_new _ _
      have HB0 : Hid (Below wr.heap.size wr w0) := by show Below _ _ _; rw [← hw0]; exact ba (b0 _) _
      have HO0 := hide (HO.out.below HB0.out)
      have HW0 := hide (below_trans HB.out HB0.out)
      obtain ⟨t0, t1, t2, t3, t4, t5, t6, t7⟩ := HF0.out.cells
      simp only at t0 t1 t2 t3 t4 t5 t6 t7
      have HLEN0 := HLEN
      have HF0' := HF0
      obtain ⟨v0, hv0⟩ : ∃ v0, v0 = v := ⟨_, rfl⟩
      subst hv0
      clear HLEN
      have HRa0 := hide (two_bytes w0 cK cJ)
      have HOa0 := hide (HO0.out.below (ba (b0 w0) (.cells #[.int .u8 (cK.toNat : Int), .int .u8 (cJ.toNat : Int)] 5)))
      have HFa0 := hide (HF0.out.below (ba (b0 w0) (.cells #[.int .u8 (cK.toNat : Int), .int .u8 (cJ.toNat : Int)] 5)))
      have HWa0 := hide (ba HW0.out (.cells #[.int .u8 (cK.toNat : Int), .int .u8 (cJ.toNat : Int)] 5))
      go_wp2_with (first
        | (at_builtin; refine join _ rfl _ _ rfl w.heap.size v0 B0 rfl HOa0.out (some ⟨w0.heap.size, 0, none⟩) 2 2 [cK, cJ] rfl HRa0.out (by intro h; cases h) (by have := HLEN0.out; omega) HWa0.out.size ?_
           intro v1 w1 ho hg
           obtain ⟨B1, hB1⟩ : ∃ B1, B0 ++ [cK, cJ] = B1 := ⟨_, rfl⟩
           have HLEN1 : Hid (B1.length ≤ 16400) := by show _ ≤ _; rw [← hB1, List.length_append]; have := HLEN0.out; simp only [List.length_cons, List.length_nil]; omega
           rw [hB1] at ho
           have HBE1 := hide hB1
           have HO1 := hide ho
           have HW1 : Hid (Below w.heap.size w w1) := HWa0.out.grown hg HWa0.out.size (fun i e => (World.ownsRow.lt HOa0.out i e).1)
           have HF1 := hide (HFa0.out.grown hg (fb_ne HFa0.out HOa0.out))
           obtain ⟨t0, t1, t2, t3, t4, t5, t6, t7⟩ := HF1.out.cells
           simp only at t0 t1 t2 t3 t4 t5 t6 t7
           clear ho hg hB1))
      refine (put_any (T : Int) _ (wf_small (by omega))).mono ?_
      rintro e y1 ⟨u1, rfl, hu, hb⟩
      rw [putI_nat] at hu
      obtain ⟨ua1, uc1, rfl⟩ := hu.shape
      have HU1 := hide hu
      have HNU1 : Hid (ua1 = none → (put T).length = 0 ∧ uc1 = 0) := fun h => Got.nil HU1.out h
      have HRU1 := hide (Got.rd HU1.out (by have h8 := HLT.out; omega))
      have HOa1 := hide (HO1.out.below hb)
      have HFa1 := hide (HF1.out.below hb)
      have HWa1 := hide (below_trans HW1.out hb)
      clear t0 t1 t2 t3 t4 t5 t6 t7
      obtain ⟨t0, t1, t2, t3, t4, t5, t6, t7⟩ := HFa1.out.cells
      simp only at t0 t1 t2 t3 t4 t5 t6 t7
      clear hu hb
      go_wp2_with (first
        | (at_builtin; refine join _ rfl _ _ rfl w.heap.size v1 B1 rfl HOa1.out ua1 (put T).length uc1 (put T) rfl HRU1.out HNU1.out (by have := HLEN1.out; have h8 := HLT.out; omega) HWa1.out.size ?_
           intro v2 w2 ho hg
           obtain ⟨B2, hB2⟩ : ∃ B2, B1 ++ put T = B2 := ⟨_, rfl⟩
           have HLEN2 : Hid (B2.length ≤ 16420) := by show _ ≤ _; rw [← hB2, List.length_append]; have := HLEN1.out; have h8 := HLT.out; omega
           rw [hB2] at ho
           have HBE2 := hide hB2
           have HO2 := hide ho
           have HW2 : Hid (Below w.heap.size w w2) := HWa1.out.grown hg HWa1.out.size (fun i e => (World.ownsRow.lt HOa1.out i e).1)
           have HF2 := hide (HFa1.out.grown hg (fb_ne HFa1.out HOa1.out))
           obtain ⟨t0, t1, t2, t3, t4, t5, t6, t7⟩ := HF2.out.cells
           simp only at t0 t1 t2 t3 t4 t5 t6 t7
           clear ho hg hB2))
      refine (put_any (A : Int) _ (wf_small (by omega))).mono ?_
      rintro e y2 ⟨u2, rfl, hu, hb⟩
      rw [putI_nat] at hu
      obtain ⟨ua2, uc2, rfl⟩ := hu.shape
      have HU2 := hide hu
      have HNU2 : Hid (ua2 = none → (put A).length = 0 ∧ uc2 = 0) := fun h => Got.nil HU2.out h
      have HRU2 := hide (Got.rd HU2.out (by have h8 := HLA.out; omega))
      have HOa2 := hide (HO2.out.below hb)
      have HFa2 := hide (HF2.out.below hb)
      have HWa2 := hide (below_trans HW2.out hb)
      clear t0 t1 t2 t3 t4 t5 t6 t7
      obtain ⟨t0, t1, t2, t3, t4, t5, t6, t7⟩ := HFa2.out.cells
      simp only at t0 t1 t2 t3 t4 t5 t6 t7
      clear hu hb
      go_wp2_with (first
        | (at_builtin; refine join _ rfl _ _ rfl w.heap.size v2 B2 rfl HOa2.out ua2 (put A).length uc2 (put A) rfl HRU2.out HNU2.out (by have := HLEN2.out; have h8 := HLA.out; omega) HWa2.out.size ?_
           intro v3 w3 ho hg
           obtain ⟨B3, hB3⟩ : ∃ B3, B2 ++ put A = B3 := ⟨_, rfl⟩
           have HLEN3 : Hid (B3.length ≤ 16440) := by show _ ≤ _; rw [← hB3, List.length_append]; have := HLEN2.out; have h8 := HLA.out; omega
           rw [hB3] at ho
           have HBE3 := hide hB3
           have HO3 := hide ho
           have HW3 : Hid (Below w.heap.size w w3) := HWa2.out.grown hg HWa2.out.size (fun i e => (World.ownsRow.lt HOa2.out i e).1)
           have HF3 := hide (HFa2.out.grown hg (fb_ne HFa2.out HOa2.out))
           obtain ⟨t0, t1, t2, t3, t4, t5, t6, t7⟩ := HF3.out.cells
           simp only at t0 t1 t2 t3 t4 t5 t6 t7
           clear ho hg hB3
           have HRa3 := hide (one_byteE w3 cM)
           have HOa3 := hide (HO3.out.below (ba (b0 w3) (.cells #[.int .u8 (cM.toNat : Int)] 5)))
           have HFa3 := hide (HF3.out.below (ba (b0 w3) (.cells #[.int .u8 (cM.toNat : Int)] 5)))
           have HWa3 := hide (ba HW3.out (.cells #[.int .u8 (cM.toNat : Int)] 5)))
        | (at_builtin; refine join _ rfl _ _ rfl w.heap.size v3 B3 rfl HOa3.out (some ⟨w3.heap.size, 0, none⟩) 1 1 [cM] rfl HRa3.out (by intro h; cases h) (by have := HLEN3.out; omega) HWa3.out.size ?_
           intro v4 w4 ho hg
           obtain ⟨B4, hB4⟩ : ∃ B4, B3 ++ [cM] = B4 := ⟨_, rfl⟩
           have HLEN4 : Hid (B4.length ≤ 16450) := by show _ ≤ _; rw [← hB4, List.length_append]; have := HLEN3.out; simp only [List.length_cons, List.length_nil]; omega
           rw [hB4] at ho
           have HBE4 := hide hB4
           have HO4 := hide ho
           have HW4 : Hid (Below w.heap.size w w4) := HWa3.out.grown hg HWa3.out.size (fun i e => (World.ownsRow.lt HOa3.out i e).1)
           have HF4 := hide (HFa3.out.grown hg (fb_ne HFa3.out HOa3.out))
           obtain ⟨t0, t1, t2, t3, t4, t5, t6, t7⟩ := HF4.out.cells
           simp only at t0 t1 t2 t3 t4 t5 t6 t7
           clear ho hg hB4))
      refine (put_any (R : Int) _ (wf_small (by omega))).mono ?_
      rintro e y4 ⟨u4, rfl, hu, hb⟩
      rw [putI_nat] at hu
      obtain ⟨ua4, uc4, rfl⟩ := hu.shape
      have HU4 := hide hu
      have HNU4 : Hid (ua4 = none → (put R).length = 0 ∧ uc4 = 0) := fun h => Got.nil HU4.out h
      have HRU4 := hide (Got.rd HU4.out (by have h8 := HLR.out; omega))
      have HOa4 := hide (HO4.out.below hb)
      have HFa4 := hide (HF4.out.below hb)
      have HWa4 := hide (below_trans HW4.out hb)
      clear t0 t1 t2 t3 t4 t5 t6 t7
      obtain ⟨t0, t1, t2, t3, t4, t5, t6, t7⟩ := HFa4.out.cells
      simp only at t0 t1 t2 t3 t4 t5 t6 t7
      clear hu hb
      go_wp2_with (first
        | (at_builtin; refine join _ rfl _ _ rfl w.heap.size v4 B4 rfl HOa4.out ua4 (put R).length uc4 (put R) rfl HRU4.out HNU4.out (by have := HLEN4.out; have h8 := HLR.out; omega) HWa4.out.size ?_
           intro v5 w5 ho hg
           obtain ⟨B5, hB5⟩ : ∃ B5, B4 ++ put R = B5 := ⟨_, rfl⟩
           have HLEN5 : Hid (B5.length ≤ 16470) := by show _ ≤ _; rw [← hB5, List.length_append]; have := HLEN4.out; have h8 := HLR.out; omega
           rw [hB5] at ho
           have HBE5 := hide hB5
           have HO5 := hide ho
           have HW5 : Hid (Below w.heap.size w w5) := HWa4.out.grown hg HWa4.out.size (fun i e => (World.ownsRow.lt HOa4.out i e).1)
           have HF5 := hide (HFa4.out.grown hg (fb_ne HFa4.out HOa4.out))
           obtain ⟨t0, t1, t2, t3, t4, t5, t6, t7⟩ := HF5.out.cells
           simp only at t0 t1 t2 t3 t4 t5 t6 t7
           clear ho hg hB5))
      refine (fixed_any U 8 _ HU.out (by decide)).mono ?_
      rintro e y5 ⟨u5, rfl, hu, hb⟩
      rw [show fixI U 8 = fixed U 8 from rfl] at hu
      obtain ⟨ua5, uc5, rfl⟩ := hu.shape
      have HU5 := hide hu
      have HNU5 : Hid (ua5 = none → (fixed U 8).length = 0 ∧ uc5 = 0) := fun h => Got.nil HU5.out h
      have HRU5 := hide (Got.rd HU5.out (by have h8 := length_fixed U 8; omega))
      have HOa5 := hide (HO5.out.below hb)
      have HFa5 := hide (HF5.out.below hb)
      have HWa5 := hide (below_trans HW5.out hb)
      clear t0 t1 t2 t3 t4 t5 t6 t7
      obtain ⟨t0, t1, t2, t3, t4, t5, t6, t7⟩ := HFa5.out.cells
      simp only at t0 t1 t2 t3 t4 t5 t6 t7
      clear hu hb
      go_wp2_with (first
        | (at_builtin; refine join _ rfl _ _ rfl w.heap.size v5 B5 rfl HOa5.out ua5 (fixed U 8).length uc5 (fixed U 8) rfl HRU5.out HNU5.out (by have := HLEN5.out; have h8 := length_fixed U 8; omega) HWa5.out.size ?_
           intro v6 w6 ho hg
           obtain ⟨B6, hB6⟩ : ∃ B6, B5 ++ fixed U 8 = B6 := ⟨_, rfl⟩
           have HLEN6 : Hid (B6.length ≤ 16480) := by show _ ≤ _; rw [← hB6, List.length_append]; have := HLEN5.out; have h8 := length_fixed U 8; omega
           rw [hB6] at ho
           have HBE6 := hide hB6
           have HO6 := hide ho
           have HW6 : Hid (Below w.heap.size w w6) := HWa5.out.grown hg HWa5.out.size (fun i e => (World.ownsRow.lt HOa5.out i e).1)
           have HF6 := hide (HFa5.out.grown hg (fb_ne HFa5.out HOa5.out))
           obtain ⟨t0, t1, t2, t3, t4, t5, t6, t7⟩ := HF6.out.cells
           simp only at t0 t1 t2 t3 t4 t5 t6 t7
           clear ho hg hB6))
      refine (fixed_any q.toNat 4 _ (by have := q.isLt; omega) (by decide)).mono ?_
      rintro e y6 ⟨u6, rfl, hu, hb⟩
      rw [show fixI q.toNat 4 = fixed q.toNat 4 from rfl] at hu
      obtain ⟨ua6, uc6, rfl⟩ := hu.shape
      have HU6 := hide hu
      have HNU6 : Hid (ua6 = none → (fixed q.toNat 4).length = 0 ∧ uc6 = 0) := fun h => Got.nil HU6.out h
      have HRU6 := hide (Got.rd HU6.out (by have h8 := length_fixed q.toNat 4; omega))
      have HOa6 := hide (HO6.out.below hb)
      have HFa6 := hide (HF6.out.below hb)
      have HWa6 := hide (below_trans HW6.out hb)
      clear t0 t1 t2 t3 t4 t5 t6 t7
      obtain ⟨t0, t1, t2, t3, t4, t5, t6, t7⟩ := HFa6.out.cells
      simp only at t0 t1 t2 t3 t4 t5 t6 t7
      clear hu hb
      go_wp2_with (first
        | (at_builtin; refine join _ rfl _ _ rfl w.heap.size v6 B6 rfl HOa6.out ua6 (fixed q.toNat 4).length uc6 (fixed q.toNat 4) rfl HRU6.out HNU6.out (by have := HLEN6.out; have h8 := length_fixed q.toNat 4; omega) HWa6.out.size ?_
           intro v7 w7 ho hg
           obtain ⟨B7, hB7⟩ : ∃ B7, B6 ++ fixed q.toNat 4 = B7 := ⟨_, rfl⟩
           have HLEN7 : Hid (B7.length ≤ 16490) := by show _ ≤ _; rw [← hB7, List.length_append]; have := HLEN6.out; have h8 := length_fixed q.toNat 4; omega
           rw [hB7] at ho
           have HBE7 := hide hB7
           have HO7 := hide ho
           have HW7 : Hid (Below w.heap.size w w7) := HWa6.out.grown hg HWa6.out.size (fun i e => (World.ownsRow.lt HOa6.out i e).1)
           have HF7 := hide (HFa6.out.grown hg (fb_ne HFa6.out HOa6.out))
           obtain ⟨t0, t1, t2, t3, t4, t5, t6, t7⟩ := HF7.out.cells
           simp only at t0 t1 t2 t3 t4 t5 t6 t7
           clear ho hg hB7))
      go_roundw
      case rel =>
        refine ⟨i + 1, _, by omega, rfl, by go_num, ?_, HW7.out⟩
        show Own _ _ _ _
        have hq : put n ++ (fs.take (i + 1)).flatMap encF1 = B7 := by rw [HNEXT.out, HENC.out, ← HBE7.out, ← HBE6.out, ← HBE5.out, ← HBE4.out, ← HBE3.out, ← HBE2.out, ← HBE1.out]; simp only [List.append_assoc]
        rw [hq]
        exact HO7.out
      case measure => simp [intOf]; omega
    · obtain rfl : i = n := by omega
      have hall : fs.take i = fs := List.take_of_length_le (by rw [HL.out]; exact Nat.le_refl _)
      rw [hall] at HO
      have HE : Hid (encL fs = put i ++ fs.flatMap encF1) := by show _ = _; unfold encL; rw [HL.out]
      clear hall
      go_wp2_with fail
      go_ret2
      exact ⟨_, rfl, by rw [HE.out]; exact HO.out, HB.out⟩
set_option maxHeartbeats 1000000 in
theorem encode_no (a : Option Addr) (n cap : Nat) (fs : List Flt) (w : World) (hr : RdL w a n fs) (hk : chk fs ≠ 0) :
    Calls Try.prog 5 #[.slice a n cap] w fun e w' => e = .returned (.tuple #[.slice none 0 0, .int .i64 (chk fs : Nat)]) ∧ Below w.heap.size w w' := by
  have HR := hide hr
  obtain ⟨Q, hQ⟩ : ∃ Q, chk fs = Q := ⟨_, rfl⟩
  rw [hQ] at hk ⊢
  have HK := hide hQ
  have hki : ((Q : Int) != 0) = true := by simp; omega
  clear hr hQ hk
  go_enter Try.func5, Try.ntmps5
  go_wp2_with fail
  refine (check_any a n cap fs w HR.out).mono ?_
  rintro e w1 ⟨rfl, hb1⟩
  have HB1 := hide hb1
  rw [HK.out]
  clear hb1
  go_wp2_with fail
  go_ret2
  exact ⟨rfl, HB1.out⟩
end Go.Proofs.Ytbmbhcjocgbbpab.Fa
