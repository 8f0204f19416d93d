/-
  The document's Trailer.
-/
import Derived.Test.YtjikoamchbmhjaaFtProg
import Derived.Test.YtjikoamchbmhjaaFtMay
import Derived.Test.YtjikoamchbmhjaaCzRefTile
import Derived.Test.YtjikoamchbmhjaaNumsRefC
namespace Go.Proofs.Ytjikoamchbmhjaa.Foot
open Go.ChangeShapes Go.WideShapes Go.ChangeAt Go.RowKit
open Go.Proofs.Ytjikoamchbmhjaa.Base Go.Proofs.Ytjikoamchbmhjaa.Nums Go.Proofs.Ytjikoamchbmhjaa.Curs Go.Proofs.Ytjikoamchbmhjaa.Crc
set_option linter.unusedVariables false
theorem okT_nat (B P : Nat) (hB : B ≤ 268435456) : okT (B : Int) (P : Int) = true ↔ okN P := by
  unfold okT okN
  rw [decide_eq_true_iff]
  omega
theorem okT_far (X Y : Nat) (hX : X < 18446744073709551616) (hY : Y < 18446744073709551616) (h : 268435456 < X ∨ 1073741824 < Y) : okT (wrap64 (X : Int)) (wrap64 (Y : Int)) = false := by
  unfold okT wrap64
  exact decide_eq_false (by omega)
theorem wrap_near (X : Nat) (hX : X ≤ 1073741824) : wrap64 (X : Int) = (X : Int) := by unfold wrap64; omega
set_option maxHeartbeats 1000000 in
set_option maxRecDepth 100000 in
theorem may_any (B P : Nat) (hB : B ≤ 268435456) (hP : P ≤ 4611686018427387903) (w : World) : Calls Try.prog 14 #[.agg #[.int .i64 (B : Int), .int .i64 (P : Int)]] w fun e w' => e = .returned (.bool (okT (B : Int) (P : Int))) ∧ Below w.heap.size w w' := by
  obtain ⟨w1, hw1⟩ : ∃ w1, w.alloc (.cells #[.int .i64 (B : Int), .int .i64 (P : Int)] 24) = w1 := ⟨_, rfl⟩
  have HB1 : Hid (Below w.heap.size w w1) := by rw [← hw1]; exact (Below.refl _ _).alloc (Nat.le_refl _) _
  have hT : TB w1 w.heap.size (B : Int) (P : Int) := by rw [← hw1]; exact TB.new _ _ _
  obtain ⟨g, hg⟩ : ∃ g, w.heap.size = g := ⟨_, rfl⟩
  rw [hg] at hT
  have HT := hide hT
  have f0 := hT.c0
  have f1 := hT.c1
  have HG := hide hg
  have HE := hide (okT_nat B P hB)
  have d1 : decide ((B : Int) < 0) = false := by simp
  have d2 : decide (268435456 < (B : Int)) = false := by simpa using (by omega : (B : Int) ≤ 268435456)
  have d3 : decide ((P : Int) < 0) = false := by simp
  clear hT
  go_enter Try.func14, Try.ntmps14
  go_wp2_with fail
  refine (bodyOf_any P hP _).mono ?_
  rintro e w2 ⟨⟨b, rfl, hb⟩, hb2⟩
  have HB2 : Hid (Below w.heap.size w w2) := HB1.out.trans (hb2.mono HB1.out.size)
  have HF : Hid (okT (B : Int) (P : Int) = decide (0 < b)) := by
    show _ = _
    by_cases h : okN P
    · rw [HE.out.2 h, decide_eq_true (hb.2 h)]
    · rw [decide_eq_false (fun h2 => h (hb.1 h2))]
      have := HE.out
      cases hk : okT (B : Int) (P : Int)
      · rfl
      · exact absurd (this.1 hk) h
  clear hb hb2
  go_wp2_with fail
  go_ret
  rw [HF.out]
  exact ⟨rfl, by first | exact HB2.out | (rw [← HG.out]; exact HB2.out)⟩
theorem rd_from {w : World} {a : Addr} {n : Nat} {bs : List (BitVec 8)} (h : Rd w (some a) n bs) (hp : 0 < n) : ∃ b off, a = ⟨b, off, none⟩ := by
  obtain ⟨b, off, e, _⟩ := h.2.2 hp
  exact ⟨b, off, Option.some.inj e⟩
set_option maxHeartbeats 1000000 in
set_option maxRecDepth 100000 in
theorem refTrailer_any (a : Option Addr) (n c : Nat) (bs : List (BitVec 8)) (size : Int) (w : World) (hr : Rd w a n bs) (hn : n ≤ c) (hm : n ≤ 140737488351232) :
    Calls Try.prog 5 #[.slice a n c, .int .i64 size] w fun e w' => e = .returned (.tuple #[.agg #[.int .i64 (trailOf bs size).1, .int .i64 (trailOf bs size).2.1], .int .i64 (trailOf bs size).2.2]) ∧ Below w.heap.size w w' := by
  have HR := hide hr
  have HL := hide hr.1
  clear hr
  have HE : Hid (trailOf bs size = if bs.length ≠ 24 ∨ openErr bs ≠ 0 then (0, 0, 81)
    else if bs.take 4 ≠ magicL ∨ okT (wordI ((bs.drop 4).take 8)) (wordI ((bs.drop 12).take 8)) = false then (0, 0, 81)
    else if wordI ((bs.drop 4).take 8) + wordI ((bs.drop 12).take 8) + 24 ≠ size then (0, 0, 82)
    else (wordI ((bs.drop 4).take 8), wordI ((bs.drop 12).take 8), 0)) := rfl
  by_cases h24 : n = 24
  · subst h24
    obtain ⟨w0, hw0⟩ : ∃ w0, w.alloc (.cells #[.int .i64 0, .int .i64 0] 24) = w0 := ⟨_, rfl⟩
    have hT0 : TB w0 w.heap.size 0 0 := by rw [← hw0]; exact TB.new _ _ _
    have hB0 : Below w.heap.size w w0 := by rw [← hw0]; exact (Below.refl _ _).alloc (Nat.le_refl _) _
    obtain ⟨r, hr0⟩ : ∃ r, w.heap.size = r := ⟨_, rfl⟩
    rw [hr0] at hT0
    have HRS := hide hr0
    have HT0 := hide hT0
    have HB0 := hide hB0
    have HR0 := hide (HR.out.below hB0)
    clear hT0 hB0
    go_enter Try.func5, Try.ntmps5
    go_wp2_with fail
    refine (refOpen_any a 24 c bs w0 HR0.out hn (by omega)).mono ?_
    rintro e w1 ⟨v, rfl, ⟨va, vn, vc, rfl, hvn, hov⟩, hb1⟩
    have HT1 := hide (HT0.out.below hb1)
    have HB1 := hide (below_trans HB0.out hb1)
    have HO1 := hide hov
    have HVN := hide hvn
    clear hvn hov hb1
    have t0 := HT1.out.c0
    have t1 := HT1.out.c1
    have z0 := HT1.out.fz 0
    have z1 := HT1.out.fz 1
    by_cases hop : openErr bs = 0
    · have EB : Hid (openBody bs = bs.take 20) := by show _ = _; unfold openBody; rw [if_pos hop, HL.out]
      obtain ⟨L, hLd⟩ : ∃ L, bs.take 20 = L := ⟨_, rfl⟩
      have HLL : Hid (L.length = 20) := by show _ = _; rw [← hLd, List.length_take, HL.out]; omega
      have F1 : Hid (L.take 4 = bs.take 4) := by show _ = _; rw [← hLd, List.take_take]; rfl
      have F2 : Hid ((L.drop 4).take 8 = (bs.drop 4).take 8) := by show _ = _; rw [← hLd, List.drop_take, List.take_take]; rfl
      have F3 : Hid ((L.drop 12).take 8 = (bs.drop 12).take 8) := by show _ = _; rw [← hLd, List.drop_take, List.take_take]; rfl
      rw [EB.out, hLd] at HO1 HVN
      have hv20 : vn = 20 := by have := HVN.out; have := HLL.out; omega
      subst hv20
      have hcap := (Got.cap HO1.out).1
      have HRV := hide (Got.rd HO1.out (by rw [HLL.out]; omega))
      rcases va with _ | va
      · exfalso
        have h := Got.nil HO1.out rfl
        omega
      obtain ⟨b, off, rfl⟩ := rd_from HRV.out (by omega)
      have hcv := conv_str (c := vc) (HRV.out.cut 4 (by omega))
      rw [F1.out] at hcv
      have R4 : Hid (Rd w1 (some ⟨b, off + 4, none⟩) 8 ((bs.drop 4).take 8)) := by
        have h := (HRV.out.from 4 (by omega)).cut 8 (by omega)
        rw [F2.out] at h
        exact h
      have R12 : Hid (Rd w1 (some ⟨b, off + 12, none⟩) 8 ((bs.drop 12).take 8)) := by
        have h := (HRV.out.from 12 (by omega)).cut 8 (by omega)
        rw [F3.out] at h
        exact h
      have HX1 := hide (word_lt ((bs.drop 4).take 8))
      have HX2 := hide (word_lt ((bs.drop 12).take 8))
      have HE2 : Hid (trailOf bs size = if bs.take 4 ≠ magicL ∨ okT (wordI ((bs.drop 4).take 8)) (wordI ((bs.drop 12).take 8)) = false then (0, 0, 81)
        else if wordI ((bs.drop 4).take 8) + wordI ((bs.drop 12).take 8) + 24 ≠ size then (0, 0, 82)
        else (wordI ((bs.drop 4).take 8), wordI ((bs.drop 12).take 8), 0)) := by show _ = _; rw [HE.out, if_neg (by rw [HL.out]; intro h; rcases h with h | h; exact h rfl; exact h hop)]
      unfold wordI at HE2
      have HW4 := hide (refWord_any _ 8 (vc - 4) _ w1 R4.out)
      have HW12 : Hid (∀ W, Below w1.heap.size w1 W → _) := fun W h => refWord_any _ 8 (vc - 12) _ W (R12.out.below h)
      generalize word ((bs.drop 4).take 8) = X at HW4 HX1 HE2
      generalize word ((bs.drop 12).take 8) = Y at HW12 HX2 HE2
      have HMG := hide (magic_eq (bs.take 4))
      obtain ⟨S, hS⟩ : ∃ S, str (bs.take 4) = S := ⟨_, rfl⟩
      rw [hS] at hcv HMG
      clear hS hLd EB HE F2 F3 HVN
      by_cases hm : bs.take 4 = magicL
      · have hmg : (S.toList == [119, 110, 119, 49]) = true := by rw [HMG.out]; exact decide_eq_true hm
        have HE3 : Hid (trailOf bs size = if okT (wrap64 (X : Int)) (wrap64 (Y : Int)) = false then (0, 0, 81) else if wrap64 (X : Int) + wrap64 (Y : Int) + 24 ≠ size then (0, 0, 82) else (wrap64 (X : Int), wrap64 (Y : Int), 0)) := by
          show _ = _
          rw [HE2.out]
          by_cases h : okT (wrap64 (X : Int)) (wrap64 (Y : Int)) = false
          · rw [if_pos (.inr h), if_pos h]
          · rw [if_neg (by rintro (h1 | h1); exact h1 hm; exact h h1), if_neg h]
        clear hm HMG HE2
        go_wp2_with fail
        refine HW4.out.mono ?_
        rintro e w2 ⟨rfl, hb2⟩
        have HT2 := hide (HT1.out.below hb2)
        have HB2 := hide (below_trans HB1.out hb2)
        have HW := hide (HW12.out w2 hb2)
        clear hb2 t0 t1 z0 z1 hcv
        go_wp2_with fail
        refine HW.out.mono ?_
        rintro e w3 ⟨rfl, hb3⟩
        have HT3 := hide (HT2.out.below hb3)
        have HB3 := hide (below_trans HB2.out hb3)
        clear hb3
        have t0 := HT3.out.c0
        have t1 := HT3.out.c1
        have z0 := HT3.out.fz 0
        have z1 := HT3.out.fz 1
        by_cases hfar : 268435456 < X ∨ 1073741824 < Y
        · have HE5 : Hid (trailOf bs size = (0, 0, 81)) := by show _ = _; rw [HE3.out, if_pos (okT_far X Y HX1.out HX2.out hfar)]
          by_cases hx : 268435456 < X
          · have d1 : decide (268435456 < (X : Int)) = true := by simpa using (by omega : 268435456 < (X : Int))
            go_wp2_with fail
            refine bodyPost_ret (tb_ret2 rfl _ _ r 0 0 rfl (HT3.out.set2 0 0)) rfl ?_
            exact ⟨ret_trail HE5.out, by first | exact below2 HB3.out (by rw [HRS.out]; exact Nat.le_refl _) _ _ | (rw [← HRS.out]; exact below2 HB3.out (by rw [HRS.out]; exact Nat.le_refl _) _ _)⟩
          · have d1 : decide (268435456 < (X : Int)) = false := by simpa using (by omega : (X : Int) ≤ 268435456)
            have d2 : decide (1073741824 < (Y : Int)) = true := by simpa using (by omega : 1073741824 < (Y : Int))
            go_wp2_with fail
            refine bodyPost_ret (tb_ret2 rfl _ _ r 0 0 rfl (HT3.out.set2 0 0)) rfl ?_
            exact ⟨ret_trail HE5.out, by first | exact below2 HB3.out (by rw [HRS.out]; exact Nat.le_refl _) _ _ | (rw [← HRS.out]; exact below2 HB3.out (by rw [HRS.out]; exact Nat.le_refl _) _ _)⟩
        · have hx1 : X ≤ 268435456 := by omega
          have hy1 : Y ≤ 1073741824 := by omega
          have d1 : decide (268435456 < (X : Int)) = false := by simpa using (by omega : (X : Int) ≤ 268435456)
          have d2 : decide (1073741824 < (Y : Int)) = false := by simpa using (by omega : (Y : Int) ≤ 1073741824)
          rw [wrap_near X (by omega), wrap_near Y hy1] at HE3
          obtain ⟨w6, hw6⟩ : ∃ w6, w3.alloc (.cells #[.int .i64 (X : Int), .int .i64 (Y : Int)] 24) = w6 := ⟨_, rfl⟩
          have hb56 : Below w3.heap.size w3 w6 := by rw [← hw6]; exact (Below.refl _ _).alloc (Nat.le_refl _) _
          have HN6 : Hid (TB w6 w3.heap.size (X : Int) (Y : Int)) := by rw [← hw6]; exact TB.new _ _ _
          have HT6 := hide (HT3.out.below hb56)
          have HB6 := hide (below_trans HB3.out hb56)
          obtain ⟨q, hq⟩ : ∃ q, w3.heap.size = q := ⟨_, rfl⟩
          rw [hq] at HN6
          have n0 := HN6.out.c0
          have n1 := HN6.out.c1
          clear hb56 hfar
          go_wp2_with fail
          refine (may_any X Y hx1 (by omega) w6).mono ?_
          rintro e w7 ⟨rfl, hb7⟩
          have HT7 := hide (HT6.out.below hb7)
          have HN7 := hide (HN6.out.below hb7)
          have HB7 := hide (below_trans HB6.out hb7)
          clear hb7 n0 n1 t0 t1 z0 z1
          have t0 := HT7.out.c0
          have t1 := HT7.out.c1
          have z0 := HT7.out.fz 0
          have z1 := HT7.out.fz 1
          have n0 := HN7.out.c0
          have n1 := HN7.out.c1
          by_cases hk : okT (X : Int) (Y : Int) = true
          · have HE4 : Hid (trailOf bs size = if (X : Int) + (Y : Int) + 24 ≠ size then (0, 0, 82) else ((X : Int), (Y : Int), 0)) := by
              show _ = _; rw [HE3.out, if_neg (by rw [hk]; simp)]
            rw [hk]
            clear hk HE3
            by_cases hz : (X : Int) + (Y : Int) + 24 = size
            · have HE5 : Hid (trailOf bs size = ((X : Int), (Y : Int), 0)) := by show _ = _; rw [HE4.out, if_neg (by simp [hz])]
              have hzb : ((X : Int) + (Y : Int) + 24 != size) = false := by rw [hz]; simp
              clear HE4
              go_wp2_with fail
              refine bodyPost_ret (tb_ret2 rfl _ _ r (X : Int) (Y : Int) rfl (HT7.out.set2 (X : Int) (Y : Int))) rfl ?_
              exact ⟨ret_trail HE5.out, by first | exact below2 HB7.out (by rw [HRS.out]; exact Nat.le_refl _) _ _ | (rw [← HRS.out]; exact below2 HB7.out (by rw [HRS.out]; exact Nat.le_refl _) _ _)⟩
            · have HE5 : Hid (trailOf bs size = (0, 0, 82)) := by show _ = _; rw [HE4.out, if_pos hz]
              have hzb : ((X : Int) + (Y : Int) + 24 != size) = true := by rw [bne_iff_ne]; exact hz
              clear HE4 hz
              go_wp2_with fail
              refine bodyPost_ret (tb_ret2 rfl _ _ r 0 0 rfl (HT7.out.set2 0 0)) rfl ?_
              exact ⟨ret_trail HE5.out, by first | exact below2 HB7.out (by rw [HRS.out]; exact Nat.le_refl _) _ _ | (rw [← HRS.out]; exact below2 HB7.out (by rw [HRS.out]; exact Nat.le_refl _) _ _)⟩
          · have hk2 : okT (X : Int) (Y : Int) = false := by simpa using hk
            have HE5 : Hid (trailOf bs size = (0, 0, 81)) := by show _ = _; rw [HE3.out, if_pos hk2]
            rw [hk2]
            clear hk hk2 HE3
            go_wp2_with fail
            refine bodyPost_ret (tb_ret2 rfl _ _ r 0 0 rfl (HT7.out.set2 0 0)) rfl ?_
            exact ⟨ret_trail HE5.out, by first | exact below2 HB7.out (by rw [HRS.out]; exact Nat.le_refl _) _ _ | (rw [← HRS.out]; exact below2 HB7.out (by rw [HRS.out]; exact Nat.le_refl _) _ _)⟩
      · have hmg : (S.toList == [119, 110, 119, 49]) = false := by rw [HMG.out]; exact decide_eq_false hm
        have HE5 : Hid (trailOf bs size = (0, 0, 81)) := by show _ = _; rw [HE2.out, if_pos (.inl hm)]
        clear hm HMG HE2
        go_wp2_with fail
        refine bodyPost_ret (tb_ret2 rfl _ _ r 0 0 rfl (HT1.out.set2 0 0)) rfl ?_
        exact ⟨ret_trail HE5.out, by first | exact below2 HB1.out (by rw [HRS.out]; exact Nat.le_refl _) _ _ | (rw [← HRS.out]; exact below2 HB1.out (by rw [HRS.out]; exact Nat.le_refl _) _ _)⟩
    · have d2 : (((openErr bs : Nat) : Int) != 0) = true := by rw [bne_iff_ne]; omega
      generalize openErr bs = oe at d2 hop HE
      have HF : Hid (trailOf bs size = (0, 0, 81)) := by show _ = _; rw [HE.out, if_pos (.inr hop)]
      go_wp2_with fail
      refine bodyPost_ret (tb_ret2 rfl _ _ r 0 0 rfl (HT1.out.set2 0 0)) rfl ?_
      exact ⟨ret_trail HF.out, by first | exact below2 HB1.out (by rw [HRS.out]; exact Nat.le_refl _) _ _ | (rw [← HRS.out]; exact below2 HB1.out (by rw [HRS.out]; exact Nat.le_refl _) _ _)⟩
  · have d1 : ((n : Int) != 24) = true := by rw [bne_iff_ne]; omega
    have HF : Hid (trailOf bs size = (0, 0, 81)) := by show _ = _; rw [HE.out, if_pos (.inl (by rw [HL.out]; exact h24))]
    go_enter Try.func5, Try.ntmps5
    go_wp2_with fail
    refine bodyPost_ret (tb_ret2 rfl _ _ w.heap.size 0 0 rfl (TB.new _ _ _)) rfl ?_
    exact ⟨ret_trail HF.out, (Below.refl _ _).alloc (Nat.le_refl _) _⟩
end Go.Proofs.Ytjikoamchbmhjaa.Foot
