/-
  The class of damage: a flip changes bits within 32 neighbouring ones, a change of length just the length, any other entry nothing.
-/
import Derived.Test.YtbmbhcjocgbbpaaFaClassM
import Derived.Test.YtbmbhcjocgbbpaaFaRChk
import Derived.Test.YtbmbhcjocgbbpaaFaWorks
import Derived.Test.YtbmbhcjocgbbpaaFaOpen
import Derived.Lib.MinMax
namespace Go.Proofs.Ytbmbhcjocgbbpaa.faultClass
open Go.ChangeShapes Go.WideShapes Go.ChangeAt Go.RowKit
open Go.Proofs.Ytbmbhcjocgbbpaa.Base Go.Proofs.Ytbmbhcjocgbbpaa.Fa Go.Proofs.Ytbmbhcjocgbbpaa.St
set_option linter.unusedVariables false
set_option maxHeartbeats 8000000 in
set_option maxRecDepth 100000 in
theorem walk (a : Option Addr) (len cap : Nat) (bs : List (BitVec 8)) (f : Flt) (w : World) (hr : Rd w a len bs) (hlc : len ≤ cap) (hm : cap ≤ 140737488351232) (hnil : a = none → len = 0 ∧ cap = 0) (hwf : Wf f) :
    Calls Try.prog 6 #[.slice a len cap, f.val] w fun e w' => e = .returned (.bool true) ∧ Below w.heap.size w w' := by
  have hpb : f.p ≤ 9223372036854775807 := (wf_bounds hwf.p).2
  have HR := hide hr
  have HL := hide hr.1
  have hl : len ≤ 140737488351232 := by omega
  have hli : (len : Int) ≤ 140737488351232 := by omega
  obtain ⟨w0, hw0⟩ : ∃ w0, w.alloc (.cells #[.int .i64 f.k, .int .i64 f.j, .int .i64 f.t, .int .i64 f.a, .int .i64 f.m, .int .i64 f.r, .int .i64 f.p, .int .u32 (f.q.toNat : Int)] 25) = w0 := ⟨_, rfl⟩
  have HF0 : Hid (FB w0 w.heap.size f) := by show FB _ _ _; rw [← hw0]; exact FB.new w f
  have HB0 : Hid (Below w.heap.size w w0) := by show Below _ _ _; rw [← hw0]; exact ba (b0 _) _
  obtain ⟨p, hpp⟩ : ∃ p, w.heap.size = p := ⟨_, rfl⟩
  rw [hpp] at HF0
  obtain ⟨t0, t1, t2, t3, t4, t5, t6, t7⟩ := HF0.out.cells
  unfold Flt.val
  go_enter Try.func6, Try.ntmps6
  go_wp2_with fail
  refine (dam_any a len cap f bs _ (HR.out.below HB0.out) hnil (by omega) hpb).mono ?_
  rintro e w1 ⟨v, rfl, ho1, hb1⟩
  obtain ⟨va, vc, rfl⟩ := ho1.shape
  have HO1 := hide ho1
  have HF1 := hide (HF0.out.below hb1)
  have HW1 := hide (below_trans HB0.out hb1)
  clear ho1 hb1 hr hnil t0 t1 t2 t3 t4 t5 t6 t7 hw0
  obtain ⟨t0, t1, t2, t3, t4, t5, t6, t7⟩ := HF1.out.cells
  obtain ⟨w2, hw2⟩ : ∃ w2, w1.alloc (.cells #[.int .i64 f.k, .int .i64 f.j, .int .i64 f.t, .int .i64 f.a, .int .i64 f.m, .int .i64 f.r, .int .i64 f.p, .int .u32 (f.q.toNat : Int)] 25) = w2 := ⟨_, rfl⟩
  have HB2 : Hid (Below w1.heap.size w1 w2) := by show Below _ _ _; rw [← hw2]; exact ba (b0 _) _
  have HR2 : Hid (RdL w2 (some ⟨w1.heap.size, 0, none⟩) 1 [f]) := by
    refine ⟨rfl, fun _ => ⟨w1.heap.size, 0, rfl, by rw [← hw2]; simp, fun j hj => ?_⟩⟩
    obtain rfl : j = 0 := by omega
    obtain ⟨e0, e1, e2, e3, e4, e5, e6, e7⟩ := (FB.new w1 f).cells
    rw [← hw2]
    exact ⟨e0, e1, e2, e3, e4, e5, e6, e7⟩
  go_wp2_with fail
  refine (refCheck_any (some ⟨w1.heap.size, 0, none⟩) 1 1 [f] _ HR2.out).mono ?_
  rintro e w3 ⟨rfl, hb3⟩
  rw [chk_one]
  have HB3 := hide (below_trans HB2.out hb3)
  have HF3 := hide (HF1.out.below HB3.out)
  have HO3 := hide (HO1.out.below HB3.out)
  have HW3 := hide (below_trans HW1.out HB3.out)
  have HR3 := hide (HR.out.below HW3.out)
  have HDB : Hid ((damL bs f).length ≤ 140737488355328) := by
    show _ ≤ _
    have hll := HL.out
    unfold damL
    split
    · rename_i hm2
      split
      · unfold flipL; rw [flipTo_len]; omega
      · split
        · rename_i h3
          simp [may, isCh, h3] at hm2
          rw [res_len]
          omega
        · omega
    · omega
  clear hb3 t0 t1 t2 t3 t4 t5 t6 t7 hw2
  obtain ⟨t0, t1, t2, t3, t4, t5, t6, t7⟩ := HF3.out.cells
  by_cases hpl : may f = false ∨ f.k = 0
  · have HD := hide (dam_plain (bs := bs) hpl)
    have HRD : Hid (Rd w3 va (damL bs f).length bs) := by
      have h := Got.rd HO3.out HDB.out
      rwa [HD.out] at h ⊢
    have HLD : Hid ((damL bs f).length = len) := by show _ = _; rw [HD.out, HL.out]
    rw [HLD.out] at HRD ⊢
    by_cases hmy : may f = true
    · rw [if_pos hmy]
      have hk : f.k = 0 := by rcases hpl with h | h; rw [hmy] at h; cases h; exact h
      have hk' : (f.k == 0) = true := by simpa using hk
      clear hpl hmy hk
      go_wp2_with fail
      refine (same_eq va a len vc len cap bs _ HRD.out HR3.out).mono ?_
      rintro e w4 ⟨rfl, hb4⟩
      have HW4 := hide (below_trans HW3.out hb4)
      clear hb4
      go_wp2_with fail
      refine (works_any _).mono ?_
      rintro e w5 ⟨rfl, hb5⟩
      have HW5 := hide (below_trans HW4.out hb5)
      clear hb5
      go_wp2_with fail
      go_ret
      exact ⟨rfl, HW5.out⟩
    · rw [if_neg hmy]
      clear hpl hmy
      go_wp2_with fail
      refine (same_eq va a len vc len cap bs _ HRD.out HR3.out).mono ?_
      rintro e w4 ⟨rfl, hb4⟩
      have HW4 := hide (below_trans HW3.out hb4)
      clear hb4
      go_wp2_with fail
      refine (works_any _).mono ?_
      rintro e w5 ⟨rfl, hb5⟩
      have HW5 := hide (below_trans HW4.out hb5)
      clear hb5
      go_wp2_with fail
      go_ret
      exact ⟨rfl, HW5.out⟩
  have hmy : may f = true := by
    by_cases h : may f = true
    · exact h
    · exact absurd (.inl (bool_ff h)) hpl
  have hk0 : ¬ f.k = 0 := fun h => hpl (.inr h)
  have hk' : (f.k == 0) = false := by simpa using hk0
  rw [if_pos hmy]
  have hsrt := may_sort hmy hk0
  have HMY := hide hmy
  clear hpl hmy hk0
  rcases hsrt with ⟨k1, hp0, hod⟩ | ⟨k2, hp1, hp2⟩
  · have hk1 : (f.k == 2) = false := by rw [k1]; rfl
    have HD : Hid (damL bs f = flipL bs f.p.toNat f.q) := by show _ = _; unfold damL; rw [if_pos HMY.out, if_pos k1]
    have HDL : Hid ((damL bs f).length = len) := by show _ = _; rw [HD.out]; unfold flipL; rw [flipTo_len, HL.out]
    rw [HDL.out] at HO3 ⊢
    obtain ⟨P, hP⟩ := Int.eq_ofNat_of_zero_le hp0
    rw [hP, Int.toNat_natCast] at HD
    have hPb : P ≤ 9223372036854775807 := by omega
    have hPi : (P : Int) ≤ 9223372036854775807 := by omega
    rw [hP] at t6
    have HOD := hide (odd_bit hod)
    clear k1 hp0 hod hP
    by_cases h0 : len = 0
    · subst h0
      go_wp2_with fail
      go_loopw [10] (fun si wr => .int .i64 0 = si ∧ Hid (Below w.heap.size w wr)) (fun _ _ => 0)
      case atStart => exact ⟨rfl, HW3.out⟩
      case round =>
        obtain ⟨rfl, HW⟩ := hrel
        go_wp2_with fail
        refine (works_any _).mono ?_
        rintro e w5 ⟨rfl, hb5⟩
        have HW5 := hide (below_trans HW.out hb5)
        clear hb5
        go_wp2_with fail
        go_ret
        exact ⟨rfl, HW5.out⟩
    · have hlen0 : 0 < len := by omega
      have hm1 : P % (8 * len) < 8 * len := Nat.mod_lt _ (by omega)
      obtain ⟨F, hF⟩ : ∃ F, P % (8 * len) = F := ⟨_, rfl⟩
      rw [hF] at hm1
      have hF1 : (P : Int) % (8 * (len : Int)) = (F : Int) := by rw [← hF, Int.natCast_emod]; rfl
      have hF2 : Int.tmod (P : Int) (8 * (len : Int)) = (F : Int) := by rw [Int.tmod_eq_emod_of_nonneg (by omega), hF1]
      have HDF : Hid (damL bs f = flipTo bs F f.q 32) := by show _ = _; rw [HD.out]; unfold flipL; rw [HL.out, hF]
      have hFi : (F : Int) < 8 * (len : Int) := by omega
      have hlne : ((len : Int) == 0) = false := by simp; omega
      clear hF h0 HD
      obtain ⟨g, vc', hva⟩ := own_some HO3.out HDL.out hlen0
      cases hva
      rw [HDF.out] at HO3
      have HC6 : Hid (w3.cell? ⟨p, 6, none⟩ = some (.int .i64 (P : Int))) := t6
      have HPL := hide HF3.out.lt
      go_wp2_with fail
      go_loopw [8, 9, 10] (fun sf sl si wr => ∃ (i : Nat) (fi la : Int), i ≤ 8 * len ∧ .int .i64 fi = sf ∧ .int .i64 la = sl ∧ .int .i64 (i : Int) = si ∧ Hid (Seen F i fi la) ∧ Hid (Below w3.heap.size w3 wr)) (fun _ _ si _ => 8 * len - (intOf si).toNat)
      case atStart => exact ⟨0, -1, -1, by omega, rfl, rfl, rfl, .inl ⟨by omega, rfl, rfl⟩, b0 _⟩
      case round =>
        obtain ⟨i, fi, la, hi, rfl, rfl, rfl, HS, HBR⟩ := hrel
        clear t0 t1 t2 t3 t4 t5 t6 t7
        by_cases hin : i < 8 * len
        · have hii : (i : Int) < 8 * (len : Int) := by omega
          have h8 : (i : Int) / 8 < (len : Int) := by omega
          have g1 := (HO3.out.below HBR.out).cell (i / 8) (by omega)
          obtain ⟨b2, o2, rfl, hb2, hc2⟩ := (HR3.out.below HBR.out).2.2 hlen0
          have g2 := hc2 (i / 8) (by omega)
          clear hc2
          have HDI := hide (bdiff bs F f.q i (by rw [HL.out]; exact hin))
          obtain ⟨c, hc⟩ : ∃ c, (flipTo bs F f.q 32).getD (i / 8) 0 = c := ⟨_, rfl⟩
          obtain ⟨d, hd⟩ : ∃ d, bs.getD (i / 8) 0 = d := ⟨_, rfl⟩
          rw [hc, hd] at HDI
          rw [hc] at g1
          rw [hd] at g2
          have y1 := bxor_u8 c d
          generalize c ^^^ d = X at y1 HDI
          have y2 := bshr8 (i % 8) X
          generalize X >>> (i % 8) = Y at y2 HDI
          have y3 := low8 Y
          clear hc hd
          by_cases hset : Y.getLsbD 0 = true
          · rw [if_pos hset] at y3
            have HB : Hid (F ≤ i ∧ i < F + 32) := by
              show F ≤ i ∧ i < F + 32
              have h := HDI.out
              rw [hset] at h
              have h2 := (Bool.and_eq_true _ _).mp h.symm
              exact of_decide_eq_true h2.1
            clear hset
            rcases HS.out with ⟨s1, rfl, rfl⟩ | ⟨s1, rfl, s3, s4⟩
            · have HIF : Hid (i = F) := by have := HB.out; show _ = _; omega
              clear s1
              go_wp2_with fail
              go_quiet (fail)
              go_wp2_with fail
              go_roundw
              case rel => exact ⟨i + 1, _, _, by omega, rfl, rfl, by go_num, .inr ⟨by have := HIF.out; omega, by rw [HIF.out], by rw [HIF.out]; exact Int.le_refl _, by rw [HIF.out]; omega⟩, below_trans HBR.out (below_drewN' _ _ _)⟩
              case measure => simp [intOf]; omega
            · have hF0 : ¬ (F : Int) < 0 := by omega
              clear s3 s4
              go_wp2_with fail
              go_quiet (fail)
              go_wp2_with fail
              go_roundw
              case rel => exact ⟨i + 1, _, _, by omega, rfl, rfl, by go_num, .inr ⟨by omega, rfl, by have := HB.out; omega, by have := HB.out; omega⟩, below_trans HBR.out (below_drewN' _ _ _)⟩
              case measure => simp [intOf]; omega
          · rw [if_neg hset] at y3
            have HNF : Hid (i ≠ F) := fun e => by
              apply hset
              have h := HDI.out
              rw [h, e, Nat.sub_self, HOD.out, decide_eq_true (by omega)]
              rfl
            clear hset
            go_wp2_with fail
            go_quiet (fail)
            go_wp2_with fail
            go_roundw
            case rel =>
              refine ⟨i + 1, fi, la, by omega, rfl, rfl, by go_num, ?_, below_trans HBR.out (below_drewN' _ _ _)⟩
              rcases HS.out with ⟨s1, s2, s3⟩ | ⟨s1, s2, s3, s4⟩
              · exact .inl ⟨by have := HNF.out; omega, s2, s3⟩
              · exact .inr ⟨by omega, s2, s3, s4⟩
            case measure => simp [intOf]; omega
        · obtain rfl : i = 8 * len := by omega
          have hni : ¬ ((8 * len : Nat) : Int) < 8 * (len : Int) := by omega
          rcases HS.out with ⟨s1, _, _⟩ | ⟨s1, rfl, s3, s4⟩
          · exact absurd hFi (by omega)
          · have hF0 : (0 : Int) ≤ (F : Int) := by omega
            have hdf : la - (F : Int) < 32 := by omega
            have hdb : la ≤ 1125899906842624 := by omega
            have c6 : wr.cell? ⟨p, 6, none⟩ = some (.int .i64 (P : Int)) := (HBR.out.cell (p := ⟨p, 6, none⟩) HPL.out).trans HC6.out
            have HWR := hide (below_trans HW3.out HBR.out)
            go_wp2_with fail
            refine (works_any _).mono ?_
            rintro e w5 ⟨rfl, hb5⟩
            have HW5 := hide (below_trans HWR.out hb5)
            clear hb5
            go_wp2_with fail
            go_ret
            exact ⟨rfl, HW5.out⟩
  · have hk2 : (f.k == 2) = true := by rw [k2]; rfl
    have HD : Hid (damL bs f = resL bs f.p) := by show _ = _; unfold damL; rw [if_pos HMY.out, if_neg (by omega), if_pos k2]
    obtain ⟨N, hN⟩ : ∃ N : Nat, ((len : Int) + f.p).toNat = N := ⟨_, rfl⟩
    have hNm : max ((len : Int) + f.p) 0 = (N : Int) := by omega
    have hNb : N ≤ 140737488355328 := by omega
    have HN : Hid (((bs.length : Int) + f.p).toNat = N) := by show _ = _; rw [HL.out, hN]
    have HDL : Hid ((damL bs f).length = N) := by show _ = _; rw [HD.out, res_len, HN.out]
    rw [HDL.out] at HO3 ⊢
    rw [HD.out] at HO3
    have hNN : ((N : Int) != (N : Int)) = false := by simp
    clear k2 hN
    go_wp2_with fail
    go_loopw [7] (fun si wr => ∃ (i : Nat), i ≤ N ∧ .int .i64 (i : Int) = si ∧ Hid (Below w3.heap.size w3 wr)) (fun si _ => N - (intOf si).toNat)
    case atStart => exact ⟨0, by omega, rfl, b0 _⟩
    case round =>
      obtain ⟨i, hi, rfl, HBR⟩ := hrel
      clear t0 t1 t2 t3 t4 t5 t6 t7
      by_cases hin : i < N
      · have hii : (i : Int) < (N : Int) := by omega
        obtain ⟨b1, o1, rfl, hb1, hc1⟩ := (Got.rd (HO3.out.below HBR.out) (by rw [← HD.out]; exact HDB.out)).2.2 (by omega)
        have g1 := hc1 i hin
        clear hc1
        by_cases hil : i < len
        · have hili : (i : Int) < (len : Int) := by omega
          have hd1 : decide ((i : Int) < (len : Int)) = true := decide_eq_true hili
          have hd2 : decide ((len : Int) ≤ (i : Int)) = false := decide_eq_false (by omega)
          have hd3 : decide (i < len) = true := decide_eq_true hil
          have hd4 : decide (len ≤ i) = false := decide_eq_false (by omega)
          obtain ⟨b2, o2, rfl, hb2, hc2⟩ := (HR3.out.below HBR.out).2.2 (by omega)
          have g2 := hc2 i hil
          clear hc2
          rw [res_in bs f.p i (by rw [HN.out]; exact hin) (by rw [HL.out]; exact hil)] at g1
          generalize bs.getD i 0 = c at g1 g2
          have hcc : ((c.toNat : Int) != (c.toNat : Int)) = false := by simp
          go_wp2_with fail
          go_quiet (fail)
          go_wp2_with fail
          go_roundw
          case rel => exact ⟨i + 1, by omega, by go_num, below_trans HBR.out (below_drewN' _ _ _)⟩
          case measure => simp [intOf]; omega
        · have hili : ¬ (i : Int) < (len : Int) := by omega
          have hd1 : decide ((i : Int) < (len : Int)) = false := decide_eq_false hili
          have hd2 : decide ((len : Int) ≤ (i : Int)) = true := decide_eq_true (by omega)
          have hd3 : decide (i < len) = false := decide_eq_false hil
          have hd4 : decide (len ≤ i) = true := decide_eq_true (by omega)
          rw [res_out bs f.p i (by rw [HN.out]; exact hin) (by rw [HL.out]; omega)] at g1
          rw [show (((0 : BitVec 8)).toNat : Int) = 0 from rfl] at g1
          go_wp2_with fail
          go_quiet (fail)
          go_wp2_with fail
          go_roundw
          case rel => exact ⟨i + 1, by omega, by go_num, below_trans HBR.out (below_drewN' _ _ _)⟩
          case measure => simp [intOf]; omega
      · obtain rfl : i = N := by omega
        have HWR := hide (below_trans HW3.out HBR.out)
        go_wp2_with fail
        refine (works_any _).mono ?_
        rintro e w5 ⟨rfl, hb5⟩
        have HW5 := hide (below_trans HWR.out hb5)
        clear hb5
        go_wp2_with fail
        go_ret
        exact ⟨rfl, HW5.out⟩
end Go.Proofs.Ytbmbhcjocgbbpaa.faultClass
