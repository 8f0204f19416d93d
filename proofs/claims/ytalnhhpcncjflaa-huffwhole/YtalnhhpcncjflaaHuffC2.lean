/-
  Cost, at any counts and lengths.
-/
import Derived.Test.YtalnhhpcncjflaaHuffC1
namespace Go.Proofs.Ytalnhhpcncjflaa.Huff
open Go.ChangeShapes Go.WideShapes Go.ChangeAt Go.RowKit
open Go.Proofs.Ytalnhhpcncjflaa.Base
set_option linter.unusedVariables false
theorem costd_long {cs ls : List Int} (h : 256 < cs.length ∨ 256 < ls.length) : costd cs ls = (0, 2) := by unfold costd; rw [if_pos h]
theorem costd_bad {cs ls : List Int} (h : ¬ (256 < cs.length ∨ 256 < ls.length)) (h2 : (allIn 1099511627776 cs && allIn 15 ls) = false) : costd cs ls = (0, 3) := by
  unfold costd; rw [if_neg h, if_neg (by rw [h2]; decide)]
theorem costd_ok {cs ls : List Int} (h : ¬ (256 < cs.length ∨ 256 < ls.length)) (h2 : (allIn 1099511627776 cs && allIn 15 ls) = true) : costd cs ls = (sumTo cs ls (min cs.length ls.length), 0) := by
  unfold costd; rw [if_neg h, if_pos h2]
set_option maxHeartbeats 1000000 in
theorem cost_any (a b : Option Addr) (la ca lb cb : Nat) (cs ls : List Int) (w : World) (hx : RdI w a la cs) (hy : RdI w b lb ls) :
    Calls Try.prog 13 #[.slice a la ca, .slice b lb cb] w fun e w' => e = .returned (.tuple #[.int .i64 (costd cs ls).1, .int .i64 (costd cs ls).2]) ∧ Below w.heap.size w w' := by
  have HLX := hide hx.1
  have HLY := hide hy.1
  have HX := hide hx
  have HY := hide hy
  have HCX := hide hx.2.2
  have HCY := hide hy.2.2
  have hmx := hx.2.1
  have hmy := hy.2.1
  clear hx hy
  by_cases h1 : 256 < la
  · rw [costd_long (.inl (by rw [HLX.out]; exact h1))]
    have h1i : (256 : Int) < (la : Int) := by omega
    go_enter Try.func13, Try.ntmps13
    go_wp2
    go_ret2
    exact ⟨rfl, Below.refl _ _⟩
  have h1i : ¬ (256 : Int) < (la : Int) := by omega
  by_cases h2 : 256 < lb
  · rw [costd_long (.inr (by rw [HLY.out]; exact h2))]
    have h2i : (256 : Int) < (lb : Int) := by omega
    go_enter Try.func13, Try.ntmps13
    go_wp2
    go_ret2
    exact ⟨rfl, Below.refl _ _⟩
  have h2i : ¬ (256 : Int) < (lb : Int) := by omega
  have HNL : Hid (¬ (256 < cs.length ∨ 256 < ls.length)) := by rw [HLX.out, HLY.out]; show ¬ _; omega
  have HA := hide (areCounts_any a la ca cs w HX.out)
  have HB := hide (areLengths_any b lb cb ls w HY.out)
  cases hA : allIn 1099511627776 cs with
  | false =>
    rw [costd_bad HNL.out (by rw [hA]; rfl)]
    rw [hA] at HA
    clear hA
    go_enter Try.func13, Try.ntmps13
    go_wp2_with fail
    refine HA.out.mono ?_
    rintro e w1 ⟨rfl, rfl⟩
    go_wp2_with fail
    go_ret2
    exact ⟨rfl, Below.refl _ _⟩
  | true =>
    rw [hA] at HA
    cases hB : allIn 15 ls with
    | false =>
      rw [costd_bad HNL.out (by rw [hA, hB]; rfl)]
      rw [hB] at HB
      clear hA hB
      go_enter Try.func13, Try.ntmps13
      go_wp2_with fail
      refine HA.out.mono ?_
      rintro e w1 ⟨rfl, rfl⟩
      go_wp2_with fail
      refine HB.out.mono ?_
      rintro e w1 ⟨rfl, rfl⟩
      go_wp2_with fail
      go_ret2
      exact ⟨rfl, Below.refl _ _⟩
    | true =>
      rw [costd_ok HNL.out (by rw [hA, hB]; rfl)]
      rw [hB] at HB
      have HS := hide (sumTo_in cs ls hA hB)
      have HGA := hide (fun k h => allIn_get hA k h)
      have HGB := hide (fun k h => allIn_get hB k h)
      clear hA hB
      rw [HLX.out] at HGA HS ⊢
      rw [HLY.out] at HGB HS ⊢
      obtain ⟨m, hm1, hm2, hm3, hmm⟩ : ∃ m : Nat, m ≤ la ∧ m ≤ lb ∧ min la lb = m ∧ (m = la ∧ la ≤ lb ∨ m = lb ∧ lb < la) := ⟨min la lb, by omega, by omega, rfl, by omega⟩
      rw [hm3]
      clear hm3
      rcases hmm with ⟨hma, hab⟩ | ⟨hma, hab⟩
      all_goals
        go_enter Try.func13, Try.ntmps13
        go_wp2_with fail
        refine HA.out.mono ?_
        rintro e w1 ⟨rfl, rfl⟩
        go_wp2_with fail
        refine HB.out.mono ?_
        rintro e w1 ⟨rfl, rfl⟩
        go_wp2_with fail
        go_loopw [6, 29] (fun c i wr => ∃ (k : Nat) (S : Int), k ≤ m ∧ i = .int .i64 (k : Int) ∧ c = .int .i64 S ∧ 0 ≤ S ∧ S ≤ 5000000000000000 ∧ Hid (S = sumTo cs ls k) ∧ Hid (Below w1.heap.size w1 wr)) (fun _ i _ => m - (intOf i).toNat)
        case atStart => exact ⟨0, 0, Nat.zero_le _, rfl, rfl, by omega, by omega, rfl, Below.refl _ _⟩
        case round =>
          obtain ⟨k, S, hk, rfl, rfl, s1, s2, HE, HBW⟩ := hrel
          by_cases hlt : k < m
          · obtain ⟨b1, o1, rfl, hb1, hc1⟩ := unhide HCX (by omega)
            obtain ⟨b2, o2, rfl, hb2, hc2⟩ := unhide HCY (by omega)
            have g1 := hc1 k (by omega)
            have g2 := hc2 k (by omega)
            rw [← HBW.out.cell (p := ⟨b1, o1 + k, none⟩) hb1] at g1
            rw [← HBW.out.cell (p := ⟨b2, o2 + k, none⟩) hb2] at g2
            have x1 := HGA.out k (by omega)
            have x2 := HGB.out k (by omega)
            have HS1 := hide (HS.out (k + 1) (by omega) (by omega))
            have HS2 : Hid (sumTo cs ls (k + 1) = sumTo cs ls k + cs.getD k 0 * ls.getD k 0) := rfl
            clear hc1 hc2
            generalize cs.getD k 0 = X at g1 x1 HS2
            generalize ls.getD k 0 = Y at g2 x2 HS2
            have p1 : 0 ≤ X * Y := Int.mul_nonneg x1.1 x2.1
            have p2 : X * Y ≤ 1099511627776 * 15 := Int.mul_le_mul x1.2 x2.2 x2.1 (by decide)
            obtain ⟨P, hP⟩ : ∃ P, X * Y = P := ⟨_, rfl⟩
            have q1 : IntKind.i64.wrap (X * Y) = P := by rw [IntKind.wrap_i64, hP]; omega
            have HS3 : Hid (sumTo cs ls (k + 1) = S + P) := by show _ = _; rw [HS2.out, HE.out, hP]
            have hb : 0 ≤ S + P ∧ S + P ≤ 5000000000000000 := by
              have := HS1.out
              rw [HS3.out] at this
              omega
            obtain ⟨T, hT⟩ : ∃ T, S + P = T := ⟨_, rfl⟩
            have q2 : IntKind.i64.wrap (S + P) = T := by rw [IntKind.wrap_i64, hT]; omega
            rw [hT] at HS3 hb
            obtain ⟨t1, t2⟩ := hb
            have hka : (k : Int) < (la : Int) := by omega
            have hkb : (k : Int) < (lb : Int) := by omega
            have hkm : (k : Int) < (m : Int) := by omega
            clear p1 p2 hP hT x1 x2 HS1 HS2
            go_wp2_with fail
            go_quiet (fail)
            go_wp2_with fail
            go_roundw
            case rel => exact ⟨k + 1, T, by omega, by go_num, rfl, t1, t2, HS3.out.symm, below_trans HBW.out (below_drewN' _ _ _)⟩
            case measure => simp [intOf]; omega
          · obtain rfl : k = m := by omega
            first
              | (have hz : ¬ (k : Int) < (la : Int) := by omega
                 clear hma hk hlt hab
                 go_wp2_with fail
                 go_ret2
                 exact ⟨by rw [HE.out]; rfl, HBW.out⟩)
              | (have hz : ¬ (k : Int) < (lb : Int) := by omega
                 clear hma hk hlt hab
                 go_wp2_with fail
                 go_ret2
                 exact ⟨by rw [HE.out]; rfl, HBW.out⟩)
set_option maxHeartbeats 1000000 in
theorem allCounts_any (a : Option Addr) (len cap : Nat) (xs : List Int) (w : World) (hr : RdI w a len xs) :
    Calls Try.prog 33 #[.slice a len cap] w fun e w' => e = .returned (.bool (allIn 1099511627776 xs)) ∧ Below w.heap.size w w' := by
  obtain ⟨h1, hm, h3⟩ := hr
  have HL := hide h1
  have HC := hide h3
  clear h1 h3
  go_enter Try.func33, Try.ntmps33
  go_wp2
  go_loopw [3] (fun i wr => ∃ k : Nat, k ≤ len ∧ i = .int .i64 (k : Int) ∧ Hid (allIn 1099511627776 xs = allIn 1099511627776 (xs.drop k)) ∧ wr = w) (fun i _ => len - (intOf i).toNat)
  case atStart => exact ⟨0, Nat.zero_le _, rfl, rfl, rfl⟩
  case round =>
    obtain ⟨k, hk, rfl, HE, rfl⟩ := hrel
    by_cases hlt : k < len
    · obtain ⟨b1, o1, rfl, hb1, hc1⟩ := unhide HC (by omega)
      have g1 := hc1 k hlt
      have HD := hide (allIn_drop 1099511627776 xs k (by have := HL.out; omega))
      clear hc1
      have hki : (k : Int) < (len : Int) := by omega
      generalize xs.getD k 0 = x at g1 HD
      by_cases hx : 0 ≤ x ∧ x ≤ 1099511627776
      · obtain ⟨x1, x2⟩ := hx
        have HD2 := hide (HD.out.trans (in_pos x1 x2 _))
        have y1 : decide (x < 0) = false := by rw [decide_eq_false_iff_not]; omega
        have y2 : decide (1099511627776 < x) = false := by rw [decide_eq_false_iff_not]; omega
        go_wp2
        go_roundw
        case rel => exact ⟨k + 1, by omega, by go_num, HE.out.trans HD2.out, by first | rfl | trivial⟩
        case measure => simp [intOf]; omega
      · have HD2 := hide (HE.out.trans (HD.out.trans (in_neg hx _)))
        rcases Int.lt_or_le x 0 with h0 | h0
        · have y1 : decide (x < 0) = true := by rw [decide_eq_true_iff]; omega
          go_wp2
          go_ret
          exact ⟨ret_bool HD2.out.symm, Below.refl _ _⟩
        · have h1 : 1099511627776 < x := by omega
          have h0' : ¬ x < 0 := by omega
          have y1 : decide (x < 0) = false := by rw [decide_eq_false_iff_not]; omega
          have y2 : decide (1099511627776 < x) = true := by rw [decide_eq_true_iff]; omega
          go_wp2
          go_ret
          exact ⟨ret_bool HD2.out.symm, Below.refl _ _⟩
    · go_wp2
      go_ret
      exact ⟨ret_bool (HE.out.trans (allIn_end _ _ _ (by have := HL.out; omega))).symm, Below.refl _ _⟩
end Go.Proofs.Ytalnhhpcncjflaa.Huff
