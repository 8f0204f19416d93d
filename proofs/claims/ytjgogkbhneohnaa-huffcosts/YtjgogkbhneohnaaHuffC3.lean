/-
  The document's Cost, at any counts and lengths.
-/
import Derived.Test.YtjgogkbhneohnaaHuffC2
namespace Go.Proofs.Ytjgogkbhneohnaa.Huff
open Go.ChangeShapes Go.WideShapes Go.ChangeAt Go.RowKit
open Go.Proofs.Ytjgogkbhneohnaa.Base
set_option linter.unusedVariables false
set_option maxHeartbeats 1000000 in
theorem refCost_any (a b : Option Addr) (la ca lb cb : Nat) (cs ls : List Int) (w : World) (hx : RdI w a la cs) (hy : RdI w b lb ls) :
    Calls Try.prog 46 #[.slice a la ca, .slice b lb cb] w fun e w' => e = .returned (.tuple #[.int .i64 (costd cs ls).1, .int .i64 (costd cs ls).2]) ∧ Below w.heap.size w w' := by
  have HLX := hide hx.1
  have HLY := hide hy.1
  have HX := hide hx
  have HY := hide hy
  have HCX := hide hx.2.2
  have HCY := hide hy.2.2
  have hmx := hx.2.1
  have hmy := hy.2.1
  clear hx hy
  by_cases h1 : 256 < la
  · rw [costd_long (.inl (by rw [HLX.out]; exact h1))]
    have h1i : (256 : Int) < (la : Int) := by omega
    go_enter Try.func46, Try.ntmps46
    go_wp2
    go_ret2
    exact ⟨rfl, Below.refl _ _⟩
  have h1i : ¬ (256 : Int) < (la : Int) := by omega
  by_cases h2 : 256 < lb
  · rw [costd_long (.inr (by rw [HLY.out]; exact h2))]
    have h2i : (256 : Int) < (lb : Int) := by omega
    go_enter Try.func46, Try.ntmps46
    go_wp2
    go_ret2
    exact ⟨rfl, Below.refl _ _⟩
  have h2i : ¬ (256 : Int) < (lb : Int) := by omega
  have HNL : Hid (¬ (256 < cs.length ∨ 256 < ls.length)) := by rw [HLX.out, HLY.out]; show ¬ _; omega
  have HA := hide (allCounts_any a la ca cs w HX.out)
  cases hA : allIn 1099511627776 cs with
  | false =>
    rw [costd_bad HNL.out (by rw [hA]; rfl)]
    rw [hA] at HA
    clear hA
    go_enter Try.func46, Try.ntmps46
    go_wp2_with fail
    refine HA.out.mono ?_
    rintro e w1 ⟨rfl, hb⟩
    go_wp2_with fail
    go_ret2
    exact ⟨rfl, hb⟩
  | true =>
    rw [hA] at HA
    have HAT := hide hA
    clear hA
    go_enter Try.func46, Try.ntmps46
    go_wp2_with fail
    refine HA.out.mono ?_
    rintro e w1 ⟨rfl, hb⟩
    have HB := hide hb
    have HCX1 := hide (HX.out.below hb).2.2
    have HCY1 := hide (HY.out.below hb).2.2
    clear hb HA HX HY HCX HCY
    go_wp2_with fail
    go_loopw [6] (fun i wr => ∃ k : Nat, k ≤ lb ∧ i = .int .i64 (k : Int) ∧ Hid (allIn 15 ls = allIn 15 (ls.drop k)) ∧ w1 = wr) (fun i _ => lb - (intOf i).toNat)
    case atStart => exact ⟨0, Nat.zero_le _, rfl, rfl, rfl⟩
    case round =>
      obtain ⟨k, hk, rfl, HE, rfl⟩ := hrel
      by_cases hlt : k < lb
      · obtain ⟨b1, o1, rfl, hb1, hc1⟩ := unhide HCY1 (by omega)
        have g1 := hc1 k hlt
        have HD := hide (allIn_drop 15 ls k (by have := HLY.out; omega))
        clear hc1
        have hki : (k : Int) < (lb : Int) := by omega
        generalize ls.getD k 0 = x at g1 HD
        by_cases hx : 0 ≤ x ∧ x ≤ 15
        · obtain ⟨x1, x2⟩ := hx
          have HD2 := hide (HD.out.trans (in_pos x1 x2 _))
          go_wp2_with fail
          go_roundw
          case rel => exact ⟨k + 1, by omega, by go_num, HE.out.trans HD2.out, by first | rfl | trivial⟩
          case measure => simp [intOf]; omega
        · have HD2 := hide (HE.out.trans (HD.out.trans (in_neg hx _)))
          have HBAD := hide (costd_bad HNL.out (by rw [HAT.out, HD2.out]; rfl))
          rcases Int.lt_or_le x 0 with h0 | h0
          · go_wp2_with fail
            go_ret2
            exact ⟨by rw [HBAD.out]; rfl, HB.out⟩
          · have h1 : 15 < x := by omega
            have h0' : ¬ x < 0 := by omega
            go_wp2_with fail
            go_ret2
            exact ⟨by rw [HBAD.out]; rfl, HB.out⟩
      · have hB : allIn 15 ls = true := HE.out.trans (allIn_end _ _ _ (by have := HLY.out; omega))
        have HOK := hide (costd_ok HNL.out (by rw [HAT.out, hB]; rfl))
        have HS := hide (sumTo_in cs ls HAT.out hB)
        have HGA := hide (fun k h => allIn_get HAT.out k h)
        have HGB := hide (fun k h => allIn_get hB k h)
        rw [HLX.out] at HGA HS HOK
        rw [HLY.out] at HGB HS HOK
        have hki : ¬ (k : Int) < (lb : Int) := by omega
        clear hB
        go_wp2_with fail
        go_loopw [7, 8] (fun c i wz => ∃ (k : Nat) (S : Int), k ≤ la ∧ k ≤ lb ∧ i = .int .i64 (k : Int) ∧ c = .int .i64 S ∧ 0 ≤ S ∧ S ≤ 5000000000000000 ∧ Hid (S = sumTo cs ls k) ∧ Hid (Below w1.heap.size w1 wz)) (fun _ i _ => la - (intOf i).toNat)
        case atStart => exact ⟨0, 0, Nat.zero_le _, Nat.zero_le _, rfl, rfl, by omega, by omega, rfl, Below.refl _ _⟩
        case round =>
          clear hki HE hk hlt
          obtain ⟨k, S, hk1, hk2, rfl, rfl, s1, s2, HE, HBW⟩ := hrel
          by_cases hlt : k < la ∧ k < lb
          · obtain ⟨b1, o1, rfl, hb1, hc1⟩ := unhide HCX1 (by omega)
            obtain ⟨b2, o2, rfl, hb2, hc2⟩ := unhide HCY1 (by omega)
            have g1 := hc1 k (by omega)
            have g2 := hc2 k (by omega)
            rw [← HBW.out.cell (p := ⟨b1, o1 + k, none⟩) hb1] at g1
            rw [← HBW.out.cell (p := ⟨b2, o2 + k, none⟩) hb2] at g2
            have x1 := HGA.out k (by omega)
            have x2 := HGB.out k (by omega)
            have HS1 := hide (HS.out (k + 1) (by omega) (by omega))
            have HS2 : Hid (sumTo cs ls (k + 1) = sumTo cs ls k + cs.getD k 0 * ls.getD k 0) := rfl
            clear hc1 hc2
            generalize cs.getD k 0 = X at g1 x1 HS2
            generalize ls.getD k 0 = Y at g2 x2 HS2
            have p1 : 0 ≤ X * Y := Int.mul_nonneg x1.1 x2.1
            have p2 : X * Y ≤ 1099511627776 * 15 := Int.mul_le_mul x1.2 x2.2 x2.1 (by decide)
            obtain ⟨P, hP⟩ : ∃ P, X * Y = P := ⟨_, rfl⟩
            have q1 : IntKind.i64.wrap (X * Y) = P := by rw [IntKind.wrap_i64, hP]; omega
            have HS3 : Hid (sumTo cs ls (k + 1) = S + P) := by show _ = _; rw [HS2.out, HE.out, hP]
            have hb : 0 ≤ S + P ∧ S + P ≤ 5000000000000000 := by
              have := HS1.out
              rw [HS3.out] at this
              omega
            obtain ⟨T, hT⟩ : ∃ T, S + P = T := ⟨_, rfl⟩
            have q2 : IntKind.i64.wrap (S + P) = T := by rw [IntKind.wrap_i64, hT]; omega
            rw [hT] at HS3 hb
            obtain ⟨t1, t2⟩ := hb
            have hka : (k : Int) < (la : Int) := by omega
            have hkb : (k : Int) < (lb : Int) := by omega
            clear p1 p2 hP hT x1 x2 HS1 HS2
            go_wp2_with fail
            go_quiet (fail)
            go_wp2_with fail
            go_roundw
            case rel => exact ⟨k + 1, T, by omega, by omega, by go_num, rfl, t1, t2, HS3.out.symm, below_trans HBW.out (below_drewN' _ _ _)⟩
            case measure => simp [intOf]; omega
          · have HEE : Hid (costd cs ls = (S, 0)) := by
              show _ = _
              rw [HOK.out, HE.out, show min la lb = k by omega]
            have HBF := hide (below_trans HB.out HBW.out)
            rcases Nat.lt_or_ge k la with h | h
            · have hka : (k : Int) < (la : Int) := by omega
              have hkb : ¬ (k : Int) < (lb : Int) := by omega
              go_wp2_with fail
              go_ret2
              exact ⟨by rw [HEE.out]; rfl, HBF.out⟩
            · have hka : ¬ (k : Int) < (la : Int) := by omega
              go_wp2_with fail
              go_ret2
              exact ⟨by rw [HEE.out]; rfl, HBF.out⟩
end Go.Proofs.Ytjgogkbhneohnaa.Huff
