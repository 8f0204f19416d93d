/-
  The document's Get leaves the memory as it is.
-/
import Derived.Test.YtbmbhcjocgbbpabNumsRefC
namespace Go.Proofs.Ytbmbhcjocgbbpab.Nums
open Go.ChangeShapes Go.WideShapes Go.ChangeAt Go.RowKit
open Go.Proofs.Ytbmbhcjocgbbpab.Base
set_option linter.unusedVariables false
theorem refGet_stepS (c : BitVec 8) (k V U : Nat) (hk : k < 9) (hV : V < 128 ^ k) (hU : U = 128 ^ k) : ∃ d X V' U' : Nat, (c.toNat : Int) % 128 = (d : Int) ∧ (d : Int) * (U : Int) = (X : Int) ∧ (X : Int) ≤ 9223372036854775807 ∧
    (V : Int) + (X : Int) = (V' : Int) ∧ (V' : Int) ≤ 9223372036854775807 ∧ (k < 8 → (U : Int) * 128 = (U' : Int) ∧ (U' : Int) ≤ 9223372036854775807) ∧ Hid (V' = V + c.toNat % 128 * 128 ^ k) ∧ Hid (V' < 128 ^ (k + 1)) ∧ Hid (k < 8 → U' = 128 ^ (k + 1)) := by
  have hlt := lt_pow k V (c.toNat % 128) hV (by omega)
  have h9 := pow_nine (k + 1) (by omega)
  have hX : c.toNat % 128 * 128 ^ k < 9223372036854775808 := by omega
  refine ⟨c.toNat % 128, c.toNat % 128 * 128 ^ k, V + c.toNat % 128 * 128 ^ k, 128 ^ (k + 1), by omega, by rw [hU]; simp, by omega, by omega, by omega, ?_, rfl, hlt, fun _ => rfl⟩
  intro h8
  have h8' : (128 : Nat) ^ (k + 1) ≤ 128 ^ 8 := Nat.pow_le_pow_right (by omega) (by omega)
  have e8 : (128 : Nat) ^ 8 = 72057594037927936 := by decide
  refine ⟨?_, by omega⟩
  rw [hU, Nat.pow_succ]; omega
set_option maxHeartbeats 1000000 in
set_option maxRecDepth 10000 in
theorem refGet_same (a : Option Addr) (len cap : Nat) (bs : List (BitVec 8)) (w : World) (hr : Rd w a len bs) :
    Calls Try.prog 36 #[.slice a len cap] w fun e w' => e = .returned (.tuple #[.int .i64 ((get bs).1 : Nat), .int .i64 ((get bs).2.1 : Nat), .int .i64 ((get bs).2.2 : Nat)]) ∧ w' = w := by
  obtain ⟨hl, hm, hc⟩ := hr
  have HL := hide hl
  have HC := hide hc
  clear hl hc
  go_enter Try.func36, Try.ntmps36
  go_wp2
  go_loopw [5, 6, 7] (fun v u i wr => ∃ k V U : Nat, k ≤ len ∧ k ≤ 8 ∧ i = .int .i64 k ∧ v = .int .i64 V ∧ u = .int .i64 U ∧ (V : Int) ≤ 9223372036854775807 ∧ Hid (V < 128 ^ k) ∧ Hid (U = 128 ^ k) ∧ Hid (getFrom k V (bs.drop k) = get bs) ∧ wr = w) (fun _ _ i _ => len - (intOf i).toNat)
  case atStart => exact ⟨0, 0, 1, Nat.zero_le _, Nat.zero_le _, rfl, rfl, rfl, by decide, show 0 < 128 ^ 0 by decide, rfl, rfl, rfl⟩
  case round =>
    obtain ⟨k, V, U, hk, hk9, rfl, rfl, rfl, hVb, HV, HU, HG, rfl⟩ := hrel
    by_cases h1 : k < len
    · obtain ⟨b1, o1, rfl, hb1, hc1⟩ := unhide HC (by omega)
      have g1 := hc1 k h1
      clear hc1
      have HS := hide (getFrom_step bs k V (by have := HL.out; omega) (by omega))
      generalize bs.getD k 0 = c at g1 HS
      obtain ⟨d, X, V', U', q1, q2, q3, q4, q5, q6, HV', HVL, HUU⟩ := refGet_stepS c k V U (by omega) HV.out HU.out
      have hkl : (k : Int) < (len : Int) := by omega
      by_cases hc : c.toNat < 128
      · have hci : (c.toNat : Int) < 128 := by omega
        have hcd : decide (c.toNat < 128) = true := by simpa using hc
        clear q6
        by_cases h0 : c.toNat = 0 ∧ 0 < k
        · have HE : Hid (get bs = (0, 0, 21)) := by
            have := HG.out
            rw [HS.out, if_pos hc, if_pos h0] at this
            exact this.symm
          obtain ⟨h01, h02⟩ := h0
          have h04 : ((c.toNat : Int) == 0) = true := by rw [beq_iff_eq]; omega
          have h05 : (0 : Int) < (k : Int) := by omega
          clear h01
          go_wp2
          go_ret3
          exact ⟨ret3 HE.out rfl rfl rfl, rfl⟩
        · have HE : Hid (get bs = (V', k + 1, 0)) := by
            have := HG.out
            rw [HS.out, if_pos hc, if_neg h0] at this
            have e := HV'.out
            rw [Nat.mod_eq_of_lt hc] at e
            rw [e]
            exact this.symm
          by_cases h02 : 0 < k
          · have h01 : ((c.toNat : Int) == 0) = false := by rw [beq_eq_false_iff_ne]; omega
            have h05 : (0 : Int) < (k : Int) := by omega
            go_wp2
            go_ret3
            exact ⟨ret3 HE.out rfl (by omega) rfl, rfl⟩
          · have h05 : ¬ (0 : Int) < (k : Int) := by omega
            go_wp2
            go_ret3
            exact ⟨ret3 HE.out rfl (by omega) rfl, rfl⟩
      · have hci : (128 : Int) ≤ (c.toNat : Int) := by omega
        have HE : Hid (getFrom (k + 1) V' (bs.drop (k + 1)) = get bs) := by
          have := HG.out
          rw [HS.out, if_neg hc] at this
          rw [HV'.out]
          exact this
        by_cases h8 : k = 8
        · have h8i : ((k : Int) == 8) = true := by rw [beq_iff_eq]; omega
          have HE2 : Hid (get bs = (0, 0, 21)) := by
            have h := HE.out
            show get bs = _
            rw [← h]
            cases bs.drop (k + 1) with
            | nil => simp only [getFrom]; rw [if_pos (by omega)]
            | cons x xs => simp only [getFrom]; rw [if_pos (by omega)]
          clear h8 q6
          go_wp2
          go_ret3
          exact ⟨ret3 HE2.out rfl rfl rfl, rfl⟩
        · have h8i : ((k : Int) == 8) = false := by rw [beq_eq_false_iff_ne]; omega
          obtain ⟨q7, q8⟩ := q6 (by omega)
          have HU' := hide (HUU.out (by omega))
          go_wp2
          go_roundw
          case rel => exact ⟨k + 1, V', U', by omega, by omega, by go_num, rfl, rfl, q5, HVL, HU', HE, by first | trivial | rfl⟩
          case measure => simp [intOf]; omega
    · have HE : Hid (get bs = (0, 0, 20)) := by
        have h := HG.out
        have hl := HL.out
        show get bs = _
        rw [← h, show bs.drop k = [] from List.drop_eq_nil_of_le (by omega)]
        simp only [getFrom]; rw [if_neg (by omega)]
      have hki : ¬ (k : Int) < (len : Int) := by omega
      go_wp2
      go_ret3
      exact ⟨ret3 HE.out rfl rfl rfl, rfl⟩
end Go.Proofs.Ytbmbhcjocgbbpab.Nums
