/-
  What the document's answer tells of numbers: Put, Get, Fixed, Word.
-/
import Derived.Test.YtjikoamchbmhjaaNumsFixC
namespace Go.Proofs.Ytjikoamchbmhjaa.Nums
set_option linter.unusedVariables false
open Go.ChangeShapes Go.WideShapes Go.ChangeAt Go.RowKit
open Go.Proofs.Ytjikoamchbmhjaa.Base
theorem b8_int (n : Nat) (h : n < 256) : (((B8 n).toNat : Nat) : Int) = (n : Int) := by rw [B8_toNat n h]
theorem refGet_step (c : BitVec 8) (k V U : Nat) (hk : k < 9) (hV : V < 128 ^ k) (hU : U = 128 ^ k) : ∃ d X V' U' : Nat, (c.toNat : Int) % 128 = (d : Int) ∧ (d : Int) * (U : Int) = (X : Int) ∧ (X : Int) ≤ 9223372036854775807 ∧
    (V : Int) + (X : Int) = (V' : Int) ∧ (V' : Int) ≤ 9223372036854775807 ∧ (k < 8 → (U : Int) * 128 = (U' : Int) ∧ (U' : Int) ≤ 9223372036854775807) ∧ Hid (V' = V + c.toNat % 128 * 128 ^ k) ∧ Hid (V' < 128 ^ (k + 1)) ∧ Hid (k < 8 → U' = 128 ^ (k + 1)) := by
  have hlt := lt_pow k V (c.toNat % 128) hV (by omega)
  have h9 := pow_nine (k + 1) (by omega)
  have hX : c.toNat % 128 * 128 ^ k < 9223372036854775808 := by omega
  refine ⟨c.toNat % 128, c.toNat % 128 * 128 ^ k, V + c.toNat % 128 * 128 ^ k, 128 ^ (k + 1), by omega, by rw [hU]; simp, by omega, by omega, by omega, ?_, rfl, hlt, fun _ => rfl⟩
  intro h8
  have h8' : (128 : Nat) ^ (k + 1) ≤ 128 ^ 8 := Nat.pow_le_pow_right (by omega) (by omega)
  have e8 : (128 : Nat) ^ 8 = 72057594037927936 := by decide
  refine ⟨?_, by omega⟩
  rw [hU, Nat.pow_succ]; omega
theorem refWord_step (c : BitVec 8) (k V U : Nat) (hk : k < 8) (hV : V < 256 ^ k) (hU : U = 256 ^ k) : ∃ X V' U' : Nat, (c.toNat : Int) * (U : Int) = (X : Int) ∧ (X : Int) ≤ 18446744073709551615 ∧
    (V : Int) + (X : Int) = (V' : Int) ∧ (V' : Int) ≤ 18446744073709551615 ∧ IntKind.u64.wrap ((U : Int) * 256) = (U' : Int) ∧ Hid (V' = V + c.toNat * 256 ^ k) ∧ Hid (V' < 256 ^ (k + 1)) ∧ Hid (k + 1 < 8 → U' = 256 ^ (k + 1)) := by
  have hlt := lt_pow8 k V c.toNat hV (lt8 c)
  have h9 := pow_eight (k + 1) (by omega)
  have hX : c.toNat * 256 ^ k < 18446744073709551616 := by omega
  refine ⟨c.toNat * 256 ^ k, V + c.toNat * 256 ^ k, U * 256 % 18446744073709551616, by rw [hU]; simp, by omega, by omega, by omega, by rw [IntKind.wrap_u64]; omega, rfl, hlt, ?_⟩
  intro h8
  have h8' : (256 : Nat) ^ (k + 1) ≤ 256 ^ 7 := Nat.pow_le_pow_right (by omega) (by omega)
  have e8 : (256 : Nat) ^ 7 = 72057594037927936 := by decide
  show _ = _
  rw [hU, ← Nat.pow_succ, Nat.mod_eq_of_lt (by omega)]
set_option maxHeartbeats 1000000 in
set_option maxRecDepth 10000 in
theorem refWord_any (a : Option Addr) (len cap : Nat) (bs : List (BitVec 8)) (w : World) (hr : Rd w a len bs) :
    Calls Try.prog 13 #[.slice a len cap] w fun e w' => e = .returned (.int .u64 (word bs : Nat)) ∧ Below w.heap.size w w' := by
  obtain ⟨hl, hm, hc⟩ := hr
  have HL := hide hl
  have HC := hide hc
  clear hl hc
  go_enter Try.func13, Try.ntmps13
  go_wp2
  go_loopw [3, 4, 5] (fun v u i wr => ∃ k V U : Nat, k ≤ len ∧ k ≤ 8 ∧ i = .int .i64 k ∧ v = .int .u64 V ∧ u = .int .u64 U ∧ Hid (V < 256 ^ k) ∧ Hid (k < 8 → U = 256 ^ k) ∧ Hid (V = wordFrom 0 (bs.take k)) ∧ wr = w) (fun _ _ i _ => len - (intOf i).toNat)
  case atStart => exact ⟨0, 0, 1, Nat.zero_le _, Nat.zero_le _, rfl, rfl, rfl, show 0 < 256 ^ 0 by decide, fun _ => rfl, rfl, rfl⟩
  case round =>
    obtain ⟨k, V, U, hk, hk9, rfl, rfl, rfl, HV, HU, HG, rfl⟩ := hrel
    by_cases hlt : k < len ∧ k < 8
    · obtain ⟨h1, h2⟩ := hlt
      obtain ⟨b1, o1, rfl, hb1, hc1⟩ := unhide HC (by omega)
      have g1 := hc1 k h1
      clear hc1
      have HS := hide (word_take bs k (by have := HL.out; omega))
      generalize bs.getD k 0 = c at g1 HS
      obtain ⟨X, V', U', q2, q3, q4, q5, q6, HV', HVL, HUU⟩ := refWord_step c k V U h2 HV.out (HU.out h2)
      have HE : Hid (V' = wordFrom 0 (bs.take (k + 1))) := by
        show V' = _
        rw [HS.out, HV'.out, HG.out]
      have hki : (k : Int) < 8 := by omega
      have hkl : (k : Int) < (len : Int) := by omega
      go_wp2
      go_roundw
      case rel => exact ⟨k + 1, V', U', by omega, by omega, by go_num, rfl, rfl, HVL, HUU, HE, by first | trivial | rfl⟩
      case measure => simp [intOf]; omega
    · have HE : Hid (V = word bs) := by
        show V = _
        rw [HG.out]
        unfold word
        have hl := HL.out
        by_cases hk8 : k = 8
        · rw [hk8]
        · rw [List.take_of_length_le (by omega), List.take_of_length_le (by omega)]
      by_cases hkl : k < len
      · have hki : (k : Int) < (len : Int) := by omega
        have hkj : ¬ (k : Int) < 8 := by omega
        go_wp2
        go_ret
        exact ⟨ret_int (by rw [← HE.out]), Below.refl _ _⟩
      · have hki : ¬ (k : Int) < (len : Int) := by omega
        go_wp2
        go_ret
        exact ⟨ret_int (by rw [← HE.out]), Below.refl _ _⟩
end Go.Proofs.Ytjikoamchbmhjaa.Nums
