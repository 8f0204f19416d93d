/-
  Bits of bytes: the document's bit, the end of the words, the program's reading of a word.
-/
import Derived.Test.YthdblnfohbldcaaGreatHuffN1
namespace Go.Proofs.YthdblnfohbldcaaGreat.Huff
open Go.ChangeShapes Go.WideShapes Go.ChangeAt Go.RowKit
open Go.Proofs.YthdblnfohbldcaaGreat.Base
set_option linter.unusedVariables false
theorem bit_cast (c : BitVec 8) (k : Nat) : ((c.toNat : Int) / 2 ^ k) = ((c.toNat / 2 ^ k : Nat) : Int) := by simp
theorem bit_mod (c : BitVec 8) (k : Nat) : ((c.toNat : Int) / 2 ^ k) % 4294967296 % 2 = ((c.toNat / 2 ^ k % 2 : Nat) : Int) := by
  rw [bit_cast]
  have h1 := lt8 c
  have h2 : c.toNat / 2 ^ k ≤ c.toNat := Nat.div_le_self _ _
  generalize c.toNat / 2 ^ k = x at *
  omega
theorem ret_two {a b c d : Int} (h1 : a = c) (h2 : b = d) : Ending.returned (.tuple #[.int .i64 a, .int .i64 b]) = .returned (.tuple #[.int .i64 c, .int .i64 d]) := by rw [h1, h2]
set_option maxHeartbeats 1000000 in
theorem isEnd_any (a : Option Addr) (len cap : Nat) (r : List (BitVec 8)) (i : Nat) (w : World) (hr : Rd w a len r) (hi : i ≤ 8 * len) :
    Calls Tryz.prog 48 #[.slice a len cap, .int .i64 (i : Int)] w fun e w' => e = .returned (.bool (isEnd r i)) ∧ w' = w := by
  obtain ⟨hl, hm, hc⟩ := hr
  have hii : (i : Int) ≤ 1125899906842624 := by omega
  by_cases he : (i + 7) / 8 = r.length
  · have e1 : (((i : Int) + 7) / 8 != (len : Int)) = false := by rw [bne_eq_false_iff_eq]; omega
    by_cases h8 : i % 8 = 0
    · have HE := hide (isEnd_full he h8)
      have e2 : ((i : Int) % 8 == 0) = true := by rw [beq_iff_eq]; omega
      clear hc hl he h8
      go_enter Tryz.func48, Tryz.ntmps48
      go_wp2_with fail
      go_ret
      exact ⟨ret_bool HE.out.symm, rfl⟩
    · have HE := hide (isEnd_part he h8)
      have e2 : ((i : Int) % 8 == 0) = false := by rw [beq_eq_false_iff_ne]; omega
      obtain ⟨b1, o1, rfl, hb1, hc1⟩ := hc (by omega)
      obtain ⟨m, hm1⟩ : ∃ m, len = m + 1 := ⟨len - 1, by omega⟩
      subst hm1
      have g1 := hc1 m (by omega)
      rw [hl, Nat.add_sub_cancel] at HE
      obtain ⟨c, hcc⟩ : ∃ c, r.getD m 0 = c := ⟨_, rfl⟩
      rw [hcc] at g1 HE
      have e3 : ((m + 1 : Nat) : Int) - 1 = (m : Int) := by omega
      have e5 : (m : Int) < ((m + 1 : Nat) : Int) := by omega
      clear hc hc1 hl he h8 hcc
      go_enter Tryz.func48, Tryz.ntmps48
      go_wp2_with fail
      go_ret
      refine ⟨ret_bool ?_, rfl⟩
      rw [HE.out, bit_cast]
      generalize c.toNat / 2 ^ (i % 8) = x
      rw [Bool.eq_iff_iff, beq_iff_eq, decide_eq_true_iff]
      omega
  · have HE := hide (isEnd_len he)
    have e1 : (((i : Int) + 7) / 8 != (len : Int)) = true := by rw [bne_iff_ne]; omega
    clear hc hl he
    go_enter Tryz.func48, Tryz.ntmps48
    go_wp2_with fail
    go_ret
    exact ⟨ret_bool HE.out.symm, rfl⟩
theorem and_one (s : Nat) (h : s < 256) : bits .and .u8 (s : Int) 1 = ((s % 2 : Nat) : Int) := by
  have : (1 : Int) = ((1 : Nat) : Int) := rfl
  rw [this, u8_and_nat s 1 h (by omega)]
  congr 1
  exact Nat.and_one_is_mod s
set_option maxHeartbeats 1000000 in
set_option maxRecDepth 100000 in
theorem read_any (gw : Nat) (a : Option Addr) (len cap : Nat) (ls : List Int) (r : List (BitVec 8)) (i : Nat) (w : World) (hw : RowI 81 w gw (wordsOf ls)) (hr : Rd w a len r) (hi : i ≤ 8 * len) (hls : ls.length ≤ 256) :
    Calls Tryz.prog 47 #[.pointer (some ⟨gw, 0, none⟩), .slice a len cap, .int .i64 (i : Int)] w fun e w' => ∃ p s : Nat, e = .returned (.tuple #[.int .i64 (p : Int), .int .i64 (s : Int)]) ∧ (s = 0 ∧ wordAt ls r i = none ∨ 0 < s ∧ ∃ N, wordAt ls r i = some (s, N) ∧ p = ahead ls s + (N - first ls s)) ∧ w' = w := by
  have HL := hide hr.1
  have HC := hide hr.2.2
  have HW := hide hw
  have hm := hr.2.1
  have HI := hide hi
  have h8l : (len : Int) ≤ 140737488355328 := by omega
  clear hr hw hi
  go_enter Tryz.func47, Tryz.ntmps47
  go_wp2_with fail
  go_loop [2, 8, 9] (fun sa sn sl => ∃ l p N : Nat, 1 ≤ l ∧ l ≤ 16 ∧ sa = .int .i64 (p : Int) ∧ sn = .int .i64 (N : Int) ∧ sl = .int .i64 (l : Int) ∧ Hid (p + 1 = i + l ∧ p ≤ 8 * len ∧ N + 1 ≤ 2 ^ (l - 1) ∧ first ls l ≤ 2 * N ∧ wordGo ls r (16 - l) p l N = wordAt ls r i)) (fun _ _ sl => 16 - (intOf sl).toNat)
  case atStart => exact ⟨1, i, 0, by omega, by omega, rfl, rfl, rfl, rfl, HI.out, by simp, by simp [first, cntW], rfl⟩
  case round =>
    obtain ⟨l, p, N, hl1, hl2, rfl, rfl, rfl, H⟩ := hrel
    by_cases h16 : l < 16
    · have hl16 : (l : Int) < 16 := by omega
      by_cases hp : p < 8 * len
      · have hpi : (p : Int) < 8 * (len : Int) := by omega
        have hp2 : (p : Int) ≤ 1125899906842624 := by omega
        obtain ⟨b1, o1, rfl, hb1, hc1⟩ := HC.out (by omega)
        have g1 := hc1 (p / 8) (by omega)
        have h8 : (p : Int) / 8 < (len : Int) := by omega
        obtain ⟨c, hcc⟩ : ∃ c, r.getD (p / 8) 0 = c := ⟨_, rfl⟩
        rw [hcc] at g1
        obtain ⟨S, hS⟩ : ∃ S, c.toNat / 2 ^ (p % 8) = S := ⟨_, rfl⟩
        have hS2 : S < 256 := by have := Nat.div_le_self c.toNat (2 ^ (p % 8)); have := lt8 c; omega
        have s1 : (c.toNat : Int) / 2 ^ (p % 8) = (S : Int) := by rw [bit_cast, hS]
        obtain ⟨B, hB⟩ : ∃ B, S % 2 = B := ⟨_, rfl⟩
        have s2 : bits .and .u8 (S : Int) 1 = (B : Int) := by rw [and_one S hS2, hB]
        have hB1 : (B : Int) ≤ 1 := by omega
        have HBA : Hid (bitAt r p = B) := by show _ = _; unfold bitAt; rw [hcc, hS, hB]
        have hN : N ≤ 32768 := by
          have h := H.out.2.2.1
          have : 2 ^ (l - 1) ≤ 2 ^ 15 := Nat.pow_le_pow_right (by decide) (by omega)
          omega
        have hNi : (N : Int) ≤ 32768 := by omega
        have c1 := HW.out.cell l (by rw [wordsOf_len]; omega)
        have c2 := HW.out.cell (16 + l) (by rw [wordsOf_len]; omega)
        have c3 := HW.out.cell (32 + l) (by rw [wordsOf_len]; omega)
        rw [wordsOf_count ls l h16] at c1
        rw [wordsOf_first ls l h16] at c2
        rw [wordsOf_ahead ls l h16] at c3
        have hfl := first_le ls hls l
        have hcl := cntW_le ls ls.length l
        have hal := ahead_le ls hls l
        have hpw : 512 * 2 ^ l ≤ 512 * 2 ^ 15 := Nat.mul_le_mul_left _ (Nat.pow_le_pow_right (by decide) (by omega))
        have HWG : Hid (wordAt ls r i = if first ls l ≤ 2 * N + B ∧ 2 * N + B < first ls l + cntW ls ls.length l then some (l, 2 * N + B) else wordGo ls r (16 - (l + 1)) (p + 1) (l + 1) (2 * N + B)) := by
          show _ = _
          rw [← H.out.2.2.2.2, show 16 - l = (16 - (l + 1)) + 1 by omega]
          simp only [wordGo]
          rw [if_neg (by rw [HL.out]; omega), HBA.out]
        have HF1 : Hid (first ls (l + 1) = 2 * (first ls l + cntW ls ls.length l)) := rfl
        have HF := hide H.out.2.2.2.1
        have HA : Hid (ahead ls l = ahead ls l) := rfl
        obtain ⟨F, hF⟩ : ∃ F, first ls l = F := ⟨_, rfl⟩
        obtain ⟨C, hC⟩ : ∃ C, cntW ls ls.length l = C := ⟨_, rfl⟩
        obtain ⟨A, hA⟩ : ∃ A, ahead ls l = A := ⟨_, rfl⟩
        have HFE := hide hF
        have HAE := hide hA
        rw [hF] at c2 hfl HWG HF1 HF
        rw [hC] at c1 hcl HWG HF1
        rw [hA] at c3 hal
        have hFi : (F : Int) ≤ 16777216 := by omega
        have hCi : (C : Int) ≤ 256 := by omega
        have hAi : (A : Int) ≤ 4096 := by omega
        have HFM : Hid (F ≤ 2 * N + B) := by have := HF.out; show _ ≤ _; omega
        clear hc1 hcc hS hB hF hC hA hfl hcl hal hpw HA
        by_cases hlt : 2 * N + B < F + C
        · have HW2 : Hid (wordAt ls r i = some (l, 2 * N + B)) := by show _ = _; rw [HWG.out, if_pos ⟨HFM.out, hlt⟩]
          have hlt2 : 2 * (N : Int) + (B : Int) - (F : Int) < (C : Int) := by omega
          clear hlt
          go_wp2_with fail
          go_ret2
          refine ⟨A + (2 * N + B - F), l, ?_, .inr ⟨by omega, _, HW2.out, by rw [HAE.out, HFE.out]⟩, rfl⟩
          have := HFM.out
          exact ret_two (by omega) rfl
        · have HW2 : Hid (wordGo ls r (16 - (l + 1)) (p + 1) (l + 1) (2 * N + B) = wordAt ls r i) := by show _ = _; rw [HWG.out, if_neg (fun h => hlt h.2)]
          have hlt2 : ¬ 2 * (N : Int) + (B : Int) - (F : Int) < (C : Int) := by omega
          have HFX : Hid (F + C ≤ 2 * N + B) := by show _ ≤ _; omega
          clear hlt
          go_wp2_with fail
          go_round
          case rel =>
            refine ⟨l + 1, p + 1, 2 * N + B, by omega, by omega, by go_num, by go_num, by go_num, by have := H.out.1; omega, by omega, ?_, by rw [HF1.out]; have := HFX.out; omega, HW2.out⟩
            have h := H.out.2.2.1
            obtain ⟨q, hq⟩ : ∃ q, l = q + 1 := ⟨l - 1, by omega⟩
            subst hq
            rw [Nat.add_sub_cancel] at h ⊢
            rw [Nat.pow_succ]
            omega
          case measure => simp [intOf]; omega
      · have hpi : ¬ (p : Int) < 8 * (len : Int) := by omega
        have HW2 : Hid (wordAt ls r i = none) := by
          show _ = _
          rw [← H.out.2.2.2.2, show 16 - l = (16 - (l + 1)) + 1 by omega]
          simp only [wordGo]
          rw [if_pos (by rw [HL.out]; omega)]
        go_wp2_with fail
        go_ret2
        exact ⟨0, 0, rfl, .inl ⟨rfl, HW2.out⟩, rfl⟩
    · obtain rfl : l = 16 := by omega
      have HW2 : Hid (wordAt ls r i = none) := by show _ = _; rw [← H.out.2.2.2.2]; rfl
      go_wp2_with fail
      go_ret2
      exact ⟨0, 0, rfl, .inl ⟨rfl, HW2.out⟩, rfl⟩
end Go.Proofs.YthdblnfohbldcaaGreat.Huff
