/-
  The walk of the statement HuffRound.
-/
import Derived.Test.YtalnhhpcncjflaaHuffE8
namespace Go.Proofs.Ytalnhhpcncjflaa.huffRound
open Go.ChangeShapes Go.WideShapes Go.ChangeAt Go.RowKit
open Go.Proofs.Ytalnhhpcncjflaa.Base Go.Proofs.Ytalnhhpcncjflaa.Huff
set_option linter.unusedVariables false
theorem decoded_says (b : List (BitVec 8)) (n : Int) : ((decoded b n).2 ≠ 0 ∧ (decoded b n).1 = []) ∨ ((decoded b n).2 = 0 ∧ 0 ≤ n ∧ n ≤ 65536 ∧ ((decoded b n).1.length : Int) = n ∧ n ≤ 8 * (b.length : Int)) := by
  by_cases h : n < 0 ∨ 65536 < n
  · rw [dec_arg b n h]; exact .inl ⟨by decide, rfl⟩
  · obtain ⟨N, rfl⟩ : ∃ N : Nat, n = (N : Int) := ⟨n.toNat, by omega⟩
    have hN : N ≤ 65536 := by omega
    cases hl : lensOf b with
    | none => rw [dec_none b N hN hl]; exact .inl ⟨by decide, rfl⟩
    | some p =>
      obtain ⟨ls, r⟩ := p
      cases hr : right ls with
      | false => rw [dec_wrong b r ls N hN hl hr]; exact .inl ⟨by decide, rfl⟩
      | true =>
        cases ht : textTo ls r N with
        | none => rw [dec_stop b r ls N hN hl ht]; exact .inl ⟨by decide, rfl⟩
        | some q =>
          obtain ⟨t, i⟩ := q
          rw [dec_text b r t ls N i hN hl hr ht]
          have h1 := textTo_ok ls r N t i ht
          have h2 := (lensOf_ok hl).2.2
          split
          · exact .inr ⟨rfl, by omega, by omega, by simp only []; omega, by omega⟩
          · exact .inl ⟨by decide, rfl⟩
set_option maxHeartbeats 1000000 in
set_option maxRecDepth 100000 in
theorem walk (a0 : Option Addr) (len0 cap0 : Nat) (b0 : List (BitVec 8)) (a1 : Option Addr) (len1 cap1 : Nat) (b1 : List (BitVec 8)) (n2 : Int) (w : World)
    (rd0 : Rd w a0 len0 b0) (l0 : len0 ≤ cap0) (m0 : cap0 ≤ 140737488351232) (z0 : a0 = none → len0 = 0 ∧ cap0 = 0) (rd1 : Rd w a1 len1 b1) (l1 : len1 ≤ cap1) (m1 : cap1 ≤ 140737488351232) (z1 : a1 = none → len1 = 0 ∧ cap1 = 0) (w2 : (Lit.int .i64 n2).wf = true) :
    Calls Try.prog 5 #[.slice a0 len0 cap0, .slice a1 len1 cap1, .int .i64 n2] w fun e w' => e = .returned (.bool true) ∧ Below w.heap.size w w' := by
  have R0 := hide rd0
  have R1 := hide rd1
  have HW := hide (fun W => works4_any W)
  have HS := hide (decoded_says b1 n2)
  rw [rd1.1] at HS
  have HD := hide (fun W h => decode_any a1 len1 cap1 b1 n2 W h l1 (by omega))
  have HLD := hide (decoded_len b1 n2)
  generalize decoded b1 n2 = D at HS HD HLD
  clear rd1 z0 z1
  by_cases h : len0 ≤ 65536
  · have hi : (len0 : Int) ≤ 65536 := by omega
    have HTB := hide (there_back b0 (by rw [rd0.1]; exact h))
    have HEN := hide (fun W h => encode_any a0 len0 cap0 b0 W h l0)
    rw [HTB.out.1] at HEN
    have HEL := hide (encoded_len b0)
    have HDE := hide (fun a n c W h1 h2 h3 => decode_any a n c (encoded b0).1 (len0 : Int) W h1 h2 h3)
    have e3 : decoded (encoded b0).1 (len0 : Int) = (b0, 0) := by rw [← rd0.1]; exact HTB.out.2
    rw [e3] at HDE
    clear e3 HTB
    generalize (encoded b0).1 = E at HEN HDE HEL
    have HL0 := hide rd0.1
    clear rd0
    go_enter Try.func5, Try.ntmps5
    go_wp2_with fail
    refine (HEN.out _ R0.out).mono ?_
    rintro e w3 ⟨v3, rfl, ho3, hb3⟩
    obtain ⟨a3, c3, rfl⟩ := ho3.shape
    have HB3 := hide hb3
    have HO3 := hide ho3
    have hc3 := (Got.cap ho3).1
    have hr3 := ho3.room
    clear hb3 ho3
    go_wp2_with fail
    refine (HDE.out a3 _ c3 w3 (Got.rd HO3.out (by have := HEL.out; omega)) hc3 hr3).mono ?_
    rintro e w4 ⟨v4, rfl, ho4, hb4⟩
    simp only at ho4 ⊢
    have HB4 := hide (below_trans HB3.out hb4)
    obtain ⟨a4, c4, rfl⟩ := ho4.shape
    have HO4 := hide ho4
    clear hb4 ho4
    rw [HL0.out] at HO4 ⊢
    go_wp2_with fail
    refine (same4_eq a4 a0 len0 c4 len0 cap0 b0 w4 (Got.rd HO4.out (by rw [HL0.out]; omega)) (R0.out.below HB4.out)).mono ?_
    rintro e w5 ⟨rfl, hb5⟩
    have HB5 := hide (below_trans HB4.out hb5)
    clear hb5
    go_wp2_with fail
    refine (HD.out w5 (R1.out.below HB5.out)).mono ?_
    rintro e w6 ⟨v6, rfl, ho6, hb6⟩
    have HB6 := hide (below_trans HB5.out hb6)
    obtain ⟨a6, c6, rfl⟩ := ho6.shape
    clear hb6 ho6
    rcases HS.out with ⟨h1, h2⟩ | ⟨h1, h2, h3, h4, h5⟩
    · have h1b : (D.2 == 0) = false := by rw [beq_eq_false_iff_ne]; exact h1
      have h1c : (D.2 != 0) = true := by rw [bne_iff_ne]; exact h1
      have h2l : D.1.length = 0 := by rw [h2]; rfl
      rw [h2l]
      go_wp2_with fail
      refine (HW.out w6).mono ?_
      rintro e w7 ⟨rfl, hb7⟩
      have HB7 := hide (below_trans HB6.out hb7)
      clear hb7
      go_wp2_with fail
      go_ret
      exact ⟨rfl, HB7.out⟩
    · rw [h1]
      generalize hZ : D.1.length = Z at h4
      have h5b : n2 ≤ 8 * (len1 : Int) := h5
      go_wp2_with fail
      refine (HW.out w6).mono ?_
      rintro e w7 ⟨rfl, hb7⟩
      have HB7 := hide (below_trans HB6.out hb7)
      clear hb7
      go_wp2_with fail
      go_ret
      exact ⟨rfl, HB7.out⟩
  · have hi : (65536 : Int) < (len0 : Int) := by omega
    clear rd0
    go_enter Try.func5, Try.ntmps5
    go_wp2_with fail
    refine (HD.out w R1.out).mono ?_
    rintro e w6 ⟨v6, rfl, ho6, hb6⟩
    have HB6 := hide hb6
    obtain ⟨a6, c6, rfl⟩ := ho6.shape
    clear hb6 ho6
    rcases HS.out with ⟨h1, h2⟩ | ⟨h1, h2, h3, h4, h5⟩
    · have h1b : (D.2 == 0) = false := by rw [beq_eq_false_iff_ne]; exact h1
      have h1c : (D.2 != 0) = true := by rw [bne_iff_ne]; exact h1
      have h2l : D.1.length = 0 := by rw [h2]; rfl
      rw [h2l]
      go_wp2_with fail
      refine (HW.out w6).mono ?_
      rintro e w7 ⟨rfl, hb7⟩
      have HB7 := hide (below_trans HB6.out hb7)
      clear hb7
      go_wp2_with fail
      go_ret
      exact ⟨rfl, HB7.out⟩
    · rw [h1]
      generalize hZ : D.1.length = Z at h4
      have h5b : n2 ≤ 8 * (len1 : Int) := h5
      go_wp2_with fail
      refine (HW.out w6).mono ?_
      rintro e w7 ⟨rfl, hb7⟩
      have HB7 := hide (below_trans HB6.out hb7)
      clear hb7
      go_wp2_with fail
      go_ret
      exact ⟨rfl, HB7.out⟩
end Go.Proofs.Ytalnhhpcncjflaa.huffRound
