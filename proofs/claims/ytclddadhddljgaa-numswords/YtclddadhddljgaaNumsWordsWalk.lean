/-
  The walk of the statement NumsWords.
-/
import Derived.Test.YtclddadhddljgaaNumsFixC
import Derived.Test.YtclddadhddljgaaNumsHead
import Derived.WalkArith
namespace Go.Proofs.Ytclddadhddljgaa.numsWords
open Go.ChangeShapes Go.WideShapes Go.ChangeAt Go.RowKit
open Go.Proofs.Ytclddadhddljgaa.Base Go.Proofs.Ytclddadhddljgaa.Nums
set_option linter.unusedVariables false
theorem wf_8 : (Lit.int .i64 8).wf = true := by decide
theorem wf_len (n : Nat) (h : n ≤ 140737488351232) : (Lit.int .i64 (n : Int)).wf = true := WalkArith.wf_i64 (by omega)
set_option maxHeartbeats 4000000 in
set_option maxRecDepth 100000 in
theorem walk (x0 : BitVec 64) (a1 : Option Addr) (len1 cap1 : Nat) (b1 : List (BitVec 8)) (w : World) (r1 : Rd w a1 len1 b1) (l1 : len1 ≤ cap1) (m1 : cap1 ≤ 140737488351232) (z1 : a1 = none → len1 = 0 ∧ cap1 = 0) :
    Calls Try.prog 7 #[.int .u64 (x0.toNat : Int), .slice a1 len1 cap1] w fun e w' => e = .returned (.bool true) ∧ Below w.heap.size w w' := by
  have hx := x0.isLt
  have R := hide r1
  have HL := hide r1.1
  have Z := hide z1
  have HF : Hid (fixI x0.toNat 8 = fixed x0.toNat 8) := fixI_nat x0.toNat 8 (by omega)
  have HW : Hid (word (fixed x0.toNat 8) = x0.toNat) := by
    show _ = _
    rw [word_fixed _ 8 (by omega)]
    exact Nat.mod_eq_of_lt (by omega)
  clear r1 z1
  generalize x0.toNat = X at hx HF HW
  have hX : (X : Int) ≤ 18446744073709551615 := by omega
  go_enter Try.func7, Try.ntmps7
  go_wp2_with fail
  refine (fixed_any _ _ _ hx wf_8).mono ?_
  rintro e w1 ⟨u, rfl, ho, hb⟩
  rw [HF.out] at ho
  obtain ⟨a, c, rfl⟩ := ho.shape
  rw [length_fixed] at ho ⊢
  have HO := hide ho
  have HB1 := hide hb
  have hcc := (Got.cap ho).1
  have hcr := ho.room
  clear ho hb
  go_wp2_with fail
  refine (word_any _ _ _ _ _ (Got.rd HO.out (by rw [length_fixed]; omega)) hcc hcr).mono ?_
  rintro e w2 ⟨rfl, hb⟩
  have HB2 := hide (below_trans HB1.out hb)
  clear hb HB1 HO
  rw [HW.out]
  have q0 : ((X : Int) != (X : Int)) = false := by simp
  by_cases h8 : 8 < len1
  · have C1 : Hid (∀ W, Below w.heap.size w W → Calls Try.prog 18 #[.slice a1 len1 cap1] W fun e w' => e = .returned (.int .u64 (word b1 : Nat)) ∧ Below W.heap.size W w') :=
      fun W hW => word_any _ _ _ _ _ (R.out.below hW) l1 (by omega)
    have C2 : Hid (∀ W, Below w.heap.size w W → Calls Try.prog 18 #[.slice a1 8 cap1] W fun e w' => e = .returned (.int .u64 (word b1 : Nat)) ∧ Below W.heap.size W w') := by
      intro W hW
      have h := word_any a1 8 cap1 _ W ((R.out.below hW).cut 8 (by omega)) (by omega) (by omega)
      have e : word (b1.take 8) = word b1 := by unfold word; rw [List.take_take]; rfl
      rw [e] at h
      exact h
    generalize word b1 = V at C1 C2
    have q1 : ((V : Int) == (V : Int)) = true := by simp
    have h8i : (8 : Int) < (len1 : Int) := by omega
    have h8c : 8 ≤ cap1 := by omega
    have h8j : (8 : Int) ≤ (cap1 : Int) := by omega
    go_wp2_with fail
    go_region_held (fun _ => True) (trivial) (first
      | (go_at_call 9; refine (head_any _).mono ?_; rintro e v4 ⟨rfl, hbh⟩; have HBh := hide (below_trans HBc.out hbh); clear hbh)
      | (go_at_call_of 18 (Value.slice a1 len1 cap1); refine (C1.out _ (by first | exact HB2.out | exact HB2.out.drew | exact HB2.out.drew.drew)).mono ?_; rintro e v3 ⟨rfl, hbb⟩; have HBb := hide (below_trans (by first | exact HB2.out | exact HB2.out.drew | exact HB2.out.drew.drew) hbb); clear hbb)
      | (go_at_call_of 18 (Value.slice a1 8 cap1); refine (C2.out _ HBb.out).mono ?_; rintro e v3 ⟨rfl, hbb⟩; have HBc := hide (below_trans HBb.out hbb); clear hbb))
    all_goals
      go_wp2_with fail
      go_ret
      exact ⟨rfl, HBh.out⟩
  · have hE := HL.out
    by_cases h0 : len1 = 0
    · subst h0
      have hnil : b1 = [] := List.length_eq_zero_iff.1 hE
      go_wp2_with fail
      refine (word_any _ _ _ _ _ (R.out.below HB2.out) l1 (by omega)).mono ?_
      rintro e w3 ⟨rfl, hb⟩
      have HB3 := hide (below_trans HB2.out hb)
      have e0 : word b1 = 0 := by rw [hnil]; rfl
      rw [e0]
      clear hb e0 hnil hE
      go_wp2_with fail
      refine (head_any _).mono ?_
      rintro e w4 ⟨rfl, hb⟩
      have HB4 := hide (below_trans HB3.out hb)
      clear hb
      go_wp2_with fail
      go_ret
      exact ⟨rfl, HB4.out⟩
    · have HFB : Hid (fixI (word b1) (len1 : Int) = b1) := by
        show _ = _
        rw [fixI_nat _ len1 (by omega), ← hE, fixed_word_back b1 (by omega)]
      have hV := word_lt b1
      have q4 : ((len1 : Int) == 0) = false := by rw [beq_eq_false_iff_ne]; omega
      clear hE
      go_wp2_with fail
      refine (word_any _ _ _ _ _ (R.out.below HB2.out) l1 (by omega)).mono ?_
      rintro e w3 ⟨rfl, hb⟩
      have HB3 := hide (below_trans HB2.out hb)
      clear hb
      generalize word b1 = V at hV HFB
      have hVi : (V : Int) ≤ 18446744073709551615 := by omega
      go_wp2_with fail
      refine (fixed_any _ _ _ hV (wf_len len1 (by omega))).mono ?_
      rintro e w4 ⟨u, rfl, ho, hb⟩
      rw [HFB.out] at ho
      obtain ⟨a, c, rfl⟩ := ho.shape
      have HO := hide ho
      have HB4 := hide (below_trans HB3.out hb)
      have hl2 : b1.length ≤ 140737488355328 := by rw [HL.out]; omega
      have HL2 := hide hl2
      clear ho hb hl2
      go_wp2_with fail
      refine (same_any _ _ _ _ _ _ _ _ _ (Got.rd HO.out HL2.out) (R.out.below HB4.out)).mono ?_
      rintro e w5 ⟨rfl, hb⟩
      have HB5 := hide (below_trans HB4.out hb)
      clear hb
      rw [show decide (b1 = b1) = true from by simp]
      go_wp2_with fail
      refine (head_any _).mono ?_
      rintro e w6 ⟨rfl, hb⟩
      have HB6 := hide (below_trans HB5.out hb)
      clear hb
      go_wp2_with fail
      go_ret
      exact ⟨rfl, HB6.out⟩
end Go.Proofs.Ytclddadhddljgaa.numsWords
