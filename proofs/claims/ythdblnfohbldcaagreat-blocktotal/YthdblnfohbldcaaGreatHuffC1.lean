/-
  What lengths cost: the program's and the document's answer.
-/
import Derived.Test.YthdblnfohbldcaaGreatIBase
namespace Go.Proofs.YthdblnfohbldcaaGreat.Huff
open Go.ChangeShapes Go.WideShapes Go.ChangeAt Go.RowKit
open Go.Proofs.YthdblnfohbldcaaGreat.Base
set_option linter.unusedVariables false
/-- All from 0 to m. -/
def allIn (m : Int) (xs : List Int) : Bool := xs.all fun x => decide (0 ≤ x ∧ x ≤ m)
theorem allIn_drop (m : Int) (xs : List Int) (k : Nat) (h : k < xs.length) : allIn m (xs.drop k) = (decide (0 ≤ xs.getD k 0 ∧ xs.getD k 0 ≤ m) && allIn m (xs.drop (k + 1))) := by
  rw [List.drop_eq_getElem_cons h]
  unfold allIn
  rw [List.all_cons, List.getD_eq_getElem?_getD, List.getElem?_eq_getElem h]
  rfl
theorem allIn_end (m : Int) (xs : List Int) (k : Nat) (h : xs.length ≤ k) : allIn m (xs.drop k) = true := by
  rw [List.drop_eq_nil_of_le h]; rfl
theorem allIn_get {m : Int} {xs : List Int} (h : allIn m xs = true) (k : Nat) (hk : k < xs.length) : 0 ≤ xs.getD k 0 ∧ xs.getD k 0 ≤ m := by
  unfold allIn at h
  rw [List.all_eq_true] at h
  have := h (xs.getD k 0) (by rw [List.getD_eq_getElem?_getD, List.getElem?_eq_getElem hk]; exact List.getElem_mem hk)
  simpa using this
theorem in_pos {m x : Int} (h1 : 0 ≤ x) (h2 : x ≤ m) (b : Bool) : (decide (0 ≤ x ∧ x ≤ m) && b) = b := by rw [decide_eq_true ⟨h1, h2⟩]; rfl
theorem in_neg {m x : Int} (h : ¬ (0 ≤ x ∧ x ≤ m)) (b : Bool) : (decide (0 ≤ x ∧ x ≤ m) && b) = false := by rw [decide_eq_false h]; rfl
set_option maxHeartbeats 1000000 in
theorem areCounts_any (a : Option Addr) (len cap : Nat) (xs : List Int) (w : World) (hr : RdI w a len xs) :
    Calls Tryz.prog 96 #[.slice a len cap] w fun e w' => e = .returned (.bool (allIn 1099511627776 xs)) ∧ w' = w := by
  obtain ⟨h1, hm, h3⟩ := hr
  have HL := hide h1
  have HC := hide h3
  clear h1 h3
  go_enter Tryz.func96, Tryz.ntmps96
  go_wp2
  go_loopw [7] (fun i wr => ∃ k : Nat, k ≤ len ∧ i = .int .i64 (k : Int) ∧ Hid (allIn 1099511627776 xs = allIn 1099511627776 (xs.drop k)) ∧ wr = w) (fun i _ => len - (intOf i).toNat)
  case atStart => exact ⟨0, Nat.zero_le _, rfl, rfl, rfl⟩
  case round =>
    obtain ⟨k, hk, rfl, HE, rfl⟩ := hrel
    by_cases hlt : k < len
    · obtain ⟨b1, o1, rfl, hb1, hc1⟩ := unhide HC (by omega)
      have g1 := hc1 k hlt
      have HD := hide (allIn_drop 1099511627776 xs k (by have := HL.out; omega))
      clear hc1
      have hki : (k : Int) < (len : Int) := by omega
      generalize xs.getD k 0 = x at g1 HD
      by_cases hx : 0 ≤ x ∧ x ≤ 1099511627776
      · obtain ⟨x1, x2⟩ := hx
        have HD2 := hide (HD.out.trans (in_pos x1 x2 _))
        go_wp2
        go_roundw
        case rel => exact ⟨k + 1, by omega, by go_num, HE.out.trans HD2.out, by first | rfl | trivial⟩
        case measure => simp [intOf]; omega
      · have HD2 := hide (HE.out.trans (HD.out.trans (in_neg hx _)))
        rcases Int.lt_or_le x 0 with h0 | h0
        · go_wp2
          go_ret
          exact ⟨ret_bool HD2.out.symm, rfl⟩
        · have h1 : 1099511627776 < x := by omega
          have h0' : ¬ x < 0 := by omega
          go_wp2
          go_ret
          exact ⟨ret_bool HD2.out.symm, rfl⟩
    · go_wp2
      go_ret
      exact ⟨ret_bool (HE.out.trans (allIn_end _ _ _ (by have := HL.out; omega))).symm, rfl⟩
set_option maxHeartbeats 1000000 in
theorem areLengths_any (a : Option Addr) (len cap : Nat) (xs : List Int) (w : World) (hr : RdI w a len xs) :
    Calls Tryz.prog 99 #[.slice a len cap] w fun e w' => e = .returned (.bool (allIn 15 xs)) ∧ w' = w := by
  obtain ⟨h1, hm, h3⟩ := hr
  have HL := hide h1
  have HC := hide h3
  clear h1 h3
  go_enter Tryz.func99, Tryz.ntmps99
  go_wp2
  go_loopw [7] (fun i wr => ∃ k : Nat, k ≤ len ∧ i = .int .i64 (k : Int) ∧ Hid (allIn 15 xs = allIn 15 (xs.drop k)) ∧ wr = w) (fun i _ => len - (intOf i).toNat)
  case atStart => exact ⟨0, Nat.zero_le _, rfl, rfl, rfl⟩
  case round =>
    obtain ⟨k, hk, rfl, HE, rfl⟩ := hrel
    by_cases hlt : k < len
    · obtain ⟨b1, o1, rfl, hb1, hc1⟩ := unhide HC (by omega)
      have g1 := hc1 k hlt
      have HD := hide (allIn_drop 15 xs k (by have := HL.out; omega))
      clear hc1
      have hki : (k : Int) < (len : Int) := by omega
      generalize xs.getD k 0 = x at g1 HD
      by_cases hx : 0 ≤ x ∧ x ≤ 15
      · obtain ⟨x1, x2⟩ := hx
        have HD2 := hide (HD.out.trans (in_pos x1 x2 _))
        go_wp2
        go_roundw
        case rel => exact ⟨k + 1, by omega, by go_num, HE.out.trans HD2.out, by first | rfl | trivial⟩
        case measure => simp [intOf]; omega
      · have HD2 := hide (HE.out.trans (HD.out.trans (in_neg hx _)))
        rcases Int.lt_or_le x 0 with h0 | h0
        · go_wp2
          go_ret
          exact ⟨ret_bool HD2.out.symm, rfl⟩
        · have h1 : 15 < x := by omega
          have h0' : ¬ x < 0 := by omega
          go_wp2
          go_ret
          exact ⟨ret_bool HD2.out.symm, rfl⟩
    · go_wp2
      go_ret
      exact ⟨ret_bool (HE.out.trans (allIn_end _ _ _ (by have := HL.out; omega))).symm, rfl⟩
/-- The sum over the first k places. -/
def sumTo (cs ls : List Int) : Nat → Int
  | 0 => 0
  | k + 1 => sumTo cs ls k + cs.getD k 0 * ls.getD k 0
theorem sumTo_in (cs ls : List Int) (hc : allIn 1099511627776 cs = true) (hl : allIn 15 ls = true) : ∀ k, k ≤ cs.length → k ≤ ls.length → 0 ≤ sumTo cs ls k ∧ sumTo cs ls k ≤ (k : Int) * 16492674416640 := by
  intro k
  induction k with
  | zero => intro _ _; simp [sumTo]
  | succ k ih =>
    intro h1 h2
    obtain ⟨i1, i2⟩ := ih (by omega) (by omega)
    obtain ⟨c1, c2⟩ := allIn_get hc k (by omega)
    obtain ⟨l1, l2⟩ := allIn_get hl k (by omega)
    have m1 : 0 ≤ cs.getD k 0 * ls.getD k 0 := Int.mul_nonneg c1 l1
    have m2 : cs.getD k 0 * ls.getD k 0 ≤ 1099511627776 * 15 := Int.mul_le_mul c2 l2 l1 (by decide)
    simp only [sumTo]
    omega
/-- What Cost answers. -/
def costd (cs ls : List Int) : Int × Int :=
  if 256 < cs.length ∨ 256 < ls.length then (0, 2) else if (allIn 1099511627776 cs && allIn 15 ls) = true then (sumTo cs ls (min cs.length ls.length), 0) else (0, 3)
end Go.Proofs.YthdblnfohbldcaaGreat.Huff
