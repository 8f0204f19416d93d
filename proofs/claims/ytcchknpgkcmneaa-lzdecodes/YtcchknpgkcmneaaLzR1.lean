/-
  The document's own answers: a short number, whether a token is right.
-/
import Derived.Test.YtcchknpgkcmneaaLzC6
namespace Go.Proofs.Ytcchknpgkcmneaa.Lz
open Go.ChangeShapes Go.WideShapes Go.ChangeAt Go.RowKit
open Go.Proofs.Ytcchknpgkcmneaa.Base Go.Proofs.Ytcchknpgkcmneaa.Nums
set_option linter.unusedVariables false
theorem b8_int (n : Nat) (h : n < 256) : (((B8 n).toNat : Nat) : Int) = (n : Int) := by rw [B8_toNat n h]
set_option maxHeartbeats 1000000 in
set_option maxRecDepth 100000 in
theorem fits_any (a : Option Addr) (c : Nat) (t : Tok) (n : Nat) (last : Bool) (w : World) (hm : n + t.lit.length ≤ 9007199254740992) :
    Calls Try.prog 69 #[.agg #[.slice a t.lit.length c, .int .i64 t.dist, .int .i64 t.len], .int .i64 (n : Int), .bool last] w fun e w' => e = .returned (.bool (right t (n + t.lit.length) last)) ∧ Below w.heap.size w w' := by
  obtain ⟨lit, d, l⟩ := t
  simp only at hm ⊢
  have HB : Hid (Below w.heap.size w (w.alloc (.cells #[.slice a lit.length c, .int .i64 d, .int .i64 l] 61))) := (Below.refl _ _).alloc (Nat.le_refl _) _
  have HR : Hid (right ⟨lit, d, l⟩ (n + lit.length) last = if d = 0 ∧ l = 0 then last && decide (0 < lit.length) else decide (4 ≤ l ∧ l ≤ 259 ∧ 1 ≤ d ∧ d ≤ 32768 ∧ d ≤ ((n + lit.length : Nat) : Int))) := rfl
  obtain ⟨m, hmm⟩ : ∃ m, n + lit.length = m := ⟨_, rfl⟩
  rw [hmm] at HR hm
  rw [hmm]
  have hsum : (n : Int) + (lit.length : Int) = (m : Int) := by omega
  have hmi : (m : Int) ≤ 9007199254740992 := by omega
  have hni : (n : Int) ≤ 9007199254740992 := by omega
  clear hmm hm
  by_cases hd0 : d = 0 ∧ l = 0
  · obtain ⟨rfl, rfl⟩ := hd0
    rw [if_pos ⟨rfl, rfl⟩] at HR
    cases last with
    | true =>
      go_enter Try.func69, Try.ntmps69
      go_wp2_with fail
      go_ret
      exact ⟨ret_bool (by rw [HR.out]; simp), HB.out⟩
    | false =>
      go_enter Try.func69, Try.ntmps69
      go_wp2_with fail
      go_ret
      exact ⟨ret_bool (by rw [HR.out]; simp), HB.out⟩
  · rw [if_neg hd0] at HR
    have hbr : (d == 0) = false ∨ ((d == 0) = true ∧ (l == 0) = false) := by
      by_cases h1 : d = 0
      · exact .inr ⟨by rw [beq_iff_eq]; exact h1, by rw [beq_eq_false_iff_ne]; intro h2; exact hd0 ⟨h1, h2⟩⟩
      · exact .inl (by rw [beq_eq_false_iff_ne]; exact h1)
    clear hd0
    by_cases g1 : 4 ≤ l
    · by_cases g2 : l ≤ 259
      · by_cases g3 : 1 ≤ d
        · have hbz : (d == 0) = false := by rw [beq_eq_false_iff_ne]; omega
          clear hbr
          by_cases g4 : d ≤ 32768
          · go_enter Try.func69, Try.ntmps69
            go_wp2_with fail
            go_ret
            exact ⟨ret_bool (by rw [HR.out]; apply decide_eq_decide.2; omega), HB.out⟩
          · go_enter Try.func69, Try.ntmps69
            go_wp2_with fail
            go_ret
            exact ⟨ret_bool (by rw [HR.out]; symm; rw [decide_eq_false_iff_not]; omega), HB.out⟩
        · rcases hbr with hb | ⟨hb, hb2⟩
          all_goals
            go_enter Try.func69, Try.ntmps69
            go_wp2_with fail
            go_ret
            exact ⟨ret_bool (by rw [HR.out]; symm; rw [decide_eq_false_iff_not]; omega), HB.out⟩
      · rcases hbr with hb | ⟨hb, hb2⟩
        all_goals
          go_enter Try.func69, Try.ntmps69
          go_wp2_with fail
          go_ret
          exact ⟨ret_bool (by rw [HR.out]; symm; rw [decide_eq_false_iff_not]; omega), HB.out⟩
    · rcases hbr with hb | ⟨hb, hb2⟩
      all_goals
        go_enter Try.func69, Try.ntmps69
        go_wp2_with fail
        go_ret
        exact ⟨ret_bool (by rw [HR.out]; symm; rw [decide_eq_false_iff_not]; omega), HB.out⟩
end Go.Proofs.Ytcchknpgkcmneaa.Lz
