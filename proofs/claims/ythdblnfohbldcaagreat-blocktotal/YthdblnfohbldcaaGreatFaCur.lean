/-
  A cursor that may have failed, read on.
-/
import Derived.Test.YthdblnfohbldcaaGreatNcZ
namespace Go.Proofs.YthdblnfohbldcaaGreat.Fa
open Go.ChangeShapes Go.WideShapes Go.ChangeAt Go.RowKit
open Go.Proofs.YthdblnfohbldcaaGreat.Base Go.Proofs.YthdblnfohbldcaaGreat.Nums Go.Proofs.YthdblnfohbldcaaGreat.Curs
set_option linter.unusedVariables false
/-- What is left of a cursor; none: it has failed. -/
abbrev St := Option (List (BitVec 8))
def Cst (w : World) (g : Nat) : St → Prop
  | some L => ∃ p, Cur w g L p
  | none => ∃ (p er : Int), Row w g (.slice none 0 0) p er ∧ er ≠ 0
/-- A number is read. -/
def numS (s : St) (most : Int) : Nat × St :=
  match s with
  | none => (0, none)
  | some L => if (atMost L most).2.2 = 0 then ((atMost L most).1, some (L.drop (atMost L most).2.1)) else (0, none)
/-- A word is read. -/
def fixS (s : St) (n : Int) : Nat × St :=
  match s with
  | none => (0, none)
  | some L => if (fixAt L n).2.2 = 0 then ((fixAt L n).1, some (L.drop (fixAt L n).2.1)) else (0, none)
theorem Cur.row {w : World} {g p : Nat} {L : List (BitVec 8)} (h : Cur w g L p) : ∃ v q, Row w g v q 0 := by
  obtain ⟨a, c, hrow, _⟩ := h
  exact ⟨_, _, hrow⟩
theorem Cst.lt {w : World} {g : Nat} {s : St} (h : Cst w g s) : g < w.heap.size := by
  cases s with
  | none => obtain ⟨p, er, hr, _⟩ := h; exact hr.lt
  | some L => obtain ⟨p, hc⟩ := h; obtain ⟨v, q, hr⟩ := Cur.row hc; exact hr.lt
/-- The cursor stays as it is where memory elsewhere grows. -/
theorem Cst.below {w w' : World} {g : Nat} {s : St} (h : Cst w g s) (hb : Below w.heap.size w w') : Cst w' g s := by
  cases s with
  | none =>
    obtain ⟨p, er, hr, he⟩ := h
    exact ⟨p, er, hr.grown (below_grown hb) (by simp), he⟩
  | some L =>
    obtain ⟨p, a, c, hrow, hrd, h1, h2, h3, h4, h5, h6⟩ := h
    exact ⟨p, a, c, hrow.grown (below_grown hb) (by simp), hrd.below hb, h1, h2, h3, h4, Nat.lt_of_lt_of_le h5 hb.size, h6⟩
theorem atMost_zero (L : List (BitVec 8)) (k : Int) (h : (atMost L k).2.2 ≠ 0) : (atMost L k).1 = 0 := by
  unfold atMost at h ⊢
  split
  · rfl
  · split
    · rfl
    · rename_i h1 h2
      rw [if_neg h1, if_neg h2] at h
      exact absurd (by simpa using h1) h
theorem fixAt_zero (L : List (BitVec 8)) (k : Int) (h : (fixAt L k).2.2 ≠ 0) : (fixAt L k).1 = 0 := by
  unfold fixAt at h ⊢
  split
  · rfl
  · split
    · rfl
    · rename_i h1 h2
      rw [if_neg h1, if_neg h2] at h
      exact absurd rfl h
theorem num_st (g : Nat) (s : St) (most : Int) (w : World) (h : Cst w g s) :
    Calls Tryz.prog 102 #[.pointer (some ⟨g, 0, none⟩), .int .i64 most] w fun e w' => e = .returned (.int .i64 ((numS s most).1 : Nat)) ∧ w.grownBy w' (some g) ∧ Cst w' g (numS s most).2 := by
  cases s with
  | none =>
    obtain ⟨p, er, hr, he⟩ := h
    refine (num_dead g _ p er most w hr he).mono ?_
    rintro e w' ⟨rfl, hb⟩
    exact ⟨rfl, grown_any (below_grown hb) _, ⟨p, er, hr.grown (below_grown hb) (by simp), he⟩⟩
  | some L =>
    obtain ⟨p, hc⟩ := h
    refine (num_any g p L most w hc).mono ?_
    rintro e w' ⟨rfl, hg, hif⟩
    unfold numS
    simp only
    by_cases h0 : (atMost L most).2.2 = 0
    · rw [if_pos h0] at hif ⊢
      exact ⟨rfl, hg, ⟨_, hif⟩⟩
    · rw [if_neg h0] at hif ⊢
      exact ⟨by rw [atMost_zero L most h0], hg, ⟨_, _, hif.1, by have := hif.2; omega⟩⟩
theorem fix_st (g : Nat) (s : St) (k : Int) (w : World) (h : Cst w g s) :
    Calls Tryz.prog 84 #[.pointer (some ⟨g, 0, none⟩), .int .i64 k] w fun e w' => e = .returned (.int .u64 ((fixS s k).1 : Nat)) ∧ w.grownBy w' (some g) ∧ Cst w' g (fixS s k).2 := by
  cases s with
  | none =>
    obtain ⟨p, er, hr, he⟩ := h
    refine (fixed_dead g _ p er k w hr he).mono ?_
    rintro e w' ⟨rfl, hb⟩
    exact ⟨rfl, grown_any (below_grown hb) _, ⟨p, er, hr.grown (below_grown hb) (by simp), he⟩⟩
  | some L =>
    obtain ⟨p, hc⟩ := h
    refine (fixedC_any g p L k w hc).mono ?_
    rintro e w' ⟨rfl, hg, hif⟩
    unfold fixS
    simp only
    by_cases h0 : (fixAt L k).2.2 = 0
    · rw [if_pos h0] at hif ⊢
      exact ⟨rfl, hg, ⟨_, hif⟩⟩
    · rw [if_neg h0] at hif ⊢
      exact ⟨by rw [fixAt_zero L k h0], hg, ⟨_, _, hif.1, by have := hif.2; omega⟩⟩
end Go.Proofs.YthdblnfohbldcaaGreat.Fa
