/-
  A cursor that may have failed: Take, Fail, End, Rest.
-/
import Derived.Test.YthdblnfohbldcaaGreatBlNxM
import Derived.Test.YthdblnfohbldcaaGreatNcZ
import Derived.Test.YthdblnfohbldcaaGreatNumsCur2
namespace Go.Proofs.YthdblnfohbldcaaGreat.Bl
open Go.ChangeShapes Go.WideShapes Go.ChangeAt Go.RowKit
open Go.Proofs.YthdblnfohbldcaaGreat.Base Go.Proofs.YthdblnfohbldcaaGreat.Nums Go.Proofs.YthdblnfohbldcaaGreat.Curs
open Go.Proofs.YthdblnfohbldcaaGreat.Fa (St Cst numS fixS)
set_option linter.unusedVariables false
theorem take_st (g : Nat) (s : St) (n : Nat) (w : World) (h : Cst w g s) :
    Calls Tryz.prog 103 #[.pointer (some ⟨g, 0, none⟩), .int .i64 (n : Int)] w fun e w' => ∃ v, e = .returned v ∧ Own w' w.heap.size v (takS s n).1 ∧ w.grownBy w' (some g) ∧ Cst w' g (takS s n).2 := by
  cases s with
  | none =>
    obtain ⟨p, er, hr, he⟩ := h
    refine (take_dead g _ p er n w hr he).mono ?_
    rintro e w' ⟨rfl, hb⟩
    exact ⟨_, rfl, own_none _ _, grown_any (below_grown hb) _, ⟨p, er, hr.grown (below_grown hb) (by simp), he⟩⟩
  | some L =>
    obtain ⟨p, hc⟩ := h
    refine (take_any g p L n w hc).mono ?_
    rintro e w' ⟨⟨v, rfl, ho⟩, hg, hif⟩
    by_cases hl : n ≤ L.length
    · have ht : takeAt L (n : Int) = (n, 0) := by unfold takeAt; rw [if_neg (by omega), if_neg (by omega), Int.toNat_natCast]
      have ht2 : takS (some L) n = (L.take n, some (L.drop n)) := by unfold takS; simp only; rw [if_pos hl]
      rw [ht] at ho hif
      rw [if_pos rfl] at hif
      rw [ht2]
      exact ⟨v, rfl, ho, hg, ⟨_, hif⟩⟩
    · have ht : takeAt L (n : Int) = (0, 20) := by unfold takeAt; rw [if_neg (by omega), if_pos (by omega)]
      have ht2 : takS (some L) n = ([], none) := by unfold takS; simp only; rw [if_neg hl]
      rw [ht] at ho hif
      rw [if_neg (by decide)] at hif
      rw [ht2]
      exact ⟨v, rfl, ho, hg, ⟨_, _, hif.1, by decide⟩⟩
theorem fail_st (g : Nat) (s : St) (w : World) (h : Cst w g s) :
    Calls Tryz.prog 104 #[.pointer (some ⟨g, 0, none⟩), .int .i64 60] w fun e w' => e = .returned (.tuple #[]) ∧ w.grownBy w' (some g) ∧ Cst w' g none := by
  cases s with
  | none =>
    obtain ⟨p, er, hr, he⟩ := h
    refine (fail_none g _ p er 60 w hr (.inl he)).mono ?_
    rintro e w' ⟨rfl, rfl⟩
    exact ⟨rfl, World.grownBy.refl _ _, ⟨p, er, hr, he⟩⟩
  | some L =>
    obtain ⟨p, hc⟩ := h
    obtain ⟨v, q, hr⟩ := Fa.Cur.row hc
    refine (fail_any g v q 60 w hr (by decide)).mono ?_
    rintro e w' ⟨rfl, h1, h2⟩
    exact ⟨rfl, h2, ⟨q, 60, h1, by decide⟩⟩
theorem end_st (g : Nat) (s : St) (w : World) (h : Cst w g s) :
    Calls Tryz.prog 85 #[.pointer (some ⟨g, 0, none⟩)] w fun e w' => (∃ er p : Int, e = .returned (.agg #[.int .i64 er, .int .i64 p]) ∧ ((er != 0) = !decide (s = some []))) ∧ Below w.heap.size w w' := by
  cases s with
  | none =>
    obtain ⟨p, er, hr, he⟩ := h
    refine (end_none g p er w hr (fun e => absurd e he)).mono ?_
    rintro e w' ⟨rfl, hb⟩
    exact ⟨⟨er, p, rfl, by rw [decide_eq_false (by simp)]; simpa using he⟩, hb⟩
  | some L =>
    obtain ⟨p, hc⟩ := h
    refine (end_any g p L w hc).mono ?_
    rintro e w' ⟨rfl, hb⟩
    by_cases h0 : L.length = 0
    · have hL : L = [] := List.length_eq_zero_iff.1 h0
      exact ⟨⟨0, 0, by rw [if_pos h0], by rw [decide_eq_true (by rw [hL])]; rfl⟩, hb⟩
    · have hL : ¬ (some L = some []) := fun e => h0 (by cases e; rfl)
      exact ⟨⟨22, p, by rw [if_neg h0], by rw [decide_eq_false hL]; rfl⟩, hb⟩
theorem field_spot (x y : Int) : ∀ W : World, (Instr.field 139 (.agg #[.int .i64 x, .int .i64 y]) 0).run Tryz.prog W = .ok (.int .i64 x) W := fun _ => by kernel_rfl
def restS : St → Nat
  | none => 0
  | some L => L.length
theorem rest_st (g : Nat) (s : St) (w : World) (h : Cst w g s) :
    Calls Tryz.prog 114 #[.pointer (some ⟨g, 0, none⟩)] w fun e w' => e = .returned (.int .i64 (restS s : Nat)) ∧ w' = w := by
  cases s with
  | none =>
    obtain ⟨p, er, hr, he⟩ := h
    exact rest_none g p er w hr
  | some L =>
    obtain ⟨p, hc⟩ := h
    exact rest_any g p L w hc
theorem conv_none0 (W : World) : (convert 24 9 (.slice none 0 0)).run Tryz.prog W = .ok (.string ⟨#[]⟩) W := by kernel_rfl
/-- A text made of bytes of the call's own. -/
theorem conv_own {w : World} {base n c : Nat} {a : Option Addr} {bs : List (BitVec 8)} (h : Own w base (.slice a n c) bs) (hl : bs.length ≤ 140737488355328) : (convert 24 9 (.slice a n c)).run Tryz.prog w = .ok (.string (str bs)) w := by
  cases a with
  | none =>
    obtain ⟨rfl, rfl⟩ := Got.nil h rfl
    have : bs = [] := List.length_eq_zero_iff.1 (Got.cap h).2.symm
    subst this
    exact conv_none0 w
  | some x => exact conv_str (Got.rd h hl)
end Go.Proofs.YthdblnfohbldcaaGreat.Bl
