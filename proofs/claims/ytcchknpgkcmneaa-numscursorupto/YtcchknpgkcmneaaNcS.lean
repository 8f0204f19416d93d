/-
  Both cursors, as they stand: each call answers the same.
-/
import Derived.Test.YtcchknpgkcmneaaNcD
import Derived.Test.YtcchknpgkcmneaaNcR4
namespace Go.Proofs.Ytcchknpgkcmneaa.Curs
open Go.ChangeShapes Go.WideShapes Go.ChangeAt Go.RowKit
open Go.Proofs.Ytcchknpgkcmneaa.Base Go.Proofs.Ytcchknpgkcmneaa.Nums
set_option linter.unusedVariables false
/-- How a cursor stands: what is left, its place, its error. -/
abbrev St := List (BitVec 8) × Nat × Int
/-- The program's cursor, zero, failed or neither. -/
def Cz (w : World) (g D : Nat) (s : St) : Prop := (s.2.2 = 0 ∧ CurD w g D s.1 s.2.1) ∨ (s.2.2 = 0 ∧ s.1 = [] ∧ s.2.1 = 0 ∧ Row w g (.slice none 0 0) 0 0) ∨ (s.2.2 ≠ 0 ∧ s.1 = [] ∧ Row w g (.slice none 0 0) (s.2.1 : Int) s.2.2)
theorem cz_num (g D : Nat) (s : St) (k : Int) (w : World) (h : Cz w g D s) : Calls Try.prog 46 #[.pointer (some ⟨g, 0, none⟩), .int .i64 k] w fun e w' => e = .returned (.int .i64 ((if s.2.2 ≠ 0 then 0 else (atMost s.1 k).1 : Nat) : Int)) ∧ w.grownBy w' (some g) ∧ Cz w' g D (stepS s.1 s.2.1 s.2.2 (atMost s.1 k).2) := by
  obtain ⟨L, p, er⟩ := s
  rcases h with ⟨he, h⟩ | ⟨he, hL, hp, h⟩ | ⟨he, hL, h⟩
  · simp only at he h
    subst he
    refine (num_d g D p L k w h).mono ?_
    rintro e w' ⟨rfl, hg, hc⟩
    refine ⟨by simp, hg, ?_⟩
    simp only
    by_cases h0 : (atMost L k).2.2 = 0
    · rw [if_pos h0] at hc
      rw [show (atMost L k).2 = ((atMost L k).2.1, 0) from Prod.ext rfl h0, stepS_ok]
      exact .inl ⟨rfl, hc⟩
    · rw [if_neg h0] at hc
      rw [show (atMost L k).2 = ((atMost L k).2.1, (atMost L k).2.2) from rfl, stepS_bad _ _ _ _ h0]
      exact .inr (.inr ⟨by simp only; omega, rfl, hc.1⟩)
  · simp only at he hL hp h
    subst he hL hp
    refine (num_zero g k w h).mono ?_
    rintro e w' ⟨rfl, hg, hr⟩
    simp only [atMost_nil]
    refine ⟨by simp, hg, ?_⟩
    rw [stepS_bad _ _ _ _ (by decide)]
    exact .inr (.inr ⟨by simp, rfl, hr⟩)
  · simp only at he hL h
    refine (num_dead g _ (p : Int) er k w h he).mono ?_
    rintro e w' ⟨rfl, hb⟩
    refine ⟨by simp [he], grown_any (below_grown hb) _, ?_⟩
    simp only
    rw [stepS_dead _ _ _ _ he]
    exact .inr (.inr ⟨he, hL, h.grown (below_grown hb) (by simp)⟩)
theorem cz_fixed (g D : Nat) (s : St) (k : Int) (w : World) (h : Cz w g D s) : Calls Try.prog 48 #[.pointer (some ⟨g, 0, none⟩), .int .i64 k] w fun e w' => e = .returned (.int .u64 ((if s.2.2 ≠ 0 then 0 else (fixAt s.1 k).1 : Nat) : Int)) ∧ w.grownBy w' (some g) ∧ Cz w' g D (stepS s.1 s.2.1 s.2.2 (fixAt s.1 k).2) := by
  obtain ⟨L, p, er⟩ := s
  rcases h with ⟨he, h⟩ | ⟨he, hL, hp, h⟩ | ⟨he, hL, h⟩
  · simp only at he h
    subst he
    refine (fixed_d g D p L k w h).mono ?_
    rintro e w' ⟨rfl, hg, hc⟩
    refine ⟨by simp, hg, ?_⟩
    simp only
    by_cases h0 : (fixAt L k).2.2 = 0
    · rw [if_pos h0] at hc
      rw [show (fixAt L k).2 = ((fixAt L k).2.1, 0) from Prod.ext rfl h0, stepS_ok]
      exact .inl ⟨rfl, hc⟩
    · rw [if_neg h0] at hc
      rw [show (fixAt L k).2 = ((fixAt L k).2.1, (fixAt L k).2.2) from rfl, stepS_bad _ _ _ _ h0]
      exact .inr (.inr ⟨by simp only; omega, rfl, hc.1⟩)
  · simp only at he hL hp h
    subst he hL hp
    obtain ⟨er, hf, hne⟩ := fixAt_nil k
    refine (fixed_zero g k w h er hf hne).mono ?_
    rintro e w' ⟨rfl, hg, hr⟩
    simp only [hf]
    refine ⟨by simp, hg, ?_⟩
    rw [stepS_bad _ _ _ _ hne]
    exact .inr (.inr ⟨by simp only; omega, rfl, hr⟩)
  · simp only at he hL h
    refine (fixed_dead g _ (p : Int) er k w h he).mono ?_
    rintro e w' ⟨rfl, hb⟩
    refine ⟨by simp [he], grown_any (below_grown hb) _, ?_⟩
    simp only
    rw [stepS_dead _ _ _ _ he]
    exact .inr (.inr ⟨he, hL, h.grown (below_grown hb) (by simp)⟩)
theorem cz_take (g D : Nat) (s : St) (k : Int) (w : World) (h : Cz w g D s) : Calls Try.prog 50 #[.pointer (some ⟨g, 0, none⟩), .int .i64 k] w fun e w' => (∃ v, e = .returned v ∧ Own w' w.heap.size v (if s.2.2 ≠ 0 then [] else s.1.take (takeAt s.1 k).1) ∧ Fu v) ∧ w.grownBy w' (some g) ∧ Cz w' g D (stepS s.1 s.2.1 s.2.2 (takeAt s.1 k)) := by
  obtain ⟨L, p, er⟩ := s
  rcases h with ⟨he, h⟩ | ⟨he, hL, hp, h⟩ | ⟨he, hL, h⟩
  · simp only at he h
    subst he
    refine (take_d g D p L k w h).mono ?_
    rintro e w' ⟨hv, hg, hc⟩
    refine ⟨by simpa using hv, hg, ?_⟩
    simp only
    by_cases h0 : (takeAt L k).2 = 0
    · rw [if_pos h0] at hc
      rw [show takeAt L k = ((takeAt L k).1, 0) from Prod.ext rfl h0, stepS_ok]
      exact .inl ⟨rfl, hc⟩
    · rw [if_neg h0] at hc
      rw [show takeAt L k = ((takeAt L k).1, (takeAt L k).2) from rfl, stepS_bad _ _ _ _ h0]
      exact .inr (.inr ⟨by simp only; omega, rfl, hc.1⟩)
  · simp only at he hL hp h
    subst he hL hp
    obtain ⟨er, hf⟩ : ∃ er, takeAt [] k = (0, er) := ⟨_, takeAt_nil k⟩
    refine (take_zero g k er w h hf).mono ?_
    rintro e w' ⟨hv, hg, hr⟩
    simp only [hf]
    refine ⟨by simpa using hv, hg, ?_⟩
    by_cases h0 : er = 0
    · subst h0
      rw [stepS_ok]
      exact .inr (.inl ⟨rfl, rfl, rfl, hr⟩)
    · rw [stepS_bad _ _ _ _ h0]
      exact .inr (.inr ⟨by simp only; omega, rfl, hr⟩)
  · simp only at he hL h
    refine (take_dead g _ (p : Int) er k w h he).mono ?_
    rintro e w' ⟨rfl, hb⟩
    refine ⟨⟨_, rfl, by simp only [ne_eq, he, not_false_eq_true, if_true]; exact own_none _ _, ⟨none, 0, rfl⟩⟩, grown_any (below_grown hb) _, ?_⟩
    simp only
    rw [stepS_dead _ _ _ _ he]
    exact .inr (.inr ⟨he, hL, h.grown (below_grown hb) (by simp)⟩)
def txt (s : St) (k : Int) : ByteArray := if s.2.2 ≠ 0 then ⟨#[]⟩ else str (textAt s.1 k).2.2
theorem str_nil : str [] = ⟨#[]⟩ := rfl
theorem cz_text (g D : Nat) (s : St) (k : Int) (w : World) (h : Cz w g D s) : Calls Try.prog 54 #[.pointer (some ⟨g, 0, none⟩), .int .i64 k] w fun e w' => e = .returned (.string (txt s k)) ∧ w.grownBy w' (some g) ∧ Cz w' g D (stepS s.1 s.2.1 s.2.2 ((textAt s.1 k).1, (textAt s.1 k).2.1)) := by
  obtain ⟨L, p, er⟩ := s
  unfold txt
  rcases h with ⟨he, h⟩ | ⟨he, hL, hp, h⟩ | ⟨he, hL, h⟩
  · simp only at he h
    subst he
    refine (text_d g D p L k w h).mono ?_
    rintro e w' ⟨rfl, hg, hc⟩
    refine ⟨by simp, hg, ?_⟩
    simp only
    by_cases h0 : (textAt L k).2.1 = 0
    · rw [if_pos h0] at hc
      rw [h0, stepS_ok]
      exact .inl ⟨rfl, hc⟩
    · rw [if_neg h0] at hc
      rw [stepS_bad _ _ _ _ h0]
      exact .inr (.inr ⟨by simp only; omega, rfl, hc.1⟩)
  · simp only at he hL hp h
    subst he hL hp
    refine (text_zero g k w h).mono ?_
    rintro e w' ⟨rfl, hg, hr⟩
    simp only [textAt_nil]
    refine ⟨by simp [str_nil], hg, ?_⟩
    rw [stepS_bad _ _ _ _ (by decide)]
    exact .inr (.inr ⟨by simp, rfl, hr⟩)
  · simp only at he hL h
    refine (text_dead g _ (p : Int) er k w h he).mono ?_
    rintro e w' ⟨rfl, hb⟩
    refine ⟨by simp [he], grown_any (below_grown hb) _, ?_⟩
    simp only
    rw [stepS_dead _ _ _ _ he]
    exact .inr (.inr ⟨he, hL, h.grown (below_grown hb) (by simp)⟩)
theorem rz_text (g D : Nat) (s : St) (k : Int) (w : World) (h : Rz w g D s) : Calls Try.prog 55 #[.pointer (some ⟨g, 0, none⟩), .int .i64 k] w fun e w' => e = .returned (.string (txt s k)) ∧ w.grownBy w' (some g) ∧ Rz w' g D (stepS s.1 s.2.1 s.2.2 ((textAt s.1 k).1, (textAt s.1 k).2.1)) := by
  obtain ⟨L, p, er⟩ := s
  unfold txt
  rcases h with ⟨he, h⟩ | ⟨he, hL, h⟩
  · simp only at he h
    subst he
    simp only [ne_eq, not_true_eq_false, if_false]
    by_cases h0 : (atMost L k).2.2 = 0
    · have hA : atMost L k = ((atMost L k).1, (atMost L k).2.1, 0) := Prod.ext rfl (Prod.ext rfl h0)
      by_cases hs : L.length - (atMost L k).2.1 < (atMost L k).1
      · have ht : textAt L k = (0, 20, []) := by unfold textAt; rw [if_neg (by simpa using h0), if_pos hs]
        refine (rtext_short g D p L k w h _ _ hA hs).mono ?_
        rintro e w' ⟨rfl, hg, hr⟩
        rw [ht]
        simp only
        rw [stepS_bad _ _ _ _ (by decide)]
        exact ⟨by first | rfl | trivial, hg, .inr ⟨by simp, rfl, hr⟩⟩
      · have ht : textAt L k = ((atMost L k).2.1 + (atMost L k).1, 0, (L.drop (atMost L k).2.1).take (atMost L k).1) := by unfold textAt; rw [if_neg (by simpa using h0), if_neg hs]
        refine (rtext_ok g D p L k w h _ _ hA hs).mono ?_
        rintro e w' ⟨rfl, hg, hr⟩
        rw [ht]
        simp only
        rw [stepS_ok]
        exact ⟨by first | rfl | trivial, hg, .inl ⟨rfl, hr⟩⟩
    · have ht : textAt L k = (0, (atMost L k).2.2, []) := by unfold textAt; rw [if_pos h0]
      refine (rtext_num g D p L k w h _ rfl h0).mono ?_
      rintro e w' ⟨rfl, hg, hr⟩
      rw [ht]
      simp only
      rw [stepS_bad _ _ _ _ h0]
      exact ⟨by first | rfl | trivial, hg, .inr ⟨by simp only; omega, rfl, hr⟩⟩
  · simp only at he hL h
    obtain ⟨a, n, c, at', hr, h0⟩ := h
    refine (rtext_dead g _ at' er (p : Int) k w hr).mono ?_
    rintro e w' ⟨rfl, rfl⟩
    refine ⟨by simp [he], World.grownBy.refl _ _, ?_⟩
    simp only
    rw [stepS_dead _ _ _ _ he]
    exact .inr ⟨he, hL, a, n, c, at', hr, h0⟩
/-- How a cursor stands behind Fail. -/
def failS (s : St) (k : Int) : St := if s.2.2 ≠ 0 ∨ k = 0 then s else ([], s.2.1, k)
theorem Cz.rowE {w : World} {g D : Nat} {s : St} (h : Cz w g D s) : ∃ v, Row w g v (s.2.1 : Int) s.2.2 := by
  rcases h with ⟨he, a, c, hr, _⟩ | ⟨he, hL, hp, h⟩ | ⟨he, hL, h⟩
  · rw [he]; exact ⟨_, hr⟩
  · rw [he, hp]; exact ⟨_, h⟩
  · exact ⟨_, h⟩
theorem cz_fail (g D : Nat) (s : St) (k : Int) (w : World) (h : Cz w g D s) : Calls Try.prog 56 #[.pointer (some ⟨g, 0, none⟩), .int .i64 k] w fun e w' => e = .returned (.tuple #[]) ∧ w.grownBy w' (some g) ∧ Cz w' g D (failS s k) := by
  obtain ⟨v, hr⟩ := h.rowE
  unfold failS
  by_cases hk : s.2.2 ≠ 0 ∨ k = 0
  · refine (fail_none g v _ _ k w hr hk).mono ?_
    rintro e w' ⟨rfl, rfl⟩
    rw [if_pos hk]
    exact ⟨rfl, World.grownBy.refl _ _, h⟩
  · have h0 : s.2.2 = 0 := by omega
    have hk0 : k ≠ 0 := by omega
    rw [h0] at hr
    refine (fail_any g v _ k w hr hk0).mono ?_
    rintro e w' ⟨rfl, hr', hg⟩
    rw [if_neg hk]
    exact ⟨rfl, hg, .inr (.inr ⟨hk0, rfl, hr'⟩)⟩
theorem rz_fail (g D : Nat) (s : St) (k : Int) (w : World) (h : Rz w g D s) : Calls Try.prog 57 #[.pointer (some ⟨g, 0, none⟩), .int .i64 k] w fun e w' => e = .returned (.tuple #[]) ∧ w.grownBy w' (some g) ∧ Rz w' g D (failS s k) := by
  unfold failS
  by_cases hk : s.2.2 ≠ 0 ∨ k = 0
  · have hx : ∃ v at' f er wa, Row5 w g v at' f er wa ∧ (f = true ∨ k = 0) := by
      rcases h with ⟨he, a, n, c, bs, q1, _⟩ | ⟨_, _, a, n, c, at', q1, _⟩
      · exact ⟨_, _, _, _, _, q1, .inr (by omega)⟩
      · exact ⟨_, _, _, _, _, q1, .inl rfl⟩
    obtain ⟨v, at', f, er, wa, hr, hf⟩ := hx
    refine (rfail_none g v at' er wa k f w hr hf).mono ?_
    rintro e w' ⟨rfl, rfl⟩
    rw [if_pos hk]
    exact ⟨rfl, World.grownBy.refl _ _, h⟩
  · have hk0 : k ≠ 0 := by omega
    rcases h with ⟨he, a, n, c, bs, q1, _⟩ | ⟨he, _⟩
    · refine (rfail_any g _ _ k w q1 hk0).mono ?_
      rintro e w' ⟨rfl, hr', hg⟩
      rw [if_neg hk]
      exact ⟨rfl, hg, .inr ⟨hk0, rfl, _, _, _, _, hr', hk0⟩⟩
    · exact absurd (.inl he) hk
theorem cz_rest (g D : Nat) (s : St) (w : World) (h : Cz w g D s) : Calls Try.prog 11 #[.pointer (some ⟨g, 0, none⟩)] w fun e w' => e = .returned (.int .i64 (s.1.length : Nat)) ∧ Below w.heap.size w w' := by
  rcases h with ⟨he, h⟩ | ⟨he, hL, hp, h⟩ | ⟨he, hL, h⟩
  · exact (rest_any g _ _ w h.cur).mono fun e w' ⟨h1, h2⟩ => ⟨h1, h2 ▸ Below.refl _ _⟩
  · rw [hL]; exact (rest_none g _ _ w h).mono fun e w' ⟨h1, h2⟩ => ⟨h1, h2 ▸ Below.refl _ _⟩
  · rw [hL]; exact (rest_none g _ _ w h).mono fun e w' ⟨h1, h2⟩ => ⟨h1, h2 ▸ Below.refl _ _⟩
theorem rz_rest (g D : Nat) (s : St) (w : World) (h : Rz w g D s) : Calls Try.prog 12 #[.pointer (some ⟨g, 0, none⟩)] w fun e w' => e = .returned (.int .i64 (s.1.length : Nat)) ∧ Below w.heap.size w w' := by
  rcases h with ⟨he, a, n, c, bs, q1, q2, q3, q4, q5, q6⟩ | ⟨he, hL, a, n, c, at', q1, _⟩
  · exact rrest_any g s.2.1 n c s.1.length a w q1 (by rw [q5, List.length_drop, q2.1]; omega) q2.2.1
  · rw [hL]; exact (rrest_dead g _ _ _ _ w q1).mono fun e w' ⟨h1, h2⟩ => ⟨h1, h2 ▸ Below.refl _ _⟩
/-- What End tells. -/
def endS (s : St) : Array Value := if s.2.2 ≠ 0 then #[.int .i64 s.2.2, .int .i64 (s.2.1 : Int)] else if s.1.length = 0 then #[.int .i64 0, .int .i64 0] else #[.int .i64 22, .int .i64 (s.2.1 : Int)]
theorem endS_two (s : St) : ∃ a b, endS s = #[.int .i64 a, .int .i64 b] := by
  unfold endS; split
  · exact ⟨_, _, rfl⟩
  · split <;> exact ⟨_, _, rfl⟩
theorem cz_end (g D : Nat) (s : St) (w : World) (h : Cz w g D s) : Calls Try.prog 13 #[.pointer (some ⟨g, 0, none⟩)] w fun e w' => e = .returned (.agg (endS s)) ∧ Below w.heap.size w w' := by
  unfold endS
  rcases h with ⟨he, h⟩ | ⟨he, hL, hp, h⟩ | ⟨he, hL, h⟩
  · rw [if_neg (by simpa using he)]
    exact end_any g _ _ w h.cur
  · rw [if_neg (by simpa using he), if_pos (by rw [hL]; rfl)]
    exact end_none g 0 0 w h (fun _ => rfl)
  · rw [if_pos he]
    exact end_none g _ _ w h (fun e => absurd e he)
theorem rz_end (g D : Nat) (s : St) (w : World) (h : Rz w g D s) : Calls Try.prog 14 #[.pointer (some ⟨g, 0, none⟩)] w fun e w' => e = .returned (.agg (endS s)) ∧ Below w.heap.size w w' := by
  unfold endS
  rcases h with ⟨he, a, n, c, bs, q1, q2, q3, q4, q5, q6⟩ | ⟨he, hL, a, n, c, at', q1, _⟩
  · rw [if_neg (by simpa using he)]
    refine (rend_any g s.2.1 n c a w q1 q4).mono ?_
    rintro e w' ⟨rfl, hb⟩
    refine ⟨?_, hb⟩
    have hl : s.1.length = n - s.2.1 := by rw [q5, List.length_drop, q2.1]
    by_cases hn : n = s.2.1
    · rw [if_pos hn, if_pos (by omega)]
    · rw [if_neg hn, if_neg (by omega)]
  · rw [if_pos he]
    exact rend_dead g _ _ _ _ w q1
theorem Cz.lt {w : World} {g D : Nat} {s : St} (h : Cz w g D s) : g < w.heap.size := by
  obtain ⟨v, hr⟩ := h.rowE
  exact hr.lt
theorem Cz.keep {w w' : World} {g D : Nat} {s : St} {r : Option Nat} (h : Cz w g D s) (hg : w.grownBy w' r) (h1 : r ≠ some g) (h2 : ∀ i, r = some i → i < D → False) : Cz w' g D s := by
  rcases h with ⟨he, a, c, q1, q2, q3, q4, q5, q6, q7, q8, q9⟩ | ⟨he, hL, hp, h⟩ | ⟨he, hL, h⟩
  · exact .inl ⟨he, a, c, q1.grown hg h1, q2.grown hg (fun ad e e2 => by cases e; exact h2 _ e2 q7), q3, q4, q5, q6, q7, Nat.le_trans q8 hg.size, q9⟩
  · exact .inr (.inl ⟨he, hL, hp, h.grown hg h1⟩)
  · exact .inr (.inr ⟨he, hL, h.grown hg h1⟩)
theorem Rz.keep {w w' : World} {g D : Nat} {s : St} {r : Option Nat} (h : Rz w g D s) (hg : w.grownBy w' r) (h1 : r ≠ some g) (h2 : ∀ i, r = some i → i < D → False) : Rz w' g D s := by
  rcases h with ⟨he, a, n, c, bs, q1, q2, q3, q4, q5, q6⟩ | ⟨he, hL, a, n, c, at', q1, q2⟩
  · exact .inl ⟨he, a, n, c, bs, q1.grown hg h1, q2.grown hg (fun ad e e2 => h2 _ e2 (q6 ad e).2.1), q3, q4, q5, fun ad e => ⟨(q6 ad e).1, (q6 ad e).2.1, Nat.le_trans (q6 ad e).2.2 hg.size⟩⟩
  · exact .inr ⟨he, hL, a, n, c, at', q1.grown hg h1, q2⟩
theorem Cz.below {w w' : World} {g D : Nat} {s : St} (h : Cz w g D s) (hb : Below w.heap.size w w') : Cz w' g D s := h.keep (r := none) (below_grown hb) (by simp) (fun i e => by cases e)
theorem Rz.lt {w : World} {g D : Nat} {s : St} (h : Rz w g D s) : g < w.heap.size := by
  obtain ⟨v, at', f, er, wa, hr⟩ := h.row
  exact hr.lt
end Go.Proofs.Ytcchknpgkcmneaa.Curs
