/-
  Records in order: insertion behind all that are not greater, merging, and what they have in common.
-/
import Derived.Test.YtlbplicafcoifaaSoCmp
namespace Go.Proofs.Ytlbplicafcoifaa.So
open Go.Proofs.Ytlbplicafcoifaa.Nums
set_option linter.unusedVariables false
theorem sgn_swap (a b : Int) : sgn b a = - sgn a b := by
  unfold sgn
  by_cases h1 : a < b
  · rw [if_neg (by omega), if_pos h1, if_pos h1]; rfl
  · by_cases h2 : b < a
    · rw [if_pos h2, if_neg h1, if_pos h2]
    · rw [if_neg h2, if_neg h1, if_neg h1, if_neg h2]; rfl
theorem cmpR_swap (a b : Rec) : cmpR b a = - cmpR a b := by
  unfold cmpR
  by_cases h : a.p = b.p
  · rw [if_pos h, if_pos h.symm]; exact order_swap _ _
  · rw [if_neg h, if_neg (fun e => h e.symm)]; exact sgn_swap _ _
theorem sgn_le (a b : Int) : sgn a b ≤ 0 ↔ a ≤ b := by
  unfold sgn
  by_cases h1 : a < b
  · rw [if_pos h1]; omega
  · rw [if_neg h1]
    by_cases h2 : b < a
    · rw [if_pos h2]; omega
    · rw [if_neg h2]; omega
theorem cmpR_trans (a b c : Rec) (h1 : cmpR a b ≤ 0) (h2 : cmpR b c ≤ 0) : cmpR a c ≤ 0 := by
  unfold cmpR at h1 h2 ⊢
  by_cases e1 : a.p = b.p
  · rw [if_pos e1] at h1
    by_cases e2 : b.p = c.p
    · rw [if_pos e2] at h2
      rw [if_pos (e1.trans e2)]
      exact (order_trans _ _ _).1 h1 h2
    · rw [if_neg e2] at h2
      rw [if_neg (by omega), e1]
      exact h2
  · rw [if_neg e1] at h1
    by_cases e2 : b.p = c.p
    · rw [if_neg (by omega), ← e2]; exact h1
    · rw [if_neg e2] at h2
      have h3 := (sgn_le _ _).1 h1
      have h4 := (sgn_le _ _).1 h2
      rw [if_neg (by omega)]
      exact (sgn_le _ _).2 (by omega)
/-- Not greater. -/
def le (a b : Rec) : Bool := decide (cmpR a b ≤ 0)
theorem le_iff (a b : Rec) : le a b = true ↔ cmpR a b ≤ 0 := by unfold le; exact decide_eq_true_iff
theorem le_not (a b : Rec) : le a b = false ↔ 0 < cmpR a b := by unfold le; rw [decide_eq_false_iff_not]; omega
theorem le_refl (a : Rec) : le a a = true := by rw [le_iff]; have := cmpR_swap a a; omega
theorem le_trans {a b c : Rec} (h1 : le a b = true) (h2 : le b c = true) : le a c = true := (le_iff _ _).2 (cmpR_trans a b c ((le_iff _ _).1 h1) ((le_iff _ _).1 h2))
theorem le_total {a b : Rec} (h : le a b = false) : le b a = true := by
  have h1 := (le_not _ _).1 h
  have := cmpR_swap a b
  exact (le_iff _ _).2 (by omega)
theorem gt_trans {a b c : Rec} (h1 : le a b = false) (h2 : le b c = false) : le a c = false := by
  cases h : le a c with
  | false => rfl
  | true => rw [le_trans (le_total h1) h] at h2; cases h2
/-- Behind all that are not greater. -/
def ins (x : Rec) : List Rec → List Rec
  | [] => [x]
  | y :: ys => if le y x then y :: ins x ys else x :: y :: ys
def isort (l : List Rec) : List Rec := l.foldl (fun o x => ins x o) []
def Srt (l : List Rec) : Prop := l.Pairwise (fun a b => le a b = true)
theorem length_ins (x : Rec) (l : List Rec) : (ins x l).length = l.length + 1 := by
  induction l with
  | nil => rfl
  | cons y ys ih => unfold ins; split <;> simp [ih]
theorem length_foldl (l : List Rec) : ∀ o : List Rec, (l.foldl (fun o x => ins x o) o).length = o.length + l.length := by
  induction l with
  | nil => intro o; simp
  | cons x xs ih => intro o; rw [List.foldl_cons, ih, length_ins, List.length_cons]; omega
theorem length_isort (l : List Rec) : (isort l).length = l.length := by unfold isort; rw [length_foldl]; simp
theorem mem_ins (x z : Rec) (l : List Rec) : z ∈ ins x l ↔ z = x ∨ z ∈ l := by
  induction l with
  | nil => simp [ins]
  | cons y ys ih =>
    unfold ins
    split
    · simp only [List.mem_cons, ih]
      constructor
      · rintro (h | h | h)
        · exact .inr (.inl h)
        · exact .inl h
        · exact .inr (.inr h)
      · rintro (h | h | h)
        · exact .inr (.inl h)
        · exact .inl h
        · exact .inr (.inr h)
    · simp only [List.mem_cons]
theorem srt_ins (x : Rec) (l : List Rec) (h : Srt l) : Srt (ins x l) := by
  induction l with
  | nil => unfold Srt ins; simp
  | cons y ys ih =>
    obtain ⟨h1, h2⟩ := List.pairwise_cons.1 h
    unfold ins
    split
    · rename_i hy
      refine List.pairwise_cons.2 ⟨fun z hz => ?_, ih h2⟩
      rcases (mem_ins _ _ _).1 hz with rfl | hz
      · exact hy
      · exact h1 z hz
    · rename_i hy
      have hy' : le x y = true := le_total (by simpa using hy)
      refine List.pairwise_cons.2 ⟨fun z hz => ?_, h⟩
      rcases List.mem_cons.1 hz with rfl | hz
      · exact hy'
      · exact le_trans hy' (h1 z hz)
theorem srt_foldl (l : List Rec) : ∀ o : List Rec, Srt o → Srt (l.foldl (fun o x => ins x o) o) := by
  induction l with
  | nil => intro o h; exact h
  | cons x xs ih => intro o h; exact ih _ (srt_ins x o h)
theorem srt_isort (l : List Rec) : Srt (isort l) := srt_foldl l [] List.Pairwise.nil
/-- Where the things behind are greater and those ahead are not. -/
theorem ins_at (x : Rec) (a b : List Rec) (ha : ∀ y ∈ a, le y x = true) (hb : ∀ y, b.head? = some y → le y x = false) : ins x (a ++ b) = a ++ x :: b := by
  induction a with
  | nil =>
    cases b with
    | nil => rfl
    | cons y ys => rw [List.nil_append, List.nil_append]; unfold ins; rw [if_neg (by rw [hb y rfl]; simp)]
  | cons y ys ih =>
    rw [List.cons_append]
    unfold ins
    rw [if_pos (ha y (List.mem_cons_self ..)), ih (fun z hz => ha z (List.mem_cons_of_mem _ hz))]
    rfl
theorem isort_snoc (l : List Rec) (x : Rec) : isort (l ++ [x]) = ins x (isort l) := by
  unfold isort; rw [List.foldl_append]; rfl
/-- What is sorted stays. -/
theorem isort_srt (l : List Rec) (h : Srt l) : isort l = l := by
  have key : ∀ (m o : List Rec), Srt (o ++ m) → m.foldl (fun o x => ins x o) o = o ++ m := by
    intro m
    induction m with
    | nil => intro o _; simp
    | cons x xs ih =>
      intro o h
      have e : ins x o = o ++ [x] := by
        have := ins_at x o [] (fun y hy => (List.pairwise_append.1 h).2.2 y hy x (List.mem_cons_self ..)) (by simp)
        simpa using this
      rw [List.foldl_cons, e, ih _ (by rw [List.append_assoc]; exact h), List.append_assoc]
      rfl
  have := key l [] h
  rw [List.nil_append] at this
  exact this
/-- The left one's of alike ones first. -/
def mrg (a b : List Rec) : List Rec := a.merge b le
theorem mrg_nil (a : List Rec) : mrg a [] = a := by unfold mrg; simp
theorem nil_mrg (b : List Rec) : mrg [] b = b := by unfold mrg; simp
theorem mrg_cons (x y : Rec) (a b : List Rec) : mrg (x :: a) (y :: b) = if le x y then x :: mrg a (y :: b) else y :: mrg (x :: a) b := by
  unfold mrg; rw [List.cons_merge_cons]
theorem mrg_ins (z : Rec) : ∀ (a b : List Rec), mrg a (ins z b) = ins z (mrg a b) := by
  intro a
  induction a with
  | nil => intro b; rw [nil_mrg, nil_mrg]
  | cons x a iha =>
    intro b
    induction b with
    | nil =>
      have h := iha []
      rw [mrg_nil] at h ⊢
      show mrg (x :: a) [z] = ins z (x :: a)
      rw [mrg_cons]
      have h' : mrg a [z] = ins z a := h
      rw [h', mrg_nil]
      rfl
    | cons y b ihb =>
      cases hxy : le x y with
      | true =>
        have e1 : mrg (x :: a) (y :: b) = x :: mrg a (y :: b) := by rw [mrg_cons, if_pos hxy]
        rw [e1]
        cases hyz : le y z with
        | true =>
          have hxz := le_trans hxy hyz
          have e2 : ins z (y :: b) = y :: ins z b := by rw [ins, if_pos hyz]
          rw [e2, mrg_cons, if_pos hxy, ← e2, iha, ins, if_pos hxz]
        | false =>
          have e2 : ins z (y :: b) = z :: y :: b := by rw [ins, if_neg (by rw [hyz]; simp)]
          rw [e2, mrg_cons]
          cases hxz : le x z with
          | true => rw [if_pos rfl, ← e2, iha, ins, if_pos hxz]
          | false => rw [if_neg (by simp), e1, ins, if_neg (by rw [hxz]; simp)]
      | false =>
        have e1 : mrg (x :: a) (y :: b) = y :: mrg (x :: a) b := by rw [mrg_cons, if_neg (by rw [hxy]; simp)]
        rw [e1]
        cases hyz : le y z with
        | true =>
          have e2 : ins z (y :: b) = y :: ins z b := by rw [ins, if_pos hyz]
          rw [e2, mrg_cons, if_neg (by rw [hxy]; simp), ihb, ins, if_pos hyz]
        | false =>
          have hxz := gt_trans hxy hyz
          have e2 : ins z (y :: b) = z :: y :: b := by rw [ins, if_neg (by rw [hyz]; simp)]
          rw [e2, mrg_cons, if_neg (by rw [hxz]; simp), e1, ins, if_neg (by rw [hyz]; simp)]
theorem mrg_foldl (a : List Rec) (l : List Rec) : ∀ b, mrg a (l.foldl (fun o x => ins x o) b) = l.foldl (fun o x => ins x o) (mrg a b) := by
  induction l with
  | nil => intro b; rfl
  | cons x xs ih => intro b; rw [List.foldl_cons, List.foldl_cons, ih, mrg_ins]
/-- Two lists, one behind the other. -/
theorem mrg_isort (a b : List Rec) : mrg (isort a) (isort b) = isort (a ++ b) := by
  unfold isort
  rw [mrg_foldl, mrg_nil, List.foldl_append]
theorem length_mrg (a b : List Rec) : (mrg a b).length = a.length + b.length := by
  unfold mrg; exact List.length_merge ..
end Go.Proofs.Ytlbplicafcoifaa.So
