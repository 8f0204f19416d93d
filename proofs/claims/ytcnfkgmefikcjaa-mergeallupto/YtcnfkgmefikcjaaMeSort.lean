/-
  Of sorted sources without errors a merge tells all things, sorted stably.
-/
import Derived.Test.YtcnfkgmefikcjaaMeRun
namespace Go.Proofs.Ytcnfkgmefikcjaa.Me
open Go.Proofs.Ytcnfkgmefikcjaa.Base
set_option linter.unusedVariables false
def thAt (B : Nat → Fd) (j i : Nat) : Th := (B j).ts.getD i th0
/-- Sorted sources without errors, each thing with a name of its own, source by source. -/
structure Tidy (B : Nat → Fd) (n : Nat) : Prop where
  fin : ∀ j, j < n → (B j).fin = 0
  srt : ∀ j, j < n → ∀ i k, i ≤ k → k < (B j).ts.length → (thAt B j i).key ≤ (thAt B j k).key
  nm : ∀ j i, j < n → i < (B j).ts.length → (thAt B j i).name = ((sumN (lens B) j + i : Nat) : Int)
/-- A thing that is still to come. -/
def Left (B : Nat → Fd) (n : Nat) (pos : Nat → Nat) (t : Th) : Prop := ∃ j i, j < n ∧ pos j ≤ i ∧ i < (B j).ts.length ∧ t = thAt B j i
/-- Ahead of, by key and then by name. -/
def lt1 (t u : Th) : Prop := t.key < u.key ∨ (t.key = u.key ∧ t.name < u.name)
theorem Tidy.cod {B : Nat → Fd} {n : Nat} (h : Tidy B n) {pos : Nat → Nat} {v : Nat} (hv : v < n) (hp : pos v < (B v).ts.length) : codP B pos v = 0 := by
  unfold codP
  by_cases q : pos v + 1 < (B v).ts.length
  · rw [if_pos q]
    have := h.srt v hv (pos v) (pos v + 1) (by omega) q
    unfold thAt at this
    unfold keyP
    rw [if_neg (by omega)]
  · rw [if_neg q]; exact h.fin v hv
theorem sum_off (B : Nat → Fd) {j k : Nat} (h : j < k) : sumN (lens B) j + (B j).ts.length ≤ sumN (lens B) k := by
  have h1 : sumN (lens B) (j + 1) ≤ sumN (lens B) k := by
    induction k with
    | zero => omega
    | succ k ih =>
      by_cases e : j = k
      · subst e; exact Nat.le_refl _
      · exact Nat.le_trans (ih (by omega)) (Nat.le_add_right _ _)
  exact h1
/-- What comes first comes ahead of all that is left. -/
theorem Tidy.first {B : Nat → Fd} {n : Nat} (h : Tidy B n) {pos : Nat → Nat} {v : Nat} (hb : Best B n pos v) (t : Th) (ht : Left B n (upP pos v) t) : lt1 (thAt B v (pos v)) t := by
  obtain ⟨j, i, hj, hi, hl, rfl⟩ := ht
  have hpj : pos j ≤ i := by unfold upP at hi; split at hi <;> omega
  have hb2 := hb.2.2 j hj (by omega)
  have hs := h.srt j hj (pos j) i hpj hl
  have n1 := h.nm v (pos v) hb.1 hb.2.1
  have n2 := h.nm j i hj hl
  unfold keyP at hb2
  have e1 : (thAt B v (pos v)).key = ((B v).ts.getD (pos v) th0).key := rfl
  have e2 : (thAt B j (pos j)).key = ((B j).ts.getD (pos j) th0).key := rfl
  rw [← e1, ← e2] at hb2
  unfold lt1
  rcases hb2 with q | ⟨q, hvj⟩
  · exact .inl (by omega)
  · by_cases e : (thAt B v (pos v)).key = (thAt B j i).key
    · refine .inr ⟨e, ?_⟩
      rw [n1, n2]
      by_cases hvj2 : v = j
      · subst hvj2
        have hi2 : pos v + 1 ≤ i := by unfold upP at hi; rw [if_pos rfl] at hi; exact hi
        omega
      · have h3 := sum_off B (j := v) (k := j) (by omega)
        have h4 := hb.2.1
        omega
    · exact .inl (by omega)
theorem left_up {B : Nat → Fd} {n : Nat} {pos : Nat → Nat} {v : Nat} (hb : Best B n pos v) (t : Th) : Left B n pos t ↔ t = thAt B v (pos v) ∨ Left B n (upP pos v) t := by
  constructor
  · rintro ⟨j, i, hj, hi, hl, rfl⟩
    by_cases e : j = v
    · subst e
      by_cases e2 : i = pos j
      · subst e2; exact .inl rfl
      · exact .inr ⟨j, i, hj, by unfold upP; rw [if_pos rfl]; omega, hl, rfl⟩
    · exact .inr ⟨j, i, hj, by unfold upP; rw [if_neg e]; exact hi, hl, rfl⟩
  · rintro (rfl | ⟨j, i, hj, hi, hl, rfl⟩)
    · exact ⟨v, pos v, hb.1, Nat.le_refl _, hb.2.1, rfl⟩
    · exact ⟨j, i, hj, by unfold upP at hi; split at hi <;> omega, hl, rfl⟩
theorem Run.tidy {B : Nat → Fd} {n : Nat} (h : Tidy B n) {pos : Nat → Nat} {L : List Th} {e : Int} (r : Run B n pos L e) : e = 0 ∧ L.Pairwise lt1 ∧ (∀ t, t ∈ L ↔ Left B n pos t) ∧ L.length + sumN pos n = sumN (lens B) n := by
  induction r using Run.ind with
  | stop pos hs =>
    refine ⟨rfl, List.Pairwise.nil, fun t => ⟨(fun ht => by cases ht), (fun ⟨j, i, hj, hi, hl, _⟩ => by have := hs j hj; omega)⟩, ?_⟩
    rw [List.length_nil, Nat.zero_add]
    exact sum_eq (fun j hj => hs j hj)
  | err pos v hb hc => exact absurd (h.cod hb.1 hb.2.1) hc
  | more pos v L e hb hc _ ih =>
    obtain ⟨h1, h2, h3, h4⟩ := ih
    refine ⟨h1, List.Pairwise.cons (fun t ht => h.first hb t ((h3 t).1 ht)) h2, fun t => ?_, ?_⟩
    · rw [List.mem_cons, h3 t, left_up hb t]
      rfl
    · rw [sum_up pos v n hb.1] at h4
      rw [List.length_cons]
      omega
theorem Tidy.ok {B : Nat → Fd} {n : Nat} (h : Tidy B n) : ∀ j, j < n → okF B j := fun j hj => .inr (h.fin j hj)
/-- All of it. -/
theorem Runs.tidy {B : Nat → Fd} {n : Nat} (h : Tidy B n) {L : List Th} {e : Int} (r : Runs B n L e) : e = 0 ∧ L.Pairwise lt1 ∧ (∀ t, t ∈ L ↔ Left B n pos0 t) ∧ L.length = sumN (lens B) n := by
  rcases r with ⟨m, hm, _, hf, _⟩ | ⟨_, r⟩
  · exact absurd (h.fin m hm) hf
  · obtain ⟨h1, h2, h3, h4⟩ := r.tidy h
    rw [sum_zero] at h4
    exact ⟨h1, h2, h3, h4⟩
end Go.Proofs.Ytcnfkgmefikcjaa.Me
