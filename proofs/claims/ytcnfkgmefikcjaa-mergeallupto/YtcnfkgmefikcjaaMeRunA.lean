/-
  What a merge tells, and how often each source is asked.
-/
import Derived.Test.YtcnfkgmefikcjaaMeHead
import Derived.Test.YtcnfkgmefikcjaaMeAsked
namespace Go.Proofs.Ytcnfkgmefikcjaa.Me
open Go.ChangeShapes Go.WideShapes Go.ChangeAt Go.RowKit
open Go.Proofs.Ytcnfkgmefikcjaa.Base
set_option linter.unusedVariables false
/-- What is told from these places on, the error at the end, how often each source has been asked then. -/
def RunA (B : Nat → Fd) (n : Nat) : (Nat → Nat) → List Th → Int → (Nat → Nat) → Prop
  | pos, [], e, A => e = 0 ∧ (∀ j, j < n → pos j = (B j).ts.length) ∧ ∀ j, j < n → A j = pos j + 1
  | pos, t :: L, e, A => ∃ v, Best B n pos v ∧ t = (B v).ts.getD (pos v) th0 ∧ ((codP B pos v ≠ 0 ∧ L = [] ∧ e = codP B pos v ∧ ∀ j, j < n → A j = upP pos v j + 1) ∨ (codP B pos v = 0 ∧ RunA B n (upP pos v) L e A))
theorem RunA.uniq {B : Nat → Fd} {n : Nat} : ∀ (L L' : List Th) (pos : Nat → Nat) (e e' : Int) (A A' : Nat → Nat), RunA B n pos L e A → RunA B n pos L' e' A' → L = L' ∧ e = e' ∧ ∀ j, j < n → A j = A' j
  | [], [], pos, e, e', A, A', h, k => ⟨rfl, h.1.trans k.1.symm, fun j hj => (h.2.2 j hj).trans (k.2.2 j hj).symm⟩
  | [], t :: L', pos, e, e', A, A', h, k => by
    obtain ⟨v, hb, _⟩ := k
    have := h.2.1 v hb.1; have := hb.2.1; omega
  | t :: L, [], pos, e, e', A, A', h, k => by
    obtain ⟨v, hb, _⟩ := h
    have := k.2.1 v hb.1; have := hb.2.1; omega
  | t :: L, t' :: L', pos, e, e', A, A', h, k => by
    obtain ⟨v, hb, ht, h⟩ := h
    obtain ⟨u, hb', ht', k⟩ := k
    obtain rfl := hb.uniq hb'
    rcases h with ⟨h1, rfl, rfl, h2⟩ | ⟨h1, h2⟩
    · rcases k with ⟨k1, rfl, rfl, k2⟩ | ⟨k1, _⟩
      · exact ⟨by rw [ht, ht'], rfl, fun j hj => (h2 j hj).trans (k2 j hj).symm⟩
      · exact absurd k1 h1
    · rcases k with ⟨k1, _⟩ | ⟨k1, k2⟩
      · exact absurd h1 k1
      · obtain ⟨q1, q2, q3⟩ := RunA.uniq L L' _ e e' A A' h2 k2
        exact ⟨by rw [ht, ht', q1], q2, q3⟩
/-- All that a merge of these tells. -/
def RunsA (B : Nat → Fd) (n : Nat) (L : List Th) (e : Int) (A : Nat → Nat) : Prop := (∃ m, m < n ∧ (B m).ts.length = 0 ∧ (B m).fin ≠ 0 ∧ (∀ j, j < m → okF B j) ∧ L = [] ∧ e = (B m).fin ∧ ∀ j, j < n → A j = if j ≤ m then 1 else 0) ∨ ((∀ j, j < n → okF B j) ∧ RunA B n pos0 L e A)
theorem RunsA.uniq {B : Nat → Fd} {n : Nat} {L L' : List Th} {e e' : Int} {A A' : Nat → Nat} (h : RunsA B n L e A) (k : RunsA B n L' e' A') : L = L' ∧ e = e' ∧ ∀ j, j < n → A j = A' j := by
  have bad : ∀ m, (B m).ts.length = 0 → (B m).fin ≠ 0 → ¬ okF B m := fun m h1 h2 q => by
    rcases q with q | q
    · omega
    · exact h2 q
  rcases h with ⟨m, h1, h2, h3, h4, rfl, rfl, h5⟩ | ⟨hok, h⟩
  · rcases k with ⟨m', k1, k2, k3, k4, rfl, rfl, k5⟩ | ⟨kok, _⟩
    · have e : m = m' := by
        rcases Nat.lt_trichotomy m m' with q | q | q
        · exact absurd (k4 m q) (bad m h2 h3)
        · exact q
        · exact absurd (h4 m' q) (bad m' k2 k3)
      subst e
      exact ⟨rfl, rfl, fun j hj => (h5 j hj).trans (k5 j hj).symm⟩
    · exact absurd (kok m h1) (bad m h2 h3)
  · rcases k with ⟨m', k1, k2, k3, _⟩ | ⟨_, k⟩
    · exact absurd (hok m' k1) (bad m' k2 k3)
    · exact RunA.uniq L L' pos0 e e' A A' h k
/-- What is told behind the thing of source v. -/
def RestA (B : Nat → Fd) (n : Nat) (pos : Nat → Nat) (v : Nat) (L : List Th) (e : Int) (A : Nat → Nat) : Prop := (codP B pos v ≠ 0 ∧ L = [] ∧ e = codP B pos v ∧ ∀ j, j < n → A j = upP pos v j + 1) ∨ (codP B pos v = 0 ∧ RunA B n (upP pos v) L e A)
theorem RestA.run {B : Nat → Fd} {n : Nat} {pos : Nat → Nat} {v : Nat} {L : List Th} {e : Int} {A : Nat → Nat} (h : RestA B n pos v L e A) (hb : Best B n pos v) : RunA B n pos ((B v).ts.getD (pos v) th0 :: L) e A := ⟨v, hb, rfl, h⟩
/-- The state of a merge: not begun, or standing at v with these things told. -/
def AtA (w : World) (gm gs n : Nat) (gf : Nat → Nat) (B : Nat → Fd) (P : List Th) : Prop :=
  (P = [] ∧ Newly w gm gs n gf B) ∨ (∃ pos v, Live w gm gs n gf B pos v ∧ Best B n pos v ∧ P.length = sumN pos n + 1 ∧ ∀ L e A, RestA B n pos v L e A → RunsA B n (P ++ L) e A)
theorem AtA.apart {w w' : World} {gm gs n : Nat} {gf : Nat → Nat} {B : Nat → Fd} {P : List Th} {S : Nat → Prop} (h : AtA w gm gs n gf B P) (t : Tn w w' S) (h1 : ∀ j, All n gm gs gf j → ¬ S j) (h2 : ∀ j, j < n → ∀ b off, (B j).a = some ⟨b, off, none⟩ → 0 < (B j).ts.length → ¬ S b) : AtA w' gm gs n gf B P := by
  rcases h with ⟨e, h⟩ | ⟨pos, v, h, q1, q2, q3⟩
  · exact .inl ⟨e, h.apart t h1 h2⟩
  · exact .inr ⟨pos, v, h.apart t h1 h2, q1, q2, q3⟩
theorem AtA.len {w : World} {gm gs n : Nat} {gf : Nat → Nat} {B : Nat → Fd} {P : List Th} (h : AtA w gm gs n gf B P) : P.length ≤ sumN (lens B) n := by
  rcases h with ⟨rfl, _⟩ | ⟨pos, v, h, q1, q2, _⟩
  · exact Nat.zero_le _
  · rw [q2]; exact sum_live q1.1 h.pv h.le
/-- The merge is over: how often each source was asked, and none behind its end. -/
def EndA (w : World) (gm n : Nat) (gf : Nat → Nat) (x : Int) (A : Nat → Nat) : Prop := OV w gm x ∧ ∃ fd : Nat → Fd, (∀ j, j < n → FB w (gf j) (fd j)) ∧ ∀ j, j < n → (fd j).asks = A j ∧ (fd j).bad = false
theorem next_bad (f : Fd) (h1 : f.bad = false) (h2 : f.over = false) : f.next.bad = false := by unfold Fd.next; split <;> simp [h1, h2]
/-- One Next. -/
theorem next_atA (gm gs n : Nat) (gf : Nat → Nat) (B : Nat → Fd) (P : List Th) (w : World) (h : AtA w gm gs n gf B P) (hl : ∀ j, j < n → (B j).ts.length + 2 ≤ 4611686018427387904) :
    Calls Try.prog 7 #[.pointer (some ⟨gm, 0, none⟩)] w fun e w' => Tn w w' (All n gm gs gf) ∧ ((∃ (x : Int) (A : Nat → Nat), e = .returned (.tuple #[th0.val, .bool false, .int .i64 x]) ∧ RunsA B n P x A ∧ EndA w' gm n gf x A) ∨ (∃ t : Th, e = .returned (.tuple #[t.val, .bool true, .int .i64 0]) ∧ AtA w' gm gs n gf B (P ++ [t]))) := by
  rcases h with ⟨rfl, h⟩ | ⟨pos, v, h, hb, hlen, hr⟩
  · have hfr := h.fr
    refine (next_first gm gs n gf B w h).mono ?_
    rintro e w' (⟨m, h1, h2, h3, h4, rfl, h5, h6, h7⟩ | ⟨hok, ht, hs, ⟨hc, _⟩ | ⟨_, ⟨v, hb, rfl, hlv⟩ | ⟨hend, rfl, hov⟩⟩⟩)
    · refine ⟨h7, .inl ⟨_, fun j => if j ≤ m then 1 else 0, rfl, .inl ⟨m, h1, h2, h3, h4, rfl, rfl, fun j hj => rfl⟩, h5, _, h6.fb, fun j hj => ?_⟩⟩
      obtain ⟨f1, f2, f3, f4⟩ := hfr j hj
      unfold nexts
      show (if j < m + 1 then (B j).next else B j).asks = (if j ≤ m then 1 else 0) ∧ (if j < m + 1 then (B j).next else B j).bad = false
      by_cases q : j < m + 1
      · rw [if_pos q, if_pos (by omega), next_asks, f2]; exact ⟨rfl, next_bad _ f4 f3⟩
      · rw [if_neg q, if_neg (by omega)]; exact ⟨f2, f4⟩
    · exact absurd rfl hc
    · refine ⟨ht, .inr ⟨_, rfl, .inr ⟨pos0, v, hlv, hb, ?_, fun L e A hre => .inr ⟨hok, hre.run hb⟩⟩⟩⟩
      rw [sum_zero]
      rfl
    · exact ⟨ht, .inl ⟨0, fun j => pos0 j + 1, rfl, .inr ⟨hok, rfl, hend, fun j hj => rfl⟩, hov, _, hs.fb, fun j hj => ⟨rfl, rfl⟩⟩⟩
  · have hp := h.pv
    have hl2 := hl v hb.1
    refine (next_live gm gs n gf B pos v w h (by omega)).mono ?_
    rintro e w' ⟨ht, hs, ⟨hc, rfl, hov⟩ | ⟨hc, ⟨v', hb', rfl, hlv⟩ | ⟨hend, rfl, hov⟩⟩⟩
    · refine ⟨ht, .inl ⟨_, fun j => upP pos v j + 1, rfl, ?_, hov, _, hs.fb, fun j hj => ⟨rfl, rfl⟩⟩⟩
      have q := hr [] (codP B pos v) (fun j => upP pos v j + 1) (.inl ⟨hc, rfl, rfl, fun j hj => rfl⟩)
      rw [List.append_nil] at q
      exact q
    · refine ⟨ht, .inr ⟨_, rfl, .inr ⟨upP pos v, v', hlv, hb', ?_, fun L e A hre => ?_⟩⟩⟩
      · rw [List.length_append, List.length_singleton, hlen, sum_up pos v n hb.1]
      · rw [List.append_assoc]
        exact hr _ e A (.inr ⟨hc, hre.run hb'⟩)
    · refine ⟨ht, .inl ⟨0, fun j => upP pos v j + 1, rfl, ?_, hov, _, hs.fb, fun j hj => ⟨rfl, rfl⟩⟩⟩
      have q := hr [] 0 (fun j => upP pos v j + 1) (.inr ⟨hc, rfl, hend, fun j hj => rfl⟩)
      rw [List.append_nil] at q
      exact q
theorem sum_one (pos : Nat → Nat) (n : Nat) : sumN (fun j => pos j + 1) n = sumN pos n + n := by
  induction n with
  | zero => rfl
  | succ n ih => unfold sumN; rw [ih]; omega
/-- How often all have been asked. -/
theorem AtA.asked {w : World} {gm gs n : Nat} {gf : Nat → Nat} {B : Nat → Fd} {P : List Th} (h : AtA w gm gs n gf B P) : ∃ fd : Nat → Fd, (∀ j, j < n → FB w (gf j) (fd j)) ∧ ((P = [] ∧ sumN (asksOf fd) n = 0) ∨ (0 < P.length ∧ sumN (asksOf fd) n + 1 = n + P.length)) := by
  rcases h with ⟨rfl, h⟩ | ⟨pos, v, h, q1, q2, _⟩
  · refine ⟨B, h.fs.fb, .inl ⟨rfl, ?_⟩⟩
    rw [← sum_zero n]
    exact sum_eq (fun j hj => (h.fr j hj).2.1)
  · refine ⟨fdP B pos, h.fs.fb, .inr ⟨by omega, ?_⟩⟩
    have e : sumN (asksOf (fdP B pos)) n = sumN (fun j => pos j + 1) n := sum_eq (fun j hj => rfl)
    rw [e, sum_one]
    omega
theorem AtA.err {w : World} {gm gs n : Nat} {gf : Nat → Nat} {B : Nat → Fd} {P : List Th} (h : AtA w gm gs n gf B P) : Calls Try.prog 9 #[.pointer (some ⟨gm, 0, none⟩)] w fun e w' => e = .returned (.int .i64 0) ∧ w' = w := by
  rcases h with ⟨_, h⟩ | ⟨pos, v, h, _⟩
  · obtain ⟨pl, hm⟩ := h.ms
    exact err_live gm gs n pl _ _ 0 _ w hm
  · obtain ⟨pl, hm, _⟩ := h.ms
    exact err_live gm gs n pl _ _ 0 _ w hm
end Go.Proofs.Ytcnfkgmefikcjaa.Me
