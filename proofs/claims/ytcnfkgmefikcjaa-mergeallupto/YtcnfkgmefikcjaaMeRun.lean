/-
  All that a merge tells, from the beginning to the end.
-/
import Derived.Test.YtcnfkgmefikcjaaMeMade
namespace Go.Proofs.Ytcnfkgmefikcjaa.Me
open Go.ChangeShapes Go.WideShapes Go.ChangeAt Go.RowKit
open Go.Proofs.Ytcnfkgmefikcjaa.Base
set_option linter.unusedVariables false
/-- What is told from these places on, and the error at the end. -/
def Run (B : Nat → Fd) (n : Nat) (pos : Nat → Nat) (L : List Th) (e : Int) : Prop := ∀ R : (Nat → Nat) → List Th → Int → Prop, (∀ pos, (∀ j, j < n → pos j = (B j).ts.length) → R pos [] 0) → (∀ pos v, Best B n pos v → codP B pos v ≠ 0 → R pos [(B v).ts.getD (pos v) th0] (codP B pos v)) → (∀ pos v L e, Best B n pos v → codP B pos v = 0 → R (upP pos v) L e → R pos ((B v).ts.getD (pos v) th0 :: L) e) → R pos L e
theorem Run.stop {B : Nat → Fd} {n : Nat} (pos : Nat → Nat) (h : ∀ j, j < n → pos j = (B j).ts.length) : Run B n pos [] 0 := fun R q1 _ _ => q1 pos h
theorem Run.err {B : Nat → Fd} {n : Nat} (pos : Nat → Nat) (v : Nat) (hb : Best B n pos v) (hc : codP B pos v ≠ 0) : Run B n pos [(B v).ts.getD (pos v) th0] (codP B pos v) := fun R _ q2 _ => q2 pos v hb hc
theorem Run.more {B : Nat → Fd} {n : Nat} (pos : Nat → Nat) (v : Nat) (L : List Th) (e : Int) (hb : Best B n pos v) (hc : codP B pos v = 0) (h : Run B n (upP pos v) L e) : Run B n pos ((B v).ts.getD (pos v) th0 :: L) e := fun R q1 q2 q3 => q3 pos v L e hb hc (h R q1 q2 q3)
theorem Run.ind {B : Nat → Fd} {n : Nat} {motive : (pos : Nat → Nat) → (L : List Th) → (e : Int) → Run B n pos L e → Prop} (stop : ∀ pos (hs : ∀ j, j < n → pos j = (B j).ts.length), motive pos [] 0 (Run.stop pos hs))
    (err : ∀ pos v (hb : Best B n pos v) (hc : codP B pos v ≠ 0), motive pos [(B v).ts.getD (pos v) th0] (codP B pos v) (Run.err pos v hb hc))
    (more : ∀ pos v L e (hb : Best B n pos v) (hc : codP B pos v = 0) (hr : Run B n (upP pos v) L e), motive (upP pos v) L e hr → motive pos ((B v).ts.getD (pos v) th0 :: L) e (Run.more pos v L e hb hc hr)) {pos : Nat → Nat} {L : List Th} {e : Int} (h : Run B n pos L e) : motive pos L e h := by
  obtain ⟨t, ht⟩ := h (fun pos L e => ∃ r : Run B n pos L e, motive pos L e r) (fun pos q => ⟨Run.stop pos q, stop pos q⟩) (fun pos v q1 q2 => ⟨Run.err pos v q1 q2, err pos v q1 q2⟩) (fun pos v L e q1 q2 q3 => by obtain ⟨x, hx⟩ := q3; exact ⟨Run.more pos v L e q1 q2 x, more pos v L e q1 q2 x hx⟩)
  exact ht
theorem Run.inv {B : Nat → Fd} {n : Nat} {pos : Nat → Nat} {L : List Th} {e : Int} (h : Run B n pos L e) : (L = [] ∧ e = 0 ∧ ∀ j, j < n → pos j = (B j).ts.length) ∨ (∃ v, Best B n pos v ∧ codP B pos v ≠ 0 ∧ L = [(B v).ts.getD (pos v) th0] ∧ e = codP B pos v) ∨ (∃ v L1, Best B n pos v ∧ codP B pos v = 0 ∧ Run B n (upP pos v) L1 e ∧ L = (B v).ts.getD (pos v) th0 :: L1) := by
  induction h using Run.ind with
  | stop pos hs => exact .inl ⟨rfl, rfl, hs⟩
  | err pos v hb hc => exact .inr (.inl ⟨v, hb, hc, rfl, rfl⟩)
  | more pos v L e hb hc hr _ => exact .inr (.inr ⟨v, L, hb, hc, hr, rfl⟩)
/-- What is told behind the thing of source v. -/
def Rest (B : Nat → Fd) (n : Nat) (pos : Nat → Nat) (v : Nat) (L : List Th) (e : Int) : Prop := (codP B pos v ≠ 0 ∧ L = [] ∧ e = codP B pos v) ∨ (codP B pos v = 0 ∧ Run B n (upP pos v) L e)
theorem Rest.run {B : Nat → Fd} {n : Nat} {pos : Nat → Nat} {v : Nat} {L : List Th} {e : Int} (h : Rest B n pos v L e) (hb : Best B n pos v) : Run B n pos ((B v).ts.getD (pos v) th0 :: L) e := by
  rcases h with ⟨h1, rfl, rfl⟩ | ⟨h1, h2⟩
  · exact .err pos v hb h1
  · exact .more pos v L e hb h1 h2
/-- All that a merge of these tells. -/
def Runs (B : Nat → Fd) (n : Nat) (L : List Th) (e : Int) : Prop := (∃ m, m < n ∧ (B m).ts.length = 0 ∧ (B m).fin ≠ 0 ∧ (∀ j, j < m → okF B j) ∧ L = [] ∧ e = (B m).fin) ∨ ((∀ j, j < n → okF B j) ∧ Run B n pos0 L e)
def sumN (f : Nat → Nat) : Nat → Nat
  | 0 => 0
  | n + 1 => sumN f n + f n
theorem sum_le {f g : Nat → Nat} {n : Nat} (h : ∀ j, j < n → f j ≤ g j) : sumN f n ≤ sumN g n := by
  induction n with
  | zero => exact Nat.le_refl _
  | succ n ih => unfold sumN; have := ih (fun j hj => h j (by omega)); have := h n (by omega); omega
theorem sum_eq {f g : Nat → Nat} {n : Nat} (h : ∀ j, j < n → f j = g j) : sumN f n = sumN g n := by
  induction n with
  | zero => rfl
  | succ n ih => unfold sumN; rw [ih (fun j hj => h j (by omega)), h n (by omega)]
theorem sum_up (pos : Nat → Nat) (v n : Nat) (h : v < n) : sumN (upP pos v) n = sumN pos n + 1 := by
  induction n with
  | zero => omega
  | succ n ih =>
    unfold sumN
    by_cases e : v = n
    · subst e
      have e1 : sumN (upP pos v) v = sumN pos v := sum_eq (fun j hj => by unfold upP; rw [if_neg (by omega)])
      have e2 : upP pos v v = pos v + 1 := by unfold upP; rw [if_pos rfl]
      rw [e1, e2]
      omega
    · have e2 : upP pos v n = pos n := by unfold upP; rw [if_neg (fun q => e q.symm)]
      rw [ih (by omega), e2]
      omega
theorem sum_zero (n : Nat) : sumN pos0 n = 0 := by
  induction n with
  | zero => rfl
  | succ n ih => unfold sumN; rw [ih]; rfl
def lens (B : Nat → Fd) (j : Nat) : Nat := (B j).ts.length
theorem sum_live {B : Nat → Fd} {n : Nat} {pos : Nat → Nat} {v : Nat} (hv : v < n) (hp : pos v < (B v).ts.length) (hle : ∀ j, j < n → pos j ≤ (B j).ts.length) : sumN pos n + 1 ≤ sumN (lens B) n := by
  rw [← sum_up pos v n hv]
  exact sum_le (fun j hj => upP_le hle hp j hj)
/-- Blocks that are none of the merge's have turned. -/
theorem FSt.apart {w w' : World} {n : Nat} {gf : Nat → Nat} {fd : Nat → Fd} {gm gs : Nat} {S : Nat → Prop} (h : FSt w n gf fd gm gs) (t : Tn w w' S) (h1 : ∀ j, j < n → ¬ S (gf j)) (h2 : ∀ j, j < n → ∀ b off, (fd j).a = some ⟨b, off, none⟩ → 0 < (fd j).ts.length → ¬ S b) : FSt w' n gf fd gm gs := by
  refine ⟨fun j hj => (h.fb j hj).same (t.block _ (lt_row (h.fb j hj)) (h1 j hj)), fun j hj hp => ?_, h.ap, h.inj, h.far, h.len, h.asks⟩
  obtain ⟨b, off, e1, e2, e3⟩ := h.rd j hj hp
  have hblk : w'.heap[b]? = w.heap[b]? := t.block b e2 (h2 j hj b off e1 hp)
  exact ⟨b, off, e1, Nat.lt_of_lt_of_le e2 t.size, fun k hk => ⟨(World.cell?_of_block (a := ⟨b, off + k * 2, none⟩) hblk).trans (e3 k hk).1, (World.cell?_of_block (a := ⟨b, off + k * 2 + 1, none⟩) hblk).trans (e3 k hk).2⟩⟩
theorem Live.apart {w w' : World} {gm gs n : Nat} {gf : Nat → Nat} {B : Nat → Fd} {pos : Nat → Nat} {v : Nat} {S : Nat → Prop} (h : Live w gm gs n gf B pos v) (t : Tn w w' S) (h1 : ∀ j, All n gm gs gf j → ¬ S j) (h2 : ∀ j, j < n → ∀ b off, (B j).a = some ⟨b, off, none⟩ → 0 < (B j).ts.length → ¬ S b) : Live w' gm gs n gf B pos v := by
  obtain ⟨pl, q1, q2, q3⟩ := h.ms
  exact ⟨h.fs.apart t (fun j hj => h1 _ (.inr (.inr ⟨j, hj, rfl⟩))) h2, ⟨pl, q1.turned S t (h1 _ (.inl rfl)) (h1 _ (.inr (.inl rfl))), q2, q3⟩, h.pv, h.le⟩
theorem Newly.apart {w w' : World} {gm gs n : Nat} {gf : Nat → Nat} {B : Nat → Fd} {S : Nat → Prop} (h : Newly w gm gs n gf B) (t : Tn w w' S) (h1 : ∀ j, All n gm gs gf j → ¬ S j) (h2 : ∀ j, j < n → ∀ b off, (B j).a = some ⟨b, off, none⟩ → 0 < (B j).ts.length → ¬ S b) : Newly w' gm gs n gf B := by
  obtain ⟨pl, q1⟩ := h.ms
  exact ⟨h.fs.apart t (fun j hj => h1 _ (.inr (.inr ⟨j, hj, rfl⟩))) h2, ⟨pl, q1.turned S t (h1 _ (.inl rfl)) (h1 _ (.inr (.inl rfl)))⟩, h.fr⟩
/-- The state of a merge: not begun, or standing at v with these things told. -/
def At (w : World) (gm gs n : Nat) (gf : Nat → Nat) (B : Nat → Fd) (P : List Th) : Prop :=
  (P = [] ∧ Newly w gm gs n gf B) ∨ (∃ pos v, Live w gm gs n gf B pos v ∧ Best B n pos v ∧ P.length = sumN pos n + 1 ∧ ∀ L e, Rest B n pos v L e → Runs B n (P ++ L) e)
theorem At.apart {w w' : World} {gm gs n : Nat} {gf : Nat → Nat} {B : Nat → Fd} {P : List Th} {S : Nat → Prop} (h : At w gm gs n gf B P) (t : Tn w w' S) (h1 : ∀ j, All n gm gs gf j → ¬ S j) (h2 : ∀ j, j < n → ∀ b off, (B j).a = some ⟨b, off, none⟩ → 0 < (B j).ts.length → ¬ S b) : At w' gm gs n gf B P := by
  rcases h with ⟨e, h⟩ | ⟨pos, v, h, q1, q2, q3⟩
  · exact .inl ⟨e, h.apart t h1 h2⟩
  · exact .inr ⟨pos, v, h.apart t h1 h2, q1, q2, q3⟩
theorem At.len {w : World} {gm gs n : Nat} {gf : Nat → Nat} {B : Nat → Fd} {P : List Th} (h : At w gm gs n gf B P) : P.length ≤ sumN (lens B) n := by
  rcases h with ⟨rfl, _⟩ | ⟨pos, v, h, q1, q2, _⟩
  · exact Nat.zero_le _
  · rw [q2]; exact sum_live q1.1 h.pv h.le
/-- One Next. -/
theorem next_at (gm gs n : Nat) (gf : Nat → Nat) (B : Nat → Fd) (P : List Th) (w : World) (h : At w gm gs n gf B P) (hl : ∀ j, j < n → (B j).ts.length + 2 ≤ 4611686018427387904) :
    Calls Try.prog 7 #[.pointer (some ⟨gm, 0, none⟩)] w fun e w' => Tn w w' (All n gm gs gf) ∧ ((∃ x : Int, e = .returned (.tuple #[th0.val, .bool false, .int .i64 x]) ∧ Runs B n P x) ∨ (∃ t : Th, e = .returned (.tuple #[t.val, .bool true, .int .i64 0]) ∧ At w' gm gs n gf B (P ++ [t]))) := by
  rcases h with ⟨rfl, h⟩ | ⟨pos, v, h, hb, hlen, hr⟩
  · refine (next_first gm gs n gf B w h).mono ?_
    rintro e w' (⟨m, h1, h2, h3, h4, rfl, h5, h6, h7⟩ | ⟨hok, ht, hs, ⟨hc, _⟩ | ⟨_, ⟨v, hb, rfl, hlv⟩ | ⟨hend, rfl, hov⟩⟩⟩)
    · exact ⟨h7, .inl ⟨_, rfl, .inl ⟨m, h1, h2, h3, h4, rfl, rfl⟩⟩⟩
    · exact absurd rfl hc
    · refine ⟨ht, .inr ⟨_, rfl, .inr ⟨pos0, v, hlv, hb, ?_, fun L e hre => .inr ⟨hok, hre.run hb⟩⟩⟩⟩
      rw [sum_zero]
      rfl
    · exact ⟨ht, .inl ⟨0, rfl, .inr ⟨hok, .stop pos0 hend⟩⟩⟩
  · have hp := h.pv
    have hl2 := hl v hb.1
    refine (next_live gm gs n gf B pos v w h (by omega)).mono ?_
    rintro e w' ⟨ht, hs, ⟨hc, rfl, hov⟩ | ⟨hc, ⟨v', hb', rfl, hlv⟩ | ⟨hend, rfl, hov⟩⟩⟩
    · refine ⟨ht, .inl ⟨_, rfl, ?_⟩⟩
      have q := hr [] (codP B pos v) (.inl ⟨hc, rfl, rfl⟩)
      rw [List.append_nil] at q
      exact q
    · refine ⟨ht, .inr ⟨_, rfl, .inr ⟨upP pos v, v', hlv, hb', ?_, fun L e hre => ?_⟩⟩⟩
      · rw [List.length_append, List.length_singleton, hlen, sum_up pos v n hb.1]
      · rw [List.append_assoc]
        exact hr _ e (.inr ⟨hc, hre.run hb'⟩)
    · refine ⟨ht, .inl ⟨0, rfl, ?_⟩⟩
      have q := hr [] 0 (.inr ⟨hc, .stop _ hend⟩)
      rw [List.append_nil] at q
      exact q
end Go.Proofs.Ytcnfkgmefikcjaa.Me
