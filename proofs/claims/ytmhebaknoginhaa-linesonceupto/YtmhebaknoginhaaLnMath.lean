/-
  The lines of a text: where each begins, which byte ends it.
-/
import Derived.Test.YtmhebaknoginhaaBase
namespace Go.Proofs.Ytmhebaknoginhaa.Ln
set_option linter.unusedVariables false
/-- The byte at a place (0 behind the end). -/
def bt (T : ByteArray) (i : Nat) : UInt8 := T.data.toList.getD i 0
theorem bt_get (T : ByteArray) (i : Nat) (h : i < T.size) : bt T i = T[i]'h := by
  unfold bt
  have h' : i < T.data.toList.length := by simpa using h
  rw [List.getD_eq_getElem?_getD, List.getElem?_eq_getElem h']
  rfl
theorem bt_extract (T : ByteArray) (a b i : Nat) (h : a + i < b) (hb : b ≤ T.size) : bt (T.extract a b) i = bt T (a + i) := by
  have h1 : i < (T.extract a b).size := by rw [ByteArray.size_extract]; omega
  rw [bt_get _ _ h1, bt_get _ _ (by omega), ByteArray.getElem_extract]
/-- Behind the first line feed from p on, or the end; 'f' places are looked at. -/
def nxF (T : ByteArray) : Nat → Nat → Nat
  | 0, p => p
  | f + 1, p => if p < T.size then (if bt T p = 10 then p + 1 else nxF T f (p + 1)) else p
/-- Where the line that holds the place p ends, its line feed with it. -/
def nx (T : ByteArray) (p : Nat) : Nat := nxF T (T.size - p) p
theorem nxF_spec (T : ByteArray) : ∀ (f p : Nat), T.size = p + f → 0 < f → p < nxF T f p ∧ nxF T f p ≤ T.size ∧ (∀ i, p ≤ i → i + 1 < nxF T f p → bt T i ≠ 10) ∧ (bt T (nxF T f p - 1) = 10 ∨ nxF T f p = T.size) := by
  intro f
  induction f with
  | zero => intro p _ h; omega
  | succ f ih =>
    intro p hs _
    have hp : p < T.size := by omega
    by_cases hb : bt T p = 10
    · have e : nxF T (f + 1) p = p + 1 := by unfold nxF; rw [if_pos hp, if_pos hb]
      rw [e]
      exact ⟨by omega, by omega, fun i h1 h2 => by omega, .inl hb⟩
    · have e : nxF T (f + 1) p = nxF T f (p + 1) := by rw [nxF, if_pos hp, if_neg hb]
      rw [e]
      cases f with
      | zero =>
        show p < p + 1 ∧ p + 1 ≤ T.size ∧ (∀ i, p ≤ i → i + 1 < p + 1 → bt T i ≠ 10) ∧ (bt T (p + 1 - 1) = 10 ∨ p + 1 = T.size)
        exact ⟨by omega, by omega, fun i h1 h2 => by omega, .inr (by omega)⟩
      | succ f =>
        obtain ⟨h1, h2, h3, h4⟩ := ih (p + 1) (by omega) (by omega)
        refine ⟨by omega, h2, fun i hi h => ?_, h4⟩
        by_cases hip : i = p
        · rw [hip]; exact hb
        · exact h3 i (by omega) h
theorem nx_spec (T : ByteArray) (p : Nat) (h : p < T.size) : p < nx T p ∧ nx T p ≤ T.size ∧ (∀ i, p ≤ i → i + 1 < nx T p → bt T i ≠ 10) ∧ (bt T (nx T p - 1) = 10 ∨ nx T p = T.size) :=
  nxF_spec T (T.size - p) p (by omega) (by omega)
theorem nx_end (T : ByteArray) (p : Nat) (h : T.size ≤ p) : nx T p = p := by
  unfold nx
  rw [show T.size - p = 0 by omega]
  rfl
theorem nx_uniq (T : ByteArray) (p q : Nat) (h1 : p < q) (h2 : q ≤ T.size) (h3 : ∀ i, p ≤ i → i + 1 < q → bt T i ≠ 10) (h4 : bt T (q - 1) = 10 ∨ q = T.size) : nx T p = q := by
  obtain ⟨g1, g2, g3, g4⟩ := nx_spec T p (by omega)
  by_cases hlt : nx T p < q
  · rcases g4 with g4 | g4
    · exact absurd g4 (h3 _ (by omega) (by omega))
    · omega
  · by_cases hgt : q < nx T p
    · rcases h4 with h4 | h4
      · exact absurd h4 (g3 _ (by omega) (by omega))
      · omega
    · omega
/-- A later place within the same line. -/
theorem nx_in (T : ByteArray) (p q : Nat) (hp : p < T.size) (h1 : p ≤ q) (h2 : q < nx T p) : nx T q = nx T p := by
  obtain ⟨g1, g2, g3, g4⟩ := nx_spec T p hp
  exact nx_uniq T q _ h2 g2 (fun i hi h => g3 i (by omega) h) g4
theorem nx_extract (T : ByteArray) (a b p : Nat) (hb : b ≤ T.size) (hp : a + p < b) (hn : nx T (a + p) ≤ b) : nx (T.extract a b) p = nx T (a + p) - a := by
  obtain ⟨g1, g2, g3, g4⟩ := nx_spec T (a + p) (by omega)
  have hs : (T.extract a b).size = b - a := by rw [ByteArray.size_extract]; omega
  refine nx_uniq _ _ _ (by omega) (by omega) (fun i hi h => ?_) ?_
  · rw [bt_extract T a b i (by omega) hb]
    exact g3 _ (by omega) (by omega)
  · rcases g4 with g4 | g4
    · left
      rw [bt_extract T a b _ (by omega) hb, show a + (nx T (a + p) - a - 1) = nx T (a + p) - 1 by omega]
      exact g4
    · right; omega
/-- Where the line number k begins, counted from the place p on. -/
def plF (T : ByteArray) : Nat → Nat → Nat
  | 0, p => p
  | k + 1, p => plF T k (nx T p)
def pl (T : ByteArray) (k : Nat) : Nat := plF T k 0
theorem plF_succ (T : ByteArray) : ∀ (k p : Nat), plF T (k + 1) p = nx T (plF T k p) := by
  intro k
  induction k with
  | zero => intro p; rfl
  | succ k ih => intro p; show plF T (k + 1) (nx T p) = _; rw [ih]; rfl
theorem pl_zero (T : ByteArray) : pl T 0 = 0 := rfl
theorem pl_succ (T : ByteArray) (k : Nat) : pl T (k + 1) = nx T (pl T k) := plF_succ T k 0
/-- How many lines there are from the place p on. -/
def cntF (T : ByteArray) : Nat → Nat → Nat
  | 0, _ => 0
  | f + 1, p => if p < T.size then cntF T f (nx T p) + 1 else 0
def cnt (T : ByteArray) : Nat := cntF T T.size 0
theorem cntF_spec (T : ByteArray) : ∀ (f p : Nat), p ≤ T.size → T.size ≤ p + f → plF T (cntF T f p) p = T.size ∧ (∀ k, k < cntF T f p → plF T k p < T.size) ∧ cntF T f p ≤ T.size - p := by
  intro f
  induction f with
  | zero => intro p h1 h2; exact ⟨by show p = _; omega, fun k h => absurd h (Nat.not_lt_zero _), Nat.zero_le _⟩
  | succ f ih =>
    intro p h1 h2
    by_cases hp : p < T.size
    · obtain ⟨g1, g2, _⟩ := nx_spec T p hp
      have e : cntF T (f + 1) p = cntF T f (nx T p) + 1 := by rw [cntF, if_pos hp]
      obtain ⟨i1, i2, i3⟩ := ih (nx T p) g2 (by omega)
      rw [e]
      refine ⟨i1, fun k hk => ?_, by omega⟩
      cases k with
      | zero => exact hp
      | succ k => exact i2 k (by omega)
    · have e : cntF T (f + 1) p = 0 := by rw [cntF, if_neg hp]
      rw [e]
      exact ⟨by show p = _; omega, fun k h => by omega, by omega⟩
theorem pl_cnt (T : ByteArray) : pl T (cnt T) = T.size := (cntF_spec T T.size 0 (Nat.zero_le _) (by omega)).1
theorem pl_lt (T : ByteArray) (k : Nat) (h : k < cnt T) : pl T k < T.size := (cntF_spec T T.size 0 (Nat.zero_le _) (by omega)).2.1 k h
theorem cnt_le (T : ByteArray) : cnt T ≤ T.size := by have := (cntF_spec T T.size 0 (Nat.zero_le _) (by omega)).2.2; unfold cnt; omega
theorem pl_step (T : ByteArray) (k : Nat) (h : k < cnt T) : pl T k < pl T (k + 1) ∧ pl T (k + 1) ≤ T.size := by
  obtain ⟨g1, g2, _⟩ := nx_spec T (pl T k) (pl_lt T k h)
  rw [pl_succ]
  exact ⟨g1, g2⟩
theorem pl_le (T : ByteArray) (k : Nat) (h : k ≤ cnt T) : pl T k ≤ T.size := by
  by_cases e : k = cnt T
  · rw [e, pl_cnt]; exact Nat.le_refl _
  · exact Nat.le_of_lt (pl_lt T k (by omega))
theorem pl_mono (T : ByteArray) (j : Nat) : ∀ (d : Nat), j + d ≤ cnt T → pl T j + d ≤ pl T (j + d) := by
  intro d
  induction d with
  | zero => intro _; exact Nat.le_refl _
  | succ d ih =>
    intro h
    have h1 := ih (by omega)
    have h2 := (pl_step T (j + d) (by omega)).1
    show pl T j + (d + 1) ≤ pl T (j + d + 1)
    omega
theorem pl_le_pl (T : ByteArray) (j k : Nat) (h : j ≤ k) (hk : k ≤ cnt T) : pl T j ≤ pl T k := by
  have := pl_mono T j (k - j) (by omega)
  rw [show j + (k - j) = k by omega] at this
  omega
theorem pl_lt_pl (T : ByteArray) (j k : Nat) (h : j < k) (hk : k ≤ cnt T) : pl T j < pl T k := by
  have := pl_mono T j (k - j) (by omega)
  rw [show j + (k - j) = k by omega] at this
  omega
theorem lt_of_pl (T : ByteArray) (j k : Nat) (hj : j ≤ cnt T) (h : pl T j < pl T k) (hk : k ≤ cnt T) : j < k := by
  by_cases e : j < k
  · exact e
  · have := pl_le_pl T k j (by omega) hj
    omega
/-- In which line a place lies. -/
theorem pl_in (T : ByteArray) (q : Nat) (h : q < T.size) : ∃ k, k < cnt T ∧ pl T k ≤ q ∧ q < pl T (k + 1) := by
  have key : ∀ n, n ≤ cnt T → q < pl T n → ∃ k, k < n ∧ pl T k ≤ q ∧ q < pl T (k + 1) := by
    intro n
    induction n with
    | zero => intro _ h; rw [pl_zero] at h; omega
    | succ n ih =>
      intro hn hq
      by_cases hlt : q < pl T n
      · obtain ⟨k, h1, h2⟩ := ih (by omega) hlt
        exact ⟨k, by omega, h2⟩
      · exact ⟨n, by omega, by omega, hq⟩
  obtain ⟨k, h1, h2⟩ := key (cnt T) (Nat.le_refl _) (by rw [pl_cnt]; exact h)
  exact ⟨k, h1, h2⟩
/-- The first line that begins at a place or behind it. -/
def lf (T : ByteArray) (p : Nat) : Nat := if p = 0 then 0 else nx T (p - 1)
/-- Its number: how many begin ahead of the place. -/
def ixF (T : ByteArray) (p : Nat) : Nat → Nat
  | 0 => 0
  | n + 1 => if pl T n < p then n + 1 else ixF T p n
def ix (T : ByteArray) (p : Nat) : Nat := ixF T p (cnt T)
theorem ixF_spec (T : ByteArray) (p : Nat) : ∀ n, n ≤ cnt T → ixF T p n ≤ n ∧ (∀ j, j < ixF T p n → pl T j < p) ∧ (∀ j, ixF T p n ≤ j → j < n → p ≤ pl T j) := by
  intro n
  induction n with
  | zero => intro _; exact ⟨Nat.le_refl _, fun j h => absurd h (Nat.not_lt_zero _), fun j _ h => absurd h (Nat.not_lt_zero _)⟩
  | succ n ih =>
    intro hn
    by_cases h : pl T n < p
    · have e : ixF T p (n + 1) = n + 1 := by rw [ixF, if_pos h]
      rw [e]
      refine ⟨Nat.le_refl _, fun j hj => ?_, fun j h1 h2 => by omega⟩
      have := pl_le_pl T j n (by omega) (by omega)
      omega
    · have e : ixF T p (n + 1) = ixF T p n := by rw [ixF, if_neg h]
      rw [e]
      obtain ⟨h1, h2, h3⟩ := ih (by omega)
      refine ⟨by omega, h2, fun j g1 g2 => ?_⟩
      by_cases ej : j = n
      · rw [ej]; omega
      · exact h3 j g1 (by omega)
theorem ix_le (T : ByteArray) (p : Nat) : ix T p ≤ cnt T := (ixF_spec T p (cnt T) (Nat.le_refl _)).1
theorem ix_lt (T : ByteArray) (p j : Nat) (h : j < ix T p) : pl T j < p := (ixF_spec T p (cnt T) (Nat.le_refl _)).2.1 j h
theorem ix_ge (T : ByteArray) (p j : Nat) (h : ix T p ≤ j) (hj : j < cnt T) : p ≤ pl T j := (ixF_spec T p (cnt T) (Nat.le_refl _)).2.2 j h hj
theorem ix_mono (T : ByteArray) (p q : Nat) (h : p ≤ q) : ix T p ≤ ix T q := by
  by_cases e : ix T p ≤ ix T q
  · exact e
  · have h1 := ix_lt T p (ix T q) (by omega)
    have h2 := ix_le T p
    have h3 := ix_ge T q (ix T q) (Nat.le_refl _) (by omega)
    omega
theorem ix_zero (T : ByteArray) : ix T 0 = 0 := by
  by_cases e : ix T 0 = 0
  · exact e
  · have := ix_lt T 0 0 (by omega); omega
theorem ix_size (T : ByteArray) : ix T T.size = cnt T := by
  have h := ix_le T T.size
  by_cases e : ix T T.size = cnt T
  · exact e
  · have h2 := ix_ge T T.size (ix T T.size) (Nat.le_refl _) (by omega)
    have h3 := pl_lt T (ix T T.size) (by omega)
    omega
theorem ix_uniq (T : ByteArray) (p k : Nat) (hk : k ≤ cnt T) (h1 : ∀ j, j < k → pl T j < p) (h2 : k < cnt T → p ≤ pl T k) : ix T p = k := by
  by_cases a : ix T p < k
  · have g1 := ix_ge T p (ix T p) (Nat.le_refl _) (by omega)
    have g2 := h1 _ a
    omega
  · by_cases b : k < ix T p
    · have g1 := ix_lt T p k b
      have g2 := h2 (by have := ix_le T p; omega)
      omega
    · omega
theorem lf_ix (T : ByteArray) (p : Nat) (h : p ≤ T.size) : lf T p = pl T (ix T p) := by
  unfold lf
  by_cases hp : p = 0
  · rw [if_pos hp, hp, ix_zero, pl_zero]
  · rw [if_neg hp]
    obtain ⟨k, h1, h2, h3⟩ := pl_in T (p - 1) (by omega)
    rw [pl_succ] at h3
    have e := nx_in T (pl T k) (p - 1) (pl_lt T k h1) h2 h3
    rw [e, ← pl_succ]
    congr 1
    symm
    refine ix_uniq T p (k + 1) (by omega) (fun j hj => ?_) (fun hk => ?_)
    · have := pl_le_pl T j k (by omega) (by omega)
      omega
    · rw [pl_succ]; omega
theorem lf_le (T : ByteArray) (p : Nat) (h : p ≤ T.size) : lf T p ≤ T.size := by rw [lf_ix T p h]; exact pl_le T _ (ix_le T p)
theorem lf_mono (T : ByteArray) (p q : Nat) (h : p ≤ q) (hq : q ≤ T.size) : lf T p ≤ lf T q := by
  rw [lf_ix T p (by omega), lf_ix T q hq]
  exact pl_le_pl T _ _ (ix_mono T p q h) (ix_le T q)
/-- Does the line number k end in a line feed? Where its text ends. -/
def en (T : ByteArray) (k : Nat) : Nat := if bt T (pl T (k + 1) - 1) = 10 then pl T (k + 1) - 1 else pl T (k + 1)
def ln (T : ByteArray) (k : Nat) : ByteArray := T.extract (pl T k) (en T k)
theorem en_spec (T : ByteArray) (k : Nat) (h : k < cnt T) : pl T k ≤ en T k ∧ en T k ≤ pl T (k + 1) ∧ en T k ≤ T.size ∧ (∀ i, pl T k ≤ i → i < en T k → bt T i ≠ 10) ∧ (en T k + 1 = pl T (k + 1) ∧ bt T (en T k) = 10 ∨ en T k = pl T (k + 1) ∧ k + 1 = cnt T ∧ pl T k < en T k) := by
  obtain ⟨g1, g2, g3, g4⟩ := nx_spec T (pl T k) (pl_lt T k h)
  rw [← pl_succ] at g1 g2 g3 g4
  unfold en
  by_cases hb : bt T (pl T (k + 1) - 1) = 10
  · rw [if_pos hb]
    refine ⟨by omega, by omega, by omega, fun i h1 h2 => g3 i h1 (by omega), .inl ⟨by omega, hb⟩⟩
  · rw [if_neg hb]
    have hs : pl T (k + 1) = T.size := g4.resolve_left hb
    refine ⟨by omega, by omega, by omega, fun i h1 h2 => ?_, .inr ⟨rfl, ?_, g1⟩⟩
    · by_cases hi : i + 1 < pl T (k + 1)
      · exact g3 i h1 hi
      · rw [show i = pl T (k + 1) - 1 by omega]; exact hb
    · by_cases e : k + 1 = cnt T
      · exact e
      · have := pl_lt T (k + 1) (by omega); omega
theorem ln_size (T : ByteArray) (k : Nat) (h : k < cnt T) : (ln T k).size = en T k - pl T k := by
  obtain ⟨g1, g2, g3, _⟩ := en_spec T k h
  unfold ln
  rw [ByteArray.size_extract]
  omega
/-- The lines of a piece of whole lines. -/
theorem pl_extract (T : ByteArray) (a b : Nat) (hab : a ≤ b) (hb : b ≤ cnt T) : ∀ k, a + k ≤ b → pl (T.extract (pl T a) (pl T b)) k = pl T (a + k) - pl T a := by
  intro k
  induction k with
  | zero => intro _; rw [pl_zero, Nat.add_zero, Nat.sub_self]
  | succ k ih =>
    intro h
    have h1 := pl_le_pl T a (a + k) (by omega) (by omega)
    have h2 := pl_lt_pl T (a + k) b (by omega) hb
    have h3 := pl_le T b hb
    have h4 := pl_le_pl T (a + k + 1) b (by omega) hb
    rw [pl_succ, ih (by omega)]
    rw [pl_succ] at h4
    have e : pl T a + (pl T (a + k) - pl T a) = pl T (a + k) := by omega
    rw [nx_extract T (pl T a) (pl T b) _ h3 (by omega) (by rw [e]; exact h4), e]
    rw [show a + (k + 1) = a + k + 1 by omega, pl_succ]
theorem cnt_extract (T : ByteArray) (a b : Nat) (hab : a ≤ b) (hb : b ≤ cnt T) : cnt (T.extract (pl T a) (pl T b)) = b - a := by
  have h3 := pl_le T b hb
  have h4 := pl_le_pl T a b hab hb
  have hs : (T.extract (pl T a) (pl T b)).size = pl T b - pl T a := by rw [ByteArray.size_extract]; omega
  have he := pl_extract T a b hab hb (b - a) (by omega)
  rw [show a + (b - a) = b by omega, ← hs] at he
  by_cases h : cnt (T.extract (pl T a) (pl T b)) < b - a
  · have h1 := pl_extract T a b hab hb _ (by omega : a + cnt (T.extract (pl T a) (pl T b)) ≤ b)
    rw [pl_cnt, hs] at h1
    have h2 := pl_lt_pl T (a + cnt (T.extract (pl T a) (pl T b))) b (by omega) hb
    have h5 := pl_le_pl T a (a + cnt (T.extract (pl T a) (pl T b))) (by omega) (by omega)
    omega
  · by_cases h' : b - a < cnt (T.extract (pl T a) (pl T b))
    · have := pl_lt _ _ h'; omega
    · omega
theorem extract_extract (T : ByteArray) (a b c d : Nat) (h : a + d ≤ b) (hb : b ≤ T.size) : (T.extract a b).extract c d = T.extract (a + c) (a + d) := by
  rw [ByteArray.extract_extract]
  congr 1
  omega
theorem ln_extract (T : ByteArray) (a b k : Nat) (hb : b ≤ cnt T) (hk : a + k < b) : ln (T.extract (pl T a) (pl T b)) k = ln T (a + k) := by
  have e0 := pl_extract T a b (by omega) hb k (by omega)
  have e1 := pl_extract T a b (by omega) hb (k + 1) (by omega)
  have h1 := pl_le_pl T a (a + k) (by omega) (by omega)
  have h2 := pl_lt_pl T (a + k) (a + (k + 1)) (by omega) (by omega)
  have h3 := pl_le_pl T (a + (k + 1)) b (by omega) hb
  have h4 := pl_le T b hb
  have he : en (T.extract (pl T a) (pl T b)) k = en T (a + k) - pl T a := by
    unfold en
    rw [e1, bt_extract T _ _ _ (by omega) h4, show pl T a + (pl T (a + (k + 1)) - pl T a - 1) = pl T (a + k + 1) - 1 by rw [show a + k + 1 = a + (k + 1) by omega]; omega]
    by_cases hc : bt T (pl T (a + k + 1) - 1) = 10
    · rw [if_pos hc, if_pos hc]; show pl T (a + k + 1) - pl T a - 1 = _; omega
    · rw [if_neg hc, if_neg hc]; rfl
  obtain ⟨g1, g2, g3, _⟩ := en_spec T (a + k) (by omega)
  unfold ln
  rw [he, e0, extract_extract T _ _ _ _ (by show pl T a + (en T (a + k) - pl T a) ≤ _; have : pl T (a + k + 1) = pl T (a + (k + 1)) := rfl; omega) h4]
  congr 1 <;> omega
end Go.Proofs.Ytmhebaknoginhaa.Ln
