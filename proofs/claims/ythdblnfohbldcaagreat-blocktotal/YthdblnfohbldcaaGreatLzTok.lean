/-
  Tokens, their text, their bytes, and the reading of bytes: said of lists.
-/
import Derived.Test.YthdblnfohbldcaaGreatNumsNum
namespace Go.Proofs.YthdblnfohbldcaaGreat.Lz
open Go.Proofs.YthdblnfohbldcaaGreat.Base Go.Proofs.YthdblnfohbldcaaGreat.Nums
set_option linter.unusedVariables false
structure Tok where
  lit : List (BitVec 8)
  dist : Int
  len : Int
/-- A token without a match. -/
abbrev Tok.bare (t : Tok) : Prop := t.dist = 0 ∧ t.len = 0
/-- May the token stand where m bytes are in the text behind its Lit? -/
def right (t : Tok) (m : Nat) (last : Bool) : Bool := if t.bare then last && decide (0 < t.lit.length) else decide (4 ≤ t.len ∧ t.len ≤ 259 ∧ 1 ≤ t.dist ∧ t.dist ≤ 32768 ∧ t.dist ≤ (m : Int))
/-- How many bytes the text of tokens has, and the error. -/
def measure : Nat → List Tok → Nat × Nat
  | h, [] => (h, 0)
  | h, t :: r => if right t (h + t.lit.length) r.isEmpty = true then (if 65536 < h + t.lit.length + t.len.toNat then (0, 2) else measure (h + t.lit.length + t.len.toNat) r) else (0, 31)
/-- n bytes once more, from d places ahead of the end. -/
def copyN (d : Nat) : Nat → List (BitVec 8) → List (BitVec 8)
  | 0, x => x
  | n + 1, x => copyN d n (x ++ [x.getD (x.length - d) 0])
def grow (x : List (BitVec 8)) (t : Tok) : List (BitVec 8) := copyN t.dist.toNat t.len.toNat (x ++ t.lit)
def expand (x : List (BitVec 8)) (ts : List Tok) : List (BitVec 8) := ts.foldl grow x
theorem length_copyN (d n : Nat) : ∀ x, (copyN d n x).length = x.length + n := by
  induction n with
  | zero => intro x; rfl
  | succ n ih => intro x; simp only [copyN]; rw [ih]; simp; omega
theorem copyN_snoc (d n : Nat) : ∀ x, copyN d (n + 1) x = copyN d n x ++ [(copyN d n x).getD ((copyN d n x).length - d) 0] := by
  induction n with
  | zero => intro x; rfl
  | succ n ih => intro x; rw [copyN, ih]; rfl
theorem length_grow (x : List (BitVec 8)) (t : Tok) : (grow x t).length = x.length + t.lit.length + t.len.toNat := by
  unfold grow; rw [length_copyN, List.length_append]
/-- A token's bytes. -/
def putTok (t : Tok) : List (BitVec 8) := put t.lit.length ++ (t.lit ++ (if t.bare then [] else put (t.len - 4).toNat ++ put t.dist.toNat))
def bytesOf (ts : List Tok) : List (BitVec 8) := ts.flatMap putTok
theorem bytesOf_cons (t : Tok) (r : List Tok) : bytesOf (t :: r) = putTok t ++ bytesOf r := by simp [bytesOf]
theorem bytesOf_append (r s : List Tok) : bytesOf (r ++ s) = bytesOf r ++ bytesOf s := by simp [bytesOf]
/-- The number at the head, of at most so much: its value, how many bytes (0: there is none). -/
def number (b : List (BitVec 8)) (most : Int) : Nat × Nat := if (get b).2.2 ≠ 0 ∨ most < ((get b).1 : Int) then (0, 0) else ((get b).1, (get b).2.1)
/-- The token at the head of bytes, where h bytes of a text of n stand. -/
def first (b : List (BitVec 8)) (h n : Nat) : Option (Tok × Nat) :=
  if (number b ((n : Int) - h)).2 = 0 ∨ b.length - (number b ((n : Int) - h)).2 < (number b ((n : Int) - h)).1 then none
  else if h + (number b ((n : Int) - h)).1 = n then some (⟨(b.drop (number b ((n : Int) - h)).2).take (number b ((n : Int) - h)).1, 0, 0⟩, (number b ((n : Int) - h)).2 + (number b ((n : Int) - h)).1)
  else
    if (number (b.drop ((number b ((n : Int) - h)).2 + (number b ((n : Int) - h)).1)) (min 259 ((n : Int) - (h + (number b ((n : Int) - h)).1)) - 4)).2 = 0 then none
    else
      if (number (b.drop ((number b ((n : Int) - h)).2 + (number b ((n : Int) - h)).1 + (number (b.drop ((number b ((n : Int) - h)).2 + (number b ((n : Int) - h)).1)) (min 259 ((n : Int) - (h + (number b ((n : Int) - h)).1)) - 4)).2)) (min 32768 ((h : Int) + (number b ((n : Int) - h)).1))).2 = 0 ∨ (number (b.drop ((number b ((n : Int) - h)).2 + (number b ((n : Int) - h)).1 + (number (b.drop ((number b ((n : Int) - h)).2 + (number b ((n : Int) - h)).1)) (min 259 ((n : Int) - (h + (number b ((n : Int) - h)).1)) - 4)).2)) (min 32768 ((h : Int) + (number b ((n : Int) - h)).1))).1 = 0 then none
      else some (⟨(b.drop (number b ((n : Int) - h)).2).take (number b ((n : Int) - h)).1,
        ((number (b.drop ((number b ((n : Int) - h)).2 + (number b ((n : Int) - h)).1 + (number (b.drop ((number b ((n : Int) - h)).2 + (number b ((n : Int) - h)).1)) (min 259 ((n : Int) - (h + (number b ((n : Int) - h)).1)) - 4)).2)) (min 32768 ((h : Int) + (number b ((n : Int) - h)).1))).1 : Int),
        ((number (b.drop ((number b ((n : Int) - h)).2 + (number b ((n : Int) - h)).1)) (min 259 ((n : Int) - (h + (number b ((n : Int) - h)).1)) - 4)).1 : Int) + 4⟩,
        (number b ((n : Int) - h)).2 + (number b ((n : Int) - h)).1 + (number (b.drop ((number b ((n : Int) - h)).2 + (number b ((n : Int) - h)).1)) (min 259 ((n : Int) - (h + (number b ((n : Int) - h)).1)) - 4)).2 + (number (b.drop ((number b ((n : Int) - h)).2 + (number b ((n : Int) - h)).1 + (number (b.drop ((number b ((n : Int) - h)).2 + (number b ((n : Int) - h)).1)) (min 259 ((n : Int) - (h + (number b ((n : Int) - h)).1)) - 4)).2)) (min 32768 ((h : Int) + (number b ((n : Int) - h)).1))).2)
theorem number_none (b : List (BitVec 8)) (most : Int) (h : (number b most).2 = 0) : number b most = (0, 0) := by
  unfold number at h ⊢
  split at h
  · rename_i hc; rw [if_pos hc]
  · rename_i hc
    simp only [not_or, Decidable.not_not] at hc
    rcases get_cases b with ⟨u, m, g1, g2, _⟩ | ⟨g1, _⟩ | ⟨g1, _⟩
    · rw [g1] at h; simp at h; omega
    · rw [g1] at hc; simp at hc
    · rw [g1] at hc; simp at hc
theorem number_some (b : List (BitVec 8)) (most : Int) (h : (number b most).2 ≠ 0) : ∃ u rest, number b most = (u, (put u).length) ∧ b = put u ++ rest ∧ (u : Int) ≤ most ∧ u < 9223372036854775808 := by
  unfold number at h ⊢
  split at h
  · simp at h
  · rename_i hc
    rw [if_neg hc]
    simp only [not_or, Decidable.not_not] at hc
    rcases get_cases b with ⟨u, m, g1, g2, _, g4, g5, g6⟩ | ⟨g1, _⟩ | ⟨g1, _⟩
    · rw [g1] at hc ⊢
      refine ⟨u, b.drop m, ?_, ?_, by simp at hc; omega, g6⟩
      · rw [g5, List.length_take, Nat.min_eq_left g4]
      · rw [g5, List.take_append_drop]
    · rw [g1] at hc; simp at hc
    · rw [g1] at hc; simp at hc
theorem number_put (u : Nat) (rest : List (BitVec 8)) (most : Int) (h : (u : Int) ≤ most) (hu : u < 9223372036854775808) : number (put u ++ rest) most = (u, (put u).length) := by
  unfold number
  rw [get_put u rest hu, if_neg (by simp; omega)]
theorem number_cases (b : List (BitVec 8)) (most : Int) : number b most = (0, 0) ∨ ∃ u rest, number b most = (u, (put u).length) ∧ b = put u ++ rest ∧ (u : Int) ≤ most ∧ u < 9223372036854775808 := by
  by_cases h : (number b most).2 = 0
  · exact .inl (number_none b most h)
  · exact .inr (number_some b most h)
theorem put_pos (u : Nat) : 1 ≤ (put u).length := by
  rw [put, putF]; split <;> simp
/-- The token stands rightly where h bytes of a text of n stand. -/
def Ok (t : Tok) (h n : Nat) : Prop :=
  (t.bare ∧ h + t.lit.length = n) ∨ (h + t.lit.length < n ∧ 4 ≤ t.len ∧ t.len ≤ 259 ∧ (h : Int) + t.lit.length + t.len ≤ n ∧ 1 ≤ t.dist ∧ t.dist ≤ 32768 ∧ t.dist ≤ (h : Int) + t.lit.length)
theorem putTok_bare (t : Tok) (h : t.bare) : putTok t = put t.lit.length ++ t.lit := by unfold putTok; rw [if_pos h]; simp
theorem putTok_match (t : Tok) (h : ¬ t.bare) : putTok t = put t.lit.length ++ (t.lit ++ (put (t.len - 4).toNat ++ put t.dist.toNat)) := by unfold putTok; rw [if_neg h]
theorem not_bare (t : Tok) (h : 4 ≤ t.len) : ¬ t.bare := fun e => by have := e.2; omega
theorem putTok_pos (t : Tok) : 1 ≤ (putTok t).length := by
  unfold putTok; rw [List.length_append]; have := put_pos t.lit.length; omega
/-- What is read is a right token, and its bytes stand there. -/
theorem first_some (b : List (BitVec 8)) (h n : Nat) (t : Tok) (s : Nat) (hn : n ≤ 65536) (e : first b h n = some (t, s)) : Ok t h n ∧ s = (putTok t).length ∧ ∃ rest, b = putTok t ++ rest := by
  unfold first at e
  rcases number_cases b ((n : Int) - h) with h0 | ⟨c, r1, h0, hb, hc, hc2⟩
  · rw [h0] at e; simp at e
  · rw [h0] at e
    have hl : b.length = (put c).length + r1.length := by rw [hb, List.length_append]
    have hp := put_pos c
    have hd : b.drop (put c).length = r1 := by rw [hb, List.drop_left]
    simp only at e
    by_cases h1 : c ≤ r1.length
    · rw [if_neg (by omega), hd] at e
      obtain ⟨lit, r2, rfl, hlit⟩ : ∃ lit r2, r1 = lit ++ r2 ∧ lit.length = c := ⟨r1.take c, r1.drop c, by simp, by simp; omega⟩
      have ht : (lit ++ r2).take c = lit := by rw [← hlit, List.take_left]
      have hd2 : b.drop ((put c).length + c) = r2 := by rw [← List.drop_drop, hd, ← hlit, List.drop_left]
      rw [ht, hd2] at e
      by_cases h2 : h + c = n
      · rw [if_pos h2] at e
        simp only [Option.some.injEq, Prod.mk.injEq] at e
        obtain ⟨rfl, rfl⟩ := e
        have hbare : Tok.bare ⟨lit, 0, 0⟩ := ⟨rfl, rfl⟩
        rw [putTok_bare _ hbare]
        exact ⟨.inl ⟨hbare, by simp only [hlit]; exact h2⟩, by simp [hlit], r2, by rw [hb]; simp [hlit]⟩
      · rw [if_neg h2] at e
        rcases number_cases r2 (min 259 ((n : Int) - (h + c)) - 4) with h3 | ⟨m, r3, h3, hr2, hm, hm2⟩
        · rw [h3] at e; simp at e
        · rw [h3] at e
          have hp2 := put_pos m
          rw [if_neg (by simp only; omega)] at e
          have hd3 : b.drop ((put c).length + c + (put m).length) = r3 := by rw [← List.drop_drop, hd2, hr2, List.drop_left]
          simp only [hd3] at e
          rcases number_cases r3 (min 32768 ((h : Int) + c)) with h4 | ⟨d, r4, h4, hr3, hdm, hdm2⟩
          · rw [h4] at e; simp at e
          · rw [h4] at e
            have hp3 := put_pos d
            simp only at e
            by_cases h5 : d = 0
            · rw [if_pos (by omega)] at e; simp at e
            · rw [if_neg (by omega)] at e
              simp only [Option.some.injEq, Prod.mk.injEq] at e
              obtain ⟨rfl, rfl⟩ := e
              have hnb : ¬ Tok.bare ⟨lit, (d : Int), (m : Int) + 4⟩ := not_bare _ (by simp only; omega)
              rw [putTok_match _ hnb]
              have e1 : ((m : Int) + 4 - 4).toNat = m := by omega
              have e2 : ((d : Int)).toNat = d := by omega
              simp only [e1, e2]
              refine ⟨.inr ⟨by simp only [hlit]; omega, by simp only; omega, by simp only; omega, by simp only [hlit]; omega, by simp only; omega, by simp only; omega, by simp only [hlit]; omega⟩, by simp [hlit]; omega, r4, ?_⟩
              rw [hb, hr2, hr3]; simp [hlit]
    · rw [if_pos (by omega)] at e; simp at e
/-- A right token's bytes are read as it. -/
theorem first_put (t : Tok) (h n : Nat) (rest : List (BitVec 8)) (hn : n ≤ 65536) (hh : h ≤ n) (ok : Ok t h n) : first (putTok t ++ rest) h n = some (t, (putTok t).length) := by
  have hlit : h + t.lit.length ≤ n := by rcases ok with ⟨_, h1⟩ | ⟨h1, _⟩ <;> omega
  obtain ⟨lit, dist, len⟩ := t
  simp only at hlit
  rcases ok with ⟨hb, h1⟩ | ⟨h1, h2, h3, h4, h5, h6, h7⟩
  · simp only at h1
    rw [putTok_bare _ hb]
    obtain ⟨rfl, rfl⟩ : dist = 0 ∧ len = 0 := hb
    have e1 : number (put lit.length ++ lit ++ rest) ((n : Int) - h) = (lit.length, (put lit.length).length) := by
      rw [List.append_assoc]; exact number_put _ _ _ (by omega) (by omega)
    unfold first
    have hp := put_pos lit.length
    have e2 : (put lit.length ++ lit ++ rest).length - (put lit.length).length = lit.length + rest.length := by simp
    rw [e1]
    simp only
    rw [e2, if_neg (by omega), if_pos h1, List.append_assoc, List.drop_left, List.take_left, List.length_append]
  · simp only at h1 h2 h3 h4 h5 h6 h7
    have hnb : ¬ Tok.bare ⟨lit, dist, len⟩ := not_bare _ h2
    rw [putTok_match _ hnb]
    simp only
    obtain ⟨m, rfl⟩ : ∃ m : Nat, len = (m : Int) + 4 := ⟨(len - 4).toNat, by omega⟩
    obtain ⟨d, rfl⟩ := Int.eq_ofNat_of_zero_le (by omega : 0 ≤ dist)
    have em : ((m : Int) + 4 - 4).toNat = m := by omega
    rw [em, Int.toNat_natCast]
    have e1 : number (put lit.length ++ (lit ++ (put m ++ put d)) ++ rest) ((n : Int) - h) = (lit.length, (put lit.length).length) := by
      rw [List.append_assoc]; exact number_put _ _ _ (by omega) (by omega)
    unfold first
    have hp := put_pos lit.length
    have hp2 := put_pos m
    have hp3 := put_pos d
    have e2 : (put lit.length ++ (lit ++ (put m ++ put d)) ++ rest).length - (put lit.length).length = lit.length + ((put m).length + (put d).length) + rest.length := by simp; omega
    have e3 : (put lit.length ++ (lit ++ (put m ++ put d)) ++ rest).drop ((put lit.length).length + lit.length) = put m ++ (put d ++ rest) := by
      rw [← List.drop_drop, List.append_assoc, List.drop_left, List.append_assoc, List.drop_left, List.append_assoc]
    have e4 : number (put m ++ (put d ++ rest)) (min 259 ((n : Int) - (h + lit.length)) - 4) = (m, (put m).length) := number_put _ _ _ (by omega) (by omega)
    have e5 : (put lit.length ++ (lit ++ (put m ++ put d)) ++ rest).drop ((put lit.length).length + lit.length + (put m).length) = put d ++ rest := by
      rw [← List.drop_drop, e3, List.drop_left]
    have e6 : number (put d ++ rest) (min 32768 ((h : Int) + lit.length)) = (d, (put d).length) := number_put _ _ _ (by omega) (by omega)
    rw [e1]
    simp only
    rw [e2, if_neg (by omega), if_neg (by omega), e3, e4]
    simp only
    rw [if_neg (by omega), e5, e6]
    simp only
    rw [if_neg (by omega)]
    have e7 : (put lit.length ++ (lit ++ (put m ++ put d)) ++ rest).drop (put lit.length).length = lit ++ (put m ++ put d) ++ rest := by rw [List.append_assoc, List.drop_left]
    rw [e7, List.append_assoc, List.take_left]
    congr 2
    simp; omega
theorem ok_adv (t : Tok) (h n : Nat) (ok : Ok t h n) (hn : h < n) : h < h + t.lit.length + t.len.toNat ∧ h + t.lit.length + t.len.toNat ≤ n := by
  rcases ok with ⟨⟨_, hb⟩, h1⟩ | ⟨h1, h2, h3, h4, _⟩ <;> omega
theorem first_adv {b : List (BitVec 8)} {h n : Nat} {t : Tok} {s : Nat} (hn : h < n ∧ n ≤ 65536) (e : first b h n = some (t, s)) : h < h + t.lit.length + t.len.toNat ∧ h + t.lit.length + t.len.toNat ≤ n :=
  ok_adv t h n (first_some b h n t s hn.2 e).1 hn.1
/-- The tokens that are read, and the error, by at most so many tokens. -/
def readF : Nat → List (BitVec 8) → Nat → Nat → List Tok × Nat
  | 0, b, _, _ => ([], if b = [] then 0 else 30)
  | f + 1, b, h, n =>
    if h < n ∧ n ≤ 65536 then
      match first b h n with
      | none => ([], 30)
      | some (t, s) => (t :: (readF f (b.drop s) (h + t.lit.length + t.len.toNat) n).1, (readF f (b.drop s) (h + t.lit.length + t.len.toNat) n).2)
    else ([], if b = [] then 0 else 30)
theorem readF_next (f : Nat) (b : List (BitVec 8)) (h n : Nat) (t : Tok) (s : Nat) (hn : h < n ∧ n ≤ 65536) (hf : first b h n = some (t, s)) :
    readF (f + 1) b h n = (t :: (readF f (b.drop s) (h + t.lit.length + t.len.toNat) n).1, (readF f (b.drop s) (h + t.lit.length + t.len.toNat) n).2) := by
  rw [readF, if_pos hn, hf]
theorem readF_any : ∀ (f g : Nat) (b : List (BitVec 8)) (h n : Nat), n - h < f → n - h < g → readF f b h n = readF g b h n
  | 0, _, _, _, _, h1, _ => absurd h1 (by omega)
  | _ + 1, 0, _, _, _, _, h2 => absurd h2 (by omega)
  | f + 1, g + 1, b, h, n, h1, h2 => by
    by_cases hn : h < n ∧ n ≤ 65536
    · cases hf : first b h n with
      | none => rw [readF, readF, if_pos hn, hf, if_pos hn]
      | some p =>
        obtain ⟨t, s⟩ := p
        have ha := first_adv hn hf
        rw [readF_next f b h n t s hn hf, readF_next g b h n t s hn hf, readF_any f g (b.drop s) _ n (by omega) (by omega)]
    · rw [readF, readF, if_neg hn, if_neg hn]
/-- The tokens that are read, and the error. -/
def read (b : List (BitVec 8)) (h n : Nat) : List Tok × Nat := readF (n - h + 1) b h n
theorem read_end (b : List (BitVec 8)) (h n : Nat) (hn : ¬ h < n) : read b h n = ([], if b = [] then 0 else 30) := by rw [read, readF, if_neg (fun e => hn e.1)]
theorem read_fail (b : List (BitVec 8)) (h n : Nat) (hn : h < n) (hm : n ≤ 65536) (hf : first b h n = none) : read b h n = ([], 30) := by
  rw [read, readF, if_pos ⟨hn, hm⟩, hf]
theorem read_next (b : List (BitVec 8)) (h n : Nat) (t : Tok) (s : Nat) (hn : h < n) (hm : n ≤ 65536) (hf : first b h n = some (t, s)) :
    read b h n = (t :: (read (b.drop s) (h + t.lit.length + t.len.toNat) n).1, (read (b.drop s) (h + t.lit.length + t.len.toNat) n).2) := by
  have ha := first_adv ⟨hn, hm⟩ hf
  have e := readF_any (n - h) (n - (h + t.lit.length + t.len.toNat) + 1) (b.drop s) (h + t.lit.length + t.len.toNat) n (by omega) (by omega)
  have e2 := readF_next (n - h) b h n t s ⟨hn, hm⟩ hf
  rw [e] at e2
  exact e2
/-- A right list, from h bytes of a text on to n. -/
def Good : List Tok → Nat → Nat → Prop
  | [], h, n => h = n
  | t :: r, h, n => h < n ∧ Ok t h n ∧ Good r (h + t.lit.length + t.len.toNat) n
theorem read_good (ts : List Tok) : ∀ (h n : Nat), h ≤ n → n ≤ 65536 → Good ts h n → read (bytesOf ts) h n = (ts, 0) := by
  induction ts with
  | nil => intro h n hh hn hg; simp only [Good] at hg; rw [read_end _ _ _ (by omega)]; simp [bytesOf]
  | cons t r ih =>
    intro h n hh hn hg
    obtain ⟨h1, h2, h3⟩ := hg
    have ha := ok_adv t h n h2 h1
    have hf : first (bytesOf (t :: r)) h n = some (t, (putTok t).length) := by rw [bytesOf_cons]; exact first_put t h n _ hn hh h2
    rw [read_next _ _ _ _ _ h1 hn hf, bytesOf_cons, List.drop_left, ih _ _ (by omega) hn h3]
theorem read_ok (k : Nat) : ∀ (b : List (BitVec 8)) (h n : Nat) (ts : List Tok), n - h ≤ k → h ≤ n → n ≤ 65536 → read b h n = (ts, 0) → Good ts h n ∧ b = bytesOf ts := by
  induction k with
  | zero =>
    intro b h n ts hk hh hn e
    rw [read_end _ _ _ (by omega)] at e
    simp only [Prod.mk.injEq] at e
    obtain ⟨rfl, e2⟩ := e
    split at e2
    · rename_i hb; subst hb; exact ⟨by simp only [Good]; omega, rfl⟩
    · cases e2
  | succ k ih =>
    intro b h n ts hk hh hn e
    by_cases h1 : h < n
    · cases hf : first b h n with
      | none => rw [read_fail _ _ _ h1 hn hf] at e; simp at e
      | some p =>
        obtain ⟨t, s⟩ := p
        rw [read_next _ _ _ _ _ h1 hn hf] at e
        simp only [Prod.mk.injEq] at e
        obtain ⟨rfl, e2⟩ := e
        obtain ⟨h2, rfl, rest, rfl⟩ := first_some b h n t s hn hf
        have ha := ok_adv t h n h2 h1
        rw [List.drop_left] at e2 ⊢
        obtain ⟨g1, g2⟩ := ih rest _ n _ (by omega) (by omega) hn (Prod.ext rfl e2)
        exact ⟨⟨h1, h2, g1⟩, by rw [bytesOf_cons, ← g2]⟩
    · rw [read_end _ _ _ h1] at e
      simp only [Prod.mk.injEq] at e
      obtain ⟨rfl, e2⟩ := e
      split at e2
      · rename_i hb; subst hb; exact ⟨by simp only [Good]; omega, rfl⟩
      · cases e2
theorem read_err (k : Nat) : ∀ (b : List (BitVec 8)) (h n : Nat), n - h ≤ k → n ≤ 65536 → (read b h n).2 = 0 ∨ (read b h n).2 = 30 := by
  induction k with
  | zero =>
    intro b h n hk hn
    rw [read_end _ _ _ (by omega)]
    by_cases hb : b = [] <;> simp [hb]
  | succ k ih =>
    intro b h n hk hn
    by_cases h1 : h < n
    · cases hf : first b h n with
      | none => rw [read_fail _ _ _ h1 hn hf]; simp
      | some p =>
        obtain ⟨t, s⟩ := p
        rw [read_next _ _ _ _ _ h1 hn hf]
        have ha := first_adv ⟨h1, hn⟩ hf
        exact ih _ _ _ (by omega) hn
    · rw [read_end _ _ _ h1]
      by_cases hb : b = [] <;> simp [hb]
theorem good_le (ts : List Tok) : ∀ h n, Good ts h n → h ≤ n := by
  cases ts with
  | nil => intro h n e; simp only [Good] at e; omega
  | cons t r => intro h n e; have := e.1; omega
/-- What is right is measured so. -/
theorem good_measure (ts : List Tok) : ∀ h n, n ≤ 65536 → Good ts h n → measure h ts = (n, 0) := by
  induction ts with
  | nil => intro h n _ e; simp only [Good] at e; subst e; rfl
  | cons t r ih =>
    intro h n hn e
    obtain ⟨h1, h2, h3⟩ := e
    have ha := ok_adv t h n h2 h1
    simp only [measure]
    have hr : right t (h + t.lit.length) r.isEmpty = true := by
      unfold right
      rcases h2 with ⟨hb, h4⟩ | ⟨h4, h5, h6, h7, h8, h9, h10⟩
      · rw [if_pos hb]
        have hr : r = [] := by
          cases r with
          | nil => rfl
          | cons t' r' => have := h3.1; have := hb.2; omega
        subst hr
        simp; omega
      · rw [if_neg (not_bare _ h5)]
        simp; omega
    rw [if_pos hr, if_neg (by omega)]
    exact ih _ _ hn h3
theorem length_expand (ts : List Tok) : ∀ (x : List (BitVec 8)) (n : Nat), Good ts x.length n → (expand x ts).length = n := by
  induction ts with
  | nil => intro x n e; exact e
  | cons t r ih =>
    intro x n e
    have h3 := e.2.2
    rw [← length_grow] at h3
    exact ih _ _ h3
theorem expand_cons (x : List (BitVec 8)) (t : Tok) (r : List Tok) : expand x (t :: r) = expand (grow x t) r := rfl
theorem expand_snoc (x : List (BitVec 8)) (r : List Tok) (t : Tok) : expand x (r ++ [t]) = grow (expand x r) t := by unfold expand; rw [List.foldl_append]; rfl
/-- A byte more, and nothing is read. -/
theorem read_longer (b c : List (BitVec 8)) (h n : Nat) (ts : List Tok) (hh : h ≤ n) (hn : n ≤ 65536) (hc : c ≠ []) (e : read b h n = (ts, 0)) : (read (b ++ c) h n).2 = 30 := by
  obtain ⟨g, rfl⟩ := read_ok _ b h n ts (Nat.le_refl _) hh hn e
  clear e
  induction ts generalizing h with
  | nil => simp only [Good] at g; rw [read_end _ _ _ (by omega)]; simp [bytesOf, hc]
  | cons t r ih =>
    obtain ⟨h1, h2, h3⟩ := g
    have ha := ok_adv t h n h2 h1
    have hf : first (bytesOf (t :: r) ++ c) h n = some (t, (putTok t).length) := by rw [bytesOf_cons, List.append_assoc]; exact first_put t h n _ hn hh h2
    rw [read_next _ _ _ _ _ h1 hn hf, bytesOf_cons, List.append_assoc, List.drop_left]
    exact ih _ (by omega) h3
theorem read_shorter (b c : List (BitVec 8)) (h n : Nat) (ts : List Tok) (hh : h ≤ n) (hn : n ≤ 65536) (hc : c ≠ []) (e : read (b ++ c) h n = (ts, 0)) : (read b h n).2 = 30 := by
  rcases read_err _ b h n (Nat.le_refl _) hn with h1 | h1
  · have := read_longer b c h n (read b h n).1 hh hn hc (Prod.ext rfl h1)
    rw [e] at this; cases this
  · exact h1
theorem put_len_mono_small (u : Nat) (h : u < 128) : (put u).length = 1 := by rw [put_small u h]; rfl
/-- Of a byte come at most 65. -/
theorem good_short (ts : List Tok) : ∀ h n, n ≤ 65536 → Good ts h n → n ≤ h + 65 * (bytesOf ts).length := by
  induction ts with
  | nil => intro h n _ e; simp only [Good] at e; omega
  | cons t r ih =>
    intro h n hn e
    obtain ⟨h1, h2, h3⟩ := e
    have hi := ih _ _ hn h3
    rw [bytesOf_cons, List.length_append]
    have hk : t.lit.length + t.len.toNat ≤ 65 * (putTok t).length := by
      have hp := put_pos t.lit.length
      rcases h2 with ⟨hb, h4⟩ | ⟨h4, h5, h6, h7, h8, h9, h10⟩
      · rw [putTok_bare _ hb, List.length_append]
        have := hb.2; omega
      · rw [putTok_match _ (not_bare _ h5)]
        simp only [List.length_append]
        have hp2 := put_pos t.dist.toNat
        have hp3 := put_pos (t.len - 4).toNat
        by_cases hs : (t.len - 4).toNat < 128
        · omega
        · rw [put_large (t.len - 4).toNat (by omega), List.length_cons]
          have := put_pos ((t.len - 4).toNat / 128)
          omega
    omega
theorem put_inj (u v : Nat) (a b : List (BitVec 8)) (hu : u < 9223372036854775808) (hv : v < 9223372036854775808) (e : put u ++ a = put v ++ b) : u = v ∧ a = b := by
  have h1 := get_put u a hu
  rw [e, get_put v b hv] at h1
  simp only [Prod.mk.injEq, and_true] at h1
  obtain ⟨rfl, _⟩ := h1
  exact ⟨rfl, List.append_cancel_left e⟩
theorem bytesOf_ne (t : Tok) (r : List Tok) : bytesOf (t :: r) ≠ [] := by
  intro e
  have h := congrArg List.length e
  rw [bytesOf_cons, List.length_append, List.length_nil] at h
  have := putTok_pos t
  omega
theorem put_ne (u : Nat) (a b : List (BitVec 8)) : (put u ++ a) ++ b ≠ [] := by
  intro e
  have h := congrArg List.length e
  rw [List.length_append, List.length_append, List.length_nil] at h
  have := put_pos u
  omega
/-- Bytes tell one length alone. -/
theorem good_one (ts : List Tok) : ∀ (ts' : List Tok) (h n n' : Nat), n ≤ 65536 → n' ≤ 65536 → Good ts h n → Good ts' h n' → bytesOf ts = bytesOf ts' → n = n' := by
  induction ts with
  | nil =>
    intro ts' h n n' _ _ g g' e
    cases ts' with
    | nil => simp only [Good] at g g'; omega
    | cons t r => exact absurd e.symm (bytesOf_ne t r)
  | cons t r ih =>
    intro ts' h n n' hn hn' g g' e
    cases ts' with
    | nil => exact absurd e (bytesOf_ne t r)
    | cons t' r' =>
      obtain ⟨h1, h2, h3⟩ := g
      obtain ⟨h1', h2', h3'⟩ := g'
      have ha := ok_adv t h n h2 h1
      have ha' := ok_adv t' h n' h2' h1'
      rw [bytesOf_cons, bytesOf_cons] at e
      unfold putTok at e
      simp only [List.append_assoc] at e
      obtain ⟨e1, e2⟩ := put_inj t.lit.length t'.lit.length _ _ (by omega) (by omega) e
      obtain ⟨e3, e4⟩ := List.append_inj e2 e1
      have tail : ∀ (t : Tok) (r : List Tok) (n : Nat), t.bare → h + t.lit.length = n → Good r (h + t.lit.length + t.len.toNat) n → bytesOf r = [] := by
        intro t r n hb hl hg
        cases r with
        | nil => rfl
        | cons x y => have := hg.1; have := hb.2; omega
      rcases h2 with ⟨hb, h4⟩ | ⟨h4, h5, h6, h7, h8, h9, h10⟩
      · rcases h2' with ⟨hb', h4'⟩ | ⟨h4', h5', h6', h7', h8', h9', h10'⟩
        · omega
        · rw [if_pos hb, if_neg (not_bare _ h5'), tail t r n hb h4 h3] at e4
          exact absurd e4.symm (put_ne _ _ _)
      · rcases h2' with ⟨hb', h4'⟩ | ⟨h4', h5', h6', h7', h8', h9', h10'⟩
        · rw [if_pos hb', if_neg (not_bare _ h5), tail t' r' n' hb' h4' h3'] at e4
          exact absurd e4 (put_ne _ _ _)
        · rw [if_neg (not_bare _ h5), if_neg (not_bare _ h5'), List.append_assoc, List.append_assoc] at e4
          obtain ⟨e5, e6⟩ := put_inj (t.len - 4).toNat (t'.len - 4).toNat _ _ (by omega) (by omega) e4
          obtain ⟨e7, e8⟩ := put_inj t.dist.toNat t'.dist.toNat _ _ (by omega) (by omega) e6
          have : t'.len.toNat = t.len.toNat := by omega
          rw [this, ← e1] at h3'
          exact ih r' _ n n' hn hn' h3 h3' e8
end Go.Proofs.YthdblnfohbldcaaGreat.Lz
