/-
  Short numbers and fixed words, said of lists of bytes.
-/
import Derived.Test.YthdblnfohbldcaaGreatBase
namespace Go.Proofs.YthdblnfohbldcaaGreat.Nums
open Go.Proofs.YthdblnfohbldcaaGreat.Base
def B8 (n : Nat) : BitVec 8 := BitVec.ofNat 8 n
theorem B8_toNat (n : Nat) (h : n < 256) : (B8 n).toNat = n := by unfold B8; rw [BitVec.toNat_ofNat]; omega
theorem B8_val (c : BitVec 8) : B8 c.toNat = c := by unfold B8; simp
/-- A short number, by at most so many digits. -/
def putF : Nat → Nat → List (BitVec 8)
  | 0, _ => []
  | f + 1, v => if v < 128 then [B8 v] else B8 (v % 128 + 128) :: putF f (v / 128)
theorem putF_any : ∀ (f g v : Nat), v < f → v < g → putF f v = putF g v
  | 0, _, _, h, _ => absurd h (by omega)
  | _ + 1, 0, _, _, h => absurd h (by omega)
  | f + 1, g + 1, v, h1, h2 => by
    unfold putF
    by_cases h : v < 128
    · rw [if_pos h, if_pos h]
    · rw [if_neg h, if_neg h, putF_any f g (v / 128) (by omega) (by omega)]
/-- A short number. -/
def put (v : Nat) : List (BitVec 8) := putF (v + 1) v
theorem put_small (v : Nat) (h : v < 128) : put v = [B8 v] := by
  unfold put putF
  rw [if_pos h]
theorem put_large (v : Nat) (h : 128 ≤ v) : put v = B8 (v % 128 + 128) :: put (v / 128) := by
  unfold put
  rw [show putF (v + 1) v = B8 (v % 128 + 128) :: putF v (v / 128) by unfold putF; rw [if_neg (by omega)]; cases v <;> rfl, putF_any v (v / 128 + 1) (v / 128) (by omega) (by omega)]
theorem put_length (n : Nat) : ∀ v, v < 128 ^ (n + 1) → 1 ≤ (put v).length ∧ (put v).length ≤ n + 1 := by
  induction n with
  | zero => intro v h; rw [put_small v (by simpa using h)]; simp
  | succ n ih =>
    intro v h
    by_cases hv : v < 128
    · rw [put_small v hv]; simp
    · rw [put_large v (by omega)]
      have := ih (v / 128) (by rw [Nat.div_lt_iff_lt_mul (by omega)]; rw [Nat.pow_succ] at h; exact h)
      simp only [List.length_cons]; omega
theorem put_nine (v : Nat) (h : v < 9223372036854775808) : 1 ≤ (put v).length ∧ (put v).length ≤ 9 := put_length 8 v (by omega)
/-- The number at the head: its value, how many bytes, the error. -/
def getFrom : Nat → Nat → List (BitVec 8) → Nat × Nat × Nat
  | i, _, [] => if 9 ≤ i then (0, 0, 21) else (0, 0, 20)
  | i, v, c :: cs => if 9 ≤ i then (0, 0, 21) else if c.toNat < 128 then (if c.toNat = 0 ∧ 0 < i then (0, 0, 21) else (v + c.toNat * 128 ^ i, i + 1, 0)) else getFrom (i + 1) (v + c.toNat % 128 * 128 ^ i) cs
def get (bs : List (BitVec 8)) : Nat × Nat × Nat := getFrom 0 0 bs
theorem lt_pow (i v d : Nat) (hv : v < 128 ^ i) (hd : d < 128) : v + d * 128 ^ i < 128 ^ (i + 1) := by
  rw [Nat.pow_succ]
  have : (d + 1) * 128 ^ i ≤ 128 * 128 ^ i := Nat.mul_le_mul_right _ (by omega)
  rw [Nat.add_mul] at this
  omega
/-- What is written is read, whatever stands behind it. -/
theorem getFrom_put (u : Nat) : ∀ (i v : Nat) (rest : List (BitVec 8)), (0 < i → 0 < u) → v < 128 ^ i → v + u * 128 ^ i < 9223372036854775808 →
    getFrom i v (put u ++ rest) = (v + u * 128 ^ i, i + (put u).length, 0) := by
  induction u using Nat.strongRecOn with
  | _ u ih =>
    intro i v rest h0 hv hm
    have hi : u = 0 ∨ ¬ 9 ≤ i := by
      by_cases hu : u = 0
      · exact .inl hu
      · right; intro h9
        have h1 : 128 ^ 9 ≤ 128 ^ i := Nat.pow_le_pow_right (by omega) h9
        have h2 : 1 * 128 ^ i ≤ u * 128 ^ i := Nat.mul_le_mul_right _ (by omega)
        have h3 : (128 : Nat) ^ 9 = 9223372036854775808 := by decide
        omega
    have hi9 : ¬ 9 ≤ i := by
      rcases hi with hu | h
      · intro h9; have := h0 (by omega); omega
      · exact h
    by_cases hu : u < 128
    · rw [put_small u hu]
      have e := B8_toNat u (by omega)
      simp only [List.cons_append, List.nil_append, getFrom, if_neg hi9, e, if_pos hu, List.length_cons, List.length_nil]
      rw [if_neg (by intro h; have := h0 h.2; omega)]
    · rw [put_large u (by omega)]
      have e := B8_toNat (u % 128 + 128) (by omega)
      have e2 : (u % 128 + 128) % 128 = u % 128 := by omega
      simp only [List.cons_append, getFrom, if_neg hi9, e, List.length_cons]
      rw [if_neg (by omega), e2]
      have key : v + u % 128 * 128 ^ i + u / 128 * 128 ^ (i + 1) = v + u * 128 ^ i := by
        have hu' : u = u % 128 + 128 * (u / 128) := by omega
        generalize u % 128 = r at hu' ⊢
        generalize u / 128 = q at hu' ⊢
        subst hu'
        rw [Nat.pow_succ, Nat.add_mul, Nat.mul_comm 128 q, Nat.mul_assoc, Nat.mul_comm (128 ^ i) 128]
        omega
      rw [ih (u / 128) (by omega) (i + 1) (v + u % 128 * 128 ^ i) rest (fun _ => by omega) (lt_pow i v _ hv (by omega)) (by rw [key]; exact hm), key]
      congr 2; omega
theorem get_put (u : Nat) (rest : List (BitVec 8)) (h : u < 9223372036854775808) : get (put u ++ rest) = (u, (put u).length, 0) := by
  have := getFrom_put u 0 0 rest (by omega) (by simp) (by simpa using h)
  simpa [get] using this
/-- Each answer of the reading, from the place i on. -/
theorem getFrom_cases (bs : List (BitVec 8)) : ∀ (i v : Nat), v < 128 ^ i →
    (∃ u m, getFrom i v bs = (v + u * 128 ^ i, i + m, 0) ∧ 1 ≤ m ∧ i + m ≤ 9 ∧ m ≤ bs.length ∧ put u = bs.take m ∧ u < 128 ^ m ∧ (0 < i → 0 < u)) ∨
    (getFrom i v bs = (0, 0, 20) ∧ i + bs.length ≤ 8 ∧ ∃ m k, getFrom i v (bs ++ [B8 1]) = (m, i + bs.length + 1, k) ∧ k = 0) ∨
    (getFrom i v bs = (0, 0, 21) ∧ getFrom i v (bs ++ [B8 1]) = (0, 0, 21)) := by
  induction bs with
  | nil =>
    intro i v hv
    have e := B8_toNat 1 (by omega)
    by_cases h9 : 9 ≤ i
    · right; right
      simp [getFrom, h9]
    · right; left
      refine ⟨by simp [getFrom, h9], by simp; omega, v + 1 * 128 ^ i, 0, ?_, rfl⟩
      simp [getFrom, h9, e]
  | cons c cs ih =>
    intro i v hv
    have hc := lt8 c
    by_cases h9 : 9 ≤ i
    · right; right
      simp [getFrom, h9]
    · by_cases h1 : c.toNat < 128
      · by_cases h0 : c.toNat = 0 ∧ 0 < i
        · right; right
          simp [getFrom, h9, h0]
        · left
          refine ⟨c.toNat, 1, by simp only [getFrom, if_neg h9, if_pos h1, if_neg h0], by omega, by omega, by simp, ?_, by omega, fun hi => by omega⟩
          rw [put_small _ h1, B8_val]; simp
      · have hlt := lt_pow i v (c.toNat % 128) hv (by omega)
        have e1 : getFrom i v (c :: cs) = getFrom (i + 1) (v + c.toNat % 128 * 128 ^ i) cs := by simp only [getFrom, if_neg h9, if_neg h1]
        have e2 : getFrom i v (c :: cs ++ [B8 1]) = getFrom (i + 1) (v + c.toNat % 128 * 128 ^ i) (cs ++ [B8 1]) := by
          rw [List.cons_append]; simp only [getFrom, if_neg h9, if_neg h1]
        rw [e1, e2]
        rcases ih (i + 1) _ hlt with ⟨u, m, g1, g2, g3, g4, g5, g6, g7⟩ | ⟨g1, g2, m, k, g3, g4⟩ | ⟨g1, g2⟩
        · left
          refine ⟨c.toNat % 128 + 128 * u, m + 1, ?_, by omega, by omega, by simp; omega, ?_, ?_, fun _ => by have := g7 (by omega); omega⟩
          · rw [g1]
            have : v + c.toNat % 128 * 128 ^ i + u * 128 ^ (i + 1) = v + (c.toNat % 128 + 128 * u) * 128 ^ i := by
              rw [Nat.pow_succ, Nat.add_mul, Nat.mul_comm 128 u, Nat.mul_assoc, Nat.mul_comm (128 ^ i) 128]; omega
            rw [this]; congr 2; omega
          · have hu := g7 (by omega)
            rw [put_large _ (by omega)]
            have a1 : (c.toNat % 128 + 128 * u) % 128 + 128 = c.toNat := by omega
            have a2 : (c.toNat % 128 + 128 * u) / 128 = u := by omega
            rw [a1, a2, g5, B8_val]; simp
          · rw [Nat.pow_succ]; omega
        · right; left
          refine ⟨g1, by simp; omega, m, k, ?_, g4⟩
          rw [g3]; congr 2; simp; omega
        · right; right
          exact ⟨g1, g2⟩
theorem pow_nine (m : Nat) (h : m ≤ 9) : 128 ^ m ≤ 9223372036854775808 := by
  have := Nat.pow_le_pow_right (n := 128) (by omega) h
  have e : (128 : Nat) ^ 9 = 9223372036854775808 := by decide
  omega
theorem get_cases (bs : List (BitVec 8)) :
    (∃ u m, get bs = (u, m, 0) ∧ 1 ≤ m ∧ m ≤ 9 ∧ m ≤ bs.length ∧ put u = bs.take m ∧ u < 9223372036854775808) ∨
    (get bs = (0, 0, 20) ∧ bs.length ≤ 8 ∧ ∃ m, get (bs ++ [B8 1]) = (m, bs.length + 1, 0)) ∨
    (get bs = (0, 0, 21) ∧ get (bs ++ [B8 1]) = (0, 0, 21)) := by
  rcases getFrom_cases bs 0 0 (by simp) with ⟨u, m, g1, g2, g3, g4, g5, g6, _⟩ | ⟨g1, g2, m, k, g3, g4⟩ | ⟨g1, g2⟩
  · left
    refine ⟨u, m, by simpa [get] using g1, g2, by omega, g4, g5, ?_⟩
    have := pow_nine m (by omega)
    omega
  · right; left
    subst g4
    exact ⟨g1, by omega, m, by simpa [get] using g3⟩
  · right; right
    exact ⟨g1, g2⟩
/-- A fixed word. -/
def fixed (v n : Nat) : List (BitVec 8) := (List.range n).map fun i => B8 (v / 256 ^ i)
def wordFrom : Nat → List (BitVec 8) → Nat
  | _, [] => 0
  | i, c :: cs => c.toNat * 256 ^ i + wordFrom (i + 1) cs
/-- The number whose bytes are these, of more than 8 the first 8. -/
def word (bs : List (BitVec 8)) : Nat := wordFrom 0 (bs.take 8)
theorem wordFrom_snoc (bs : List (BitVec 8)) (c : BitVec 8) : ∀ i, wordFrom i (bs ++ [c]) = wordFrom i bs + c.toNat * 256 ^ (i + bs.length) := by
  induction bs with
  | nil => intro i; simp [wordFrom]
  | cons x xs ih => intro i; simp only [List.cons_append, wordFrom, ih, List.length_cons]; rw [show i + 1 + xs.length = i + (xs.length + 1) by omega]; omega
theorem wordFrom_lt (bs : List (BitVec 8)) : ∀ i, wordFrom i bs + 256 ^ i ≤ 256 ^ (i + bs.length) := by
  induction bs with
  | nil => intro i; simp [wordFrom]
  | cons x xs ih =>
    intro i
    have h := ih (i + 1)
    have hx := lt8 x
    simp only [wordFrom, List.length_cons]
    rw [show i + (xs.length + 1) = i + 1 + xs.length by omega]
    have : (x.toNat + 1) * 256 ^ i ≤ 256 * 256 ^ i := Nat.mul_le_mul_right _ (by omega)
    rw [Nat.pow_succ, Nat.mul_comm (256 ^ i) 256] at h
    rw [Nat.add_mul] at this
    omega
theorem word_lt (bs : List (BitVec 8)) : word bs < 18446744073709551616 := by
  have h := wordFrom_lt (bs.take 8) 0
  have h2 : (bs.take 8).length ≤ 8 := by rw [List.length_take]; omega
  have h3 := Nat.pow_le_pow_right (n := 256) (by omega) h2
  have e : (256 : Nat) ^ 8 = 18446744073709551616 := by decide
  unfold word
  simp only [Nat.pow_zero, Nat.zero_add] at h
  omega
theorem length_fixed (v n : Nat) : (fixed v n).length = n := by simp [fixed]
theorem fixed_succ (v n : Nat) : fixed v (n + 1) = fixed v n ++ [B8 (v / 256 ^ n)] := by
  simp [fixed, List.range_succ]
theorem fixed_word (v : Nat) : ∀ n, wordFrom 0 (fixed v n) = v % 256 ^ n := by
  intro n
  induction n with
  | zero => simp [fixed, wordFrom, Nat.mod_one]
  | succ n ih =>
    rw [fixed_succ, wordFrom_snoc, ih, length_fixed, Nat.zero_add]
    have e : (B8 (v / 256 ^ n)).toNat = v / 256 ^ n % 256 := by unfold B8; rw [BitVec.toNat_ofNat]
    rw [e, Nat.pow_succ, Nat.mod_mul, Nat.mul_comm (256 ^ n)]
theorem word_fixed (v : Nat) (n : Nat) (h : n ≤ 8) : word (fixed v n) = v % 256 ^ n := by
  unfold word; rw [List.take_of_length_le (by rw [length_fixed]; exact h), fixed_word]
theorem fixed_cons (c v n : Nat) (hc : c < 256) : fixed (c + 256 * v) (n + 1) = B8 c :: fixed v n := by
  unfold fixed
  rw [List.range_succ_eq_map, List.map_cons, List.map_map]
  congr 1
  · unfold B8; apply BitVec.eq_of_toNat_eq; simp [BitVec.toNat_ofNat]
  · apply List.map_congr_left
    intro i _
    simp only [Function.comp, Nat.succ_eq_add_one]
    rw [Nat.pow_succ', ← Nat.div_div_eq_div_mul]
    rw [show (c + 256 * v) / 256 = v by omega]
theorem wordFrom_scale (bs : List (BitVec 8)) : ∀ i, wordFrom (i + 1) bs = 256 * wordFrom i bs := by
  induction bs with
  | nil => intro i; rfl
  | cons x xs ih => intro i; simp only [wordFrom, ih (i + 1), Nat.pow_succ]; rw [Nat.mul_add, ← Nat.mul_assoc, Nat.mul_comm _ 256]
theorem fixed_back (bs : List (BitVec 8)) : fixed (wordFrom 0 bs) bs.length = bs := by
  induction bs with
  | nil => rfl
  | cons x xs ih =>
    simp only [wordFrom, Nat.pow_zero, Nat.mul_one, List.length_cons]
    rw [wordFrom_scale xs 0, fixed_cons _ _ _ (lt8 x), ih, B8_val]
theorem fixed_word_back (bs : List (BitVec 8)) (h : bs.length ≤ 8) : fixed (word bs) bs.length = bs := by
  unfold word; rw [List.take_of_length_le h, fixed_back]
end Go.Proofs.YthdblnfohbldcaaGreat.Nums
