/-
  What a filter's bits are: of which keys each one comes.
-/
import Derived.Test.YtmndjgmlndpgaaaDoorFiEach
import Derived.Test.YtmndjgmlndpgaaaDoorFiUnion
namespace Go.Proofs.YtmndjgmlndpgaaaDoor.Filt
open Go.Proofs.YtmndjgmlndpgaaaDoor.Base
set_option linter.unusedVariables false
theorem bitOn_lsb (bs : List (BitVec 8)) (j : Nat) : bitOn bs j = (bs.getD (j / 8) 0).getLsbD (j % 8) := by
  unfold bitOn
  rw [BitVec.getLsbD, Nat.testBit_eq_decide_div_mod_eq]
theorem one_lsb (k m : Nat) (hk : k < 8) (hm : m < 8) : (BitVec.ofNat 8 (2 ^ k)).getLsbD m = decide (k = m) := by
  have h : ∀ k m : Fin 8, (BitVec.ofNat 8 (2 ^ k.val)).getLsbD m.val = decide (k.val = m.val) := by decide +kernel
  exact h ⟨k, hk⟩ ⟨m, hm⟩
theorem bitOn_setOn (bs : List (BitVec 8)) (i j : Nat) (hi : i / 8 < bs.length) : bitOn (setOn bs i) j = (bitOn bs j || decide (i = j)) := by
  rw [bitOn_lsb, bitOn_lsb]
  unfold setOn
  by_cases h : i / 8 = j / 8
  · have hj : j / 8 < bs.length := by omega
    rw [← h, List.getD_eq_getElem?_getD, List.getElem?_set, if_pos rfl, if_pos hi, Option.getD_some, BitVec.getLsbD_or, one_lsb _ _ (Nat.mod_lt _ (by omega)) (Nat.mod_lt _ (by omega))]
    congr 1
    by_cases e : i = j
    · subst e; simp
    · rw [decide_eq_false e, decide_eq_false (by omega)]
  · rw [List.getD_eq_getElem?_getD, List.getElem?_set, if_neg h, ← List.getD_eq_getElem?_getD, decide_eq_false (by intro e; subst e; exact h rfl), Bool.or_false]
theorem bits_ext {xs ys : List (BitVec 8)} (hl : xs.length = ys.length) (h : ∀ j, j < 8 * xs.length → bitOn xs j = bitOn ys j) : xs = ys := by
  apply List.ext_getElem hl
  intro i h1 h2
  apply BitVec.eq_of_getLsbD_eq
  intro k hk
  have := h (8 * i + k) (by omega)
  rw [bitOn_lsb, bitOn_lsb, show (8 * i + k) / 8 = i by omega, show (8 * i + k) % 8 = k by omega] at this
  rw [List.getD_eq_getElem?_getD, List.getD_eq_getElem?_getD, List.getElem?_eq_getElem h1, List.getElem?_eq_getElem h2] at this
  exact this
/-- Is j one of the key's bits? -/
def hits (s : ByteArray) (m H j : Nat) : Bool := (List.range H).any fun i => decide (posAt s m i = j)
theorem bitOn_setTo (s : ByteArray) (bs : List (BitVec 8)) (hp : 0 < bs.length) (H j : Nat) : bitOn (setTo s bs H) j = (bitOn bs j || hits s (8 * bs.length) H j) := by
  induction H with
  | zero => unfold setTo hits; simp
  | succ H ih =>
    unfold setTo
    have h1 : posAt s (8 * bs.length) H < 8 * bs.length := posAt_lt s _ H (by omega)
    rw [bitOn_setOn _ _ _ (by rw [setTo_len]; omega), ih]
    unfold hits
    rw [List.range_succ, List.any_append, Bool.or_assoc]
    simp
/-- What Build sets: the bits of all keys. -/
def laidBits (ss : List ByteArray) (H : Nat) (bs : List (BitVec 8)) : List (BitVec 8) := ss.foldl (fun b s => setTo s b H) bs
theorem laidBits_len (ss : List ByteArray) (H : Nat) (bs : List (BitVec 8)) : (laidBits ss H bs).length = bs.length := by
  unfold laidBits
  induction ss generalizing bs with
  | nil => rfl
  | cons s ss ih => rw [List.foldl_cons, ih, setTo_len]
theorem bitOn_laid (ss : List ByteArray) (H : Nat) (bs : List (BitVec 8)) (hp : 0 < bs.length) (j : Nat) : bitOn (laidBits ss H bs) j = (bitOn bs j || ss.any fun s => hits s (8 * bs.length) H j) := by
  unfold laidBits
  induction ss generalizing bs with
  | nil => simp
  | cons s ss ih =>
    rw [List.foldl_cons, ih _ (by rw [setTo_len]; exact hp), setTo_len, bitOn_setTo s bs hp, List.any_cons, Bool.or_assoc]
theorem laidBits_take (ss : List ByteArray) (H : Nat) (bs : List (BitVec 8)) (k : Nat) (hk : k < ss.length) : laidBits (ss.take (k + 1)) H bs = setTo (ss.getD k ⟨#[]⟩) (laidBits (ss.take k) H bs) H := by
  unfold laidBits
  rw [List.take_succ_eq_append_getElem hk, List.foldl_append, List.foldl_cons, List.foldl_nil, List.getD_eq_getElem?_getD, List.getElem?_eq_getElem hk]
  rfl
theorem hits_self (s : ByteArray) (m H i : Nat) (h : i < H) : hits s m H (posAt s m i) = true := by
  unfold hits
  rw [List.any_eq_true]
  exact ⟨i, List.mem_range.2 h, by simp⟩
/-- No key that was set is denied. -/
theorem laid_has (ss : List ByteArray) (H : Nat) (bs : List (BitVec 8)) (hp : 0 < bs.length) (s : ByteArray) (hs : s ∈ ss) : hasTo (laidBits ss H bs) s H = true := by
  unfold hasTo
  rw [List.all_eq_true]
  intro i hi
  rw [laidBits_len, bitOn_laid ss H bs hp]
  have : (ss.any fun s' => hits s' (8 * bs.length) H (posAt s (8 * bs.length) i)) = true := by
    rw [List.any_eq_true]
    exact ⟨s, hs, hits_self s _ H i (List.mem_range.1 hi)⟩
  rw [this, Bool.or_true]
/-- The order of keys changes nothing. -/
theorem laid_back (ss : List ByteArray) (H n : Nat) (hn : 0 < n) : laidBits ss.reverse H (List.replicate n 0) = laidBits ss H (List.replicate n 0) := by
  apply bits_ext
  · rw [laidBits_len, laidBits_len]
  · intro j hj
    rw [bitOn_laid _ _ _ (by simp; exact hn), bitOn_laid _ _ _ (by simp; exact hn), List.any_reverse]
theorem bitOn_or (xs ys : List (BitVec 8)) (h : xs.length = ys.length) (j : Nat) (hj : j < 8 * xs.length) : bitOn (orZip xs ys) j = (bitOn xs j || bitOn ys j) := by
  have h1 : j / 8 < xs.length := by omega
  have h2 : j / 8 < ys.length := by omega
  rw [bitOn_lsb, bitOn_lsb, bitOn_lsb, ← BitVec.getLsbD_or]
  unfold orZip
  rw [List.getD_eq_getElem?_getD, List.getElem?_zipWith, List.getElem?_eq_getElem h1, List.getElem?_eq_getElem h2, List.getD_eq_getElem?_getD, List.getElem?_eq_getElem h1, List.getD_eq_getElem?_getD, List.getElem?_eq_getElem h2]
  rfl
theorem or_has_left (xs ys : List (BitVec 8)) (h : xs.length = ys.length) (hp : 0 < xs.length) (s : ByteArray) (H : Nat) (hx : hasTo xs s H = true) : hasTo (orZip xs ys) s H = true := by
  unfold hasTo at *
  rw [orZip_len xs ys h]
  rw [List.all_eq_true] at *
  intro i hi
  rw [bitOn_or xs ys h _ (posAt_lt s _ i (by omega)), hx i hi, Bool.true_or]
theorem orZip_comm (xs ys : List (BitVec 8)) (h : xs.length = ys.length) : orZip xs ys = orZip ys xs := by
  apply bits_ext
  · rw [orZip_len _ _ h, orZip_len _ _ h.symm, h]
  · intro j hj
    rw [orZip_len _ _ h] at hj
    rw [bitOn_or xs ys h j hj, bitOn_or ys xs h.symm j (by omega), Bool.or_comm]
theorem orZip_self (xs : List (BitVec 8)) : orZip xs xs = xs := by
  apply bits_ext (orZip_len _ _ rfl)
  intro j hj
  rw [orZip_len _ _ rfl] at hj
  rw [bitOn_or xs xs rfl j hj, Bool.or_self]
/-- How many bits of a byte are set, the first k of them; of bytes. -/
def ones8 (x : BitVec 8) : Nat → Nat
  | 0 => 0
  | k + 1 => ones8 x k + x.toNat / 2 ^ k % 2
def onesL (bs : List (BitVec 8)) : Nat := (bs.map fun x => ones8 x 8).sum
theorem ones8_le (x : BitVec 8) (k : Nat) : ones8 x k ≤ k := by
  induction k with
  | zero => exact Nat.le_refl _
  | succ k ih => unfold ones8; omega
theorem ones8_set (x : BitVec 8) (k : Nat) (hk : k < 8) : ones8 (x ||| BitVec.ofNat 8 (2 ^ k)) 8 ≤ ones8 x 8 + 1 := by
  have h : ∀ k : Fin 8, ∀ x : BitVec 8, ones8 (x ||| BitVec.ofNat 8 (2 ^ k.val)) 8 ≤ ones8 x 8 + 1 := by decide +kernel
  exact h ⟨k, hk⟩ x
theorem onesL_append (xs ys : List (BitVec 8)) : onesL (xs ++ ys) = onesL xs + onesL ys := by simp [onesL]
theorem onesL_le (bs : List (BitVec 8)) : onesL bs ≤ 8 * bs.length := by
  induction bs with
  | nil => simp [onesL]
  | cons x xs ih =>
    have := ones8_le x 8
    unfold onesL at *
    rw [List.map_cons, List.sum_cons, List.length_cons]
    omega
theorem onesL_setOn (bs : List (BitVec 8)) (i : Nat) (hi : i / 8 < bs.length) : onesL (setOn bs i) ≤ onesL bs + 1 := by
  have e : bs = bs.take (i / 8) ++ bs.getD (i / 8) 0 :: bs.drop (i / 8 + 1) := by
    rw [List.getD_eq_getElem?_getD, List.getElem?_eq_getElem hi]
    simp
  have hl : (bs.take (i / 8)).length = i / 8 := by rw [List.length_take]; omega
  have e2 : setOn bs i = bs.take (i / 8) ++ (bs.getD (i / 8) 0 ||| BitVec.ofNat 8 (2 ^ (i % 8))) :: bs.drop (i / 8 + 1) := by
    unfold setOn
    rw [List.set_eq_take_append_cons_drop, if_pos hi]
  rw [e2]
  conv => rhs; rw [e]
  have := ones8_set (bs.getD (i / 8) 0) (i % 8) (Nat.mod_lt _ (by omega))
  rw [onesL_append, onesL_append]
  unfold onesL
  rw [List.map_cons, List.map_cons, List.sum_cons, List.sum_cons]
  omega
theorem onesL_setTo (s : ByteArray) (bs : List (BitVec 8)) (hp : 0 < bs.length) (H : Nat) : onesL (setTo s bs H) ≤ onesL bs + H := by
  induction H with
  | zero => exact Nat.le_refl _
  | succ H ih =>
    unfold setTo
    have h1 : posAt s (8 * bs.length) H < 8 * bs.length := posAt_lt s _ H (by omega)
    have := onesL_setOn (setTo s bs H) (posAt s (8 * bs.length) H) (by rw [setTo_len]; omega)
    omega
theorem onesL_laid (ss : List ByteArray) (H : Nat) (bs : List (BitVec 8)) (hp : 0 < bs.length) : onesL (laidBits ss H bs) ≤ onesL bs + H * ss.length := by
  unfold laidBits
  induction ss generalizing bs with
  | nil => simp
  | cons s ss ih =>
    rw [List.foldl_cons]
    have h1 := ih (setTo s bs H) (by rw [setTo_len]; exact hp)
    have h2 := onesL_setTo s bs hp H
    rw [List.length_cons, Nat.mul_succ]
    omega
theorem onesL_zero (n : Nat) : onesL (List.replicate n 0) = 0 := by
  unfold onesL
  rw [List.map_replicate, show ones8 0 8 = 0 by decide, List.sum_replicate_nat, Nat.mul_zero]
end Go.Proofs.YtmndjgmlndpgaaaDoor.Filt
