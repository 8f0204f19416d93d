/-
  A place as a text, and back; records that bear their places are sorted strictly.
-/
import Derived.Test.YtjhmnimbncfhoaaDoorSoMath
import Derived.Test.YtjhmnimbncfhoaaDoorSoRow
import Derived.Lib.Atoi
import Derived.Lib.ItoaNum
namespace Go.Proofs.YtjhmnimbncfhoaaDoor.So
open Go.Lib
set_option linter.unusedVariables false
theorem decFrom_append (a b : List UInt8) : ∀ acc, decFrom acc (a ++ b) = (decFrom acc a).bind fun m => decFrom m b := by
  induction a with
  | nil => intro acc; rfl
  | cons x xs ih =>
    intro acc
    simp only [List.cons_append, decFrom]
    cases digitVal x with
    | none => rfl
    | some d => exact ih _
theorem digit_ofNat (d : Nat) (h : d < 10) : digitVal (UInt8.ofNat (48 + d)) = some d := by
  have e : (UInt8.ofNat (48 + d)).toNat = 48 + d := by rw [UInt8.toNat_ofNat']; omega
  unfold digitVal
  rw [e, if_pos (by omega)]
  congr 1
  omega
theorem decFrom_digits : ∀ (k u : Nat), u < 10 ^ k → decFrom 0 (decDigits u) = some u := by
  intro k
  induction k with
  | zero =>
    intro u h
    obtain rfl : u = 0 := by simpa using h
    rw [decDigits, dif_pos (by omega)]
    unfold decFrom
    rw [digit_ofNat 0 (by omega)]
    rfl
  | succ k ih =>
    intro u h
    by_cases h10 : u < 10
    · rw [decDigits, dif_pos h10]
      unfold decFrom
      rw [digit_ofNat u h10]
      show decFrom (0 * 10 + u) [] = some u
      rw [Nat.zero_mul, Nat.zero_add]
      rfl
    · rw [decDigits, dif_neg h10, decFrom_append, ih (u / 10) (by rw [Nat.pow_succ] at h; omega)]
      show decFrom (u / 10) [_] = _
      unfold decFrom
      rw [digit_ofNat (u % 10) (by omega)]
      show decFrom (u / 10 * 10 + u % 10) [] = some u
      rw [show u / 10 * 10 + u % 10 = u by omega]
      rfl
theorem digits_head (u : Nat) : ∃ b r, decDigits u = b :: r ∧ 48 ≤ b.toNat := by
  have key : ∀ (k u : Nat), u < 10 ^ k → ∃ b r, decDigits u = b :: r ∧ 48 ≤ b.toNat := by
    intro k
    induction k with
    | zero =>
      intro u h
      obtain rfl : u = 0 := by simpa using h
      exact ⟨UInt8.ofNat 48, [], by rw [decDigits, dif_pos (by omega)], by decide⟩
    | succ k ih =>
      intro u h
      by_cases h10 : u < 10
      · refine ⟨UInt8.ofNat (48 + u), [], by rw [decDigits, dif_pos h10], ?_⟩
        rw [UInt8.toNat_ofNat']; omega
      · obtain ⟨b, r, e, hb⟩ := ih (u / 10) (by rw [Nat.pow_succ] at h; omega)
        exact ⟨b, r ++ [UInt8.ofNat (48 + u % 10)], by rw [decDigits, dif_neg h10, e]; rfl, hb⟩
  exact key u u (Nat.lt_pow_self (by omega))
theorem atoi_digits (u : Nat) : atoi (decDigits u) = some (u : Int) := by
  have h := decFrom_digits u u (Nat.lt_pow_self (by omega))
  obtain ⟨b, r, e, hb⟩ := digits_head u
  rw [e] at h ⊢
  have h45 : (b == 45) = false := by rw [beq_eq_false_iff_ne]; intro q; subst q; revert hb; decide
  have h43 : (b == 43) = false := by rw [beq_eq_false_iff_ne]; intro q; subst q; revert hb; decide
  simp only [atoi, h45, h43, Bool.false_eq_true, if_false, decNat, List.isEmpty_cons, h]
  rfl
theorem itoa_nat (u : Nat) : itoa (u : Int) = decDigits u := by unfold itoa; rw [if_neg (by omega), Int.toNat_natCast]
/-- The text of a place. -/
def plc (u : Nat) : ByteArray := ⟨(decDigits u).toArray⟩
theorem plc_atoi (u : Nat) : atoi (plc u).data.toList = some (u : Int) := by unfold plc; exact atoi_digits u
theorem plc_size (u : Nat) (h : u < 1000000000000000000) : (plc u).size ≤ 18 := by
  have h1 : (plc u).size = (decDigits u).length := by unfold plc; simp [ByteArray.size]
  rw [h1, decDigits_length]
  by_cases q : nDigits u ≤ 18
  · exact q
  · have h0 := nDigits_pos u
    have key : ∀ k u, nDigits u = k + 1 → 10 ^ k ≤ u ∨ k = 0 := by
      intro k
      induction k with
      | zero => intro u _; exact .inr rfl
      | succ k ih =>
        intro u e
        left
        have h10 : ¬ u < 10 := fun q => by rw [nDigits_small q] at e; omega
        rw [nDigits_big h10] at e
        rcases ih (u / 10) (by omega) with r | r
        · rw [Nat.pow_succ]; omega
        · subst r; omega
    obtain ⟨k, hk⟩ : ∃ k, nDigits u = k + 1 := ⟨nDigits u - 1, by omega⟩
    rcases key k u hk with r | r
    · have : 10 ^ 18 ≤ 10 ^ k := Nat.pow_le_pow_right (by omega) (by omega)
      omega
    · omega
theorem plc_inj {a b : Nat} (h : plc a = plc b) : a = b := by
  have h1 := plc_atoi a
  rw [h, plc_atoi b] at h1
  have := Option.some.inj h1
  omega
/-- The record at the place i, with its place as its value. -/
def numR (r : Rec) (i : Nat) : Rec := ⟨r.p, r.k, plc i⟩
/-- The list, each with its place. -/
def numL : Nat → List Rec → List Rec
  | _, [] => []
  | i, r :: rs => numR r i :: numL (i + 1) rs
theorem length_numL : ∀ (rs : List Rec) (i : Nat), (numL i rs).length = rs.length
  | [], _ => rfl
  | r :: rs, i => by unfold numL; rw [List.length_cons, length_numL rs (i + 1), List.length_cons]
theorem numL_get : ∀ (rs : List Rec) (i j : Nat), j < rs.length → (numL i rs).getD j rec0 = numR (rs.getD j rec0) (i + j)
  | [], _, j, h => by simp at h
  | r :: rs, i, 0, _ => rfl
  | r :: rs, i, j + 1, h => by
    have ih := numL_get rs (i + 1) j (by simpa using h)
    show (numL (i + 1) rs).getD j rec0 = numR (rs.getD j rec0) (i + (j + 1))
    rw [ih, show i + 1 + j = i + (j + 1) by omega]
theorem numL_snoc : ∀ (rs : List Rec) (i : Nat) (r : Rec), numL i (rs ++ [r]) = numL i rs ++ [numR r (i + rs.length)]
  | [], i, r => rfl
  | x :: rs, i, r => by
    show numR x i :: numL (i + 1) (rs ++ [r]) = numR x i :: (numL (i + 1) rs ++ [_])
    rw [numL_snoc rs (i + 1) r, List.length_cons, show i + 1 + rs.length = i + (rs.length + 1) by omega]
/-- Strictly behind. -/
def Rz (a b : Rec) : Prop := cmpR a b < 0 ∨ (cmpR a b = 0 ∧ ∃ i j, a.v = plc i ∧ b.v = plc j ∧ i < j)
theorem cmp_strict {x y z : Rec} (h1 : cmpR x y < 0) (h2 : cmpR y z ≤ 0) : cmpR x z < 0 := by
  have h3 := cmpR_trans x y z (by omega) h2
  by_cases e : cmpR x z = 0
  · have h4 := cmpR_swap x z
    have h5 := cmpR_trans y z x h2 (by omega)
    have h6 := cmpR_swap x y
    omega
  · omega
theorem rz_ins (x : Rec) (k : Nat) (hx : x.v = plc k) (l : List Rec) (h : l.Pairwise Rz) (hl : ∀ y ∈ l, ∃ i, y.v = plc i ∧ i < k) : (ins x l).Pairwise Rz := by
  induction l with
  | nil => unfold ins; exact List.pairwise_cons.2 ⟨(fun y hy => by cases hy), List.Pairwise.nil⟩
  | cons y ys ih =>
    obtain ⟨h1, h2⟩ := List.pairwise_cons.1 h
    unfold ins
    split
    · rename_i hy
      refine List.pairwise_cons.2 ⟨fun z hz => ?_, ih h2 (fun z hz => hl z (List.mem_cons_of_mem _ hz))⟩
      rcases (mem_ins _ _ _).1 hz with rfl | hz
      · have h3 := (le_iff _ _).1 hy
        by_cases e : cmpR y z = 0
        · obtain ⟨i, e1, e2⟩ := hl y (List.mem_cons_self ..)
          exact .inr ⟨e, i, k, e1, hx, e2⟩
        · exact .inl (by omega)
      · exact h1 z hz
    · rename_i hy
      have h3 := (le_not _ _).1 (by simpa using hy)
      have h4 := cmpR_swap y x
      refine List.pairwise_cons.2 ⟨fun z hz => ?_, h⟩
      rcases List.mem_cons.1 hz with rfl | hz
      · exact .inl (by omega)
      · left
        refine cmp_strict (y := y) (by omega) ?_
        rcases h1 z hz with q | q
        · omega
        · omega
theorem rz_isort (rs : List Rec) : (isort (numL 0 rs)).Pairwise Rz ∧ ∀ y ∈ isort (numL 0 rs), ∃ i, i < rs.length ∧ y = numR (rs.getD i rec0) i := by
  have key : ∀ n, n ≤ rs.length → (isort (numL 0 (rs.take n))).Pairwise Rz ∧ ∀ y ∈ isort (numL 0 (rs.take n)), ∃ i, i < n ∧ y = numR (rs.getD i rec0) i := by
    intro n
    induction n with
    | zero => intro _; exact ⟨List.Pairwise.nil, fun y hy => by cases hy⟩
    | succ n ih =>
      intro hn
      obtain ⟨h1, h2⟩ := ih (by omega)
      have e : rs.take (n + 1) = rs.take n ++ [rs.getD n rec0] := by
        rw [List.take_succ_eq_append_getElem (by omega), List.getD_eq_getElem?_getD, List.getElem?_eq_getElem (by omega)]; rfl
      have e2 : isort (numL 0 (rs.take (n + 1))) = ins (numR (rs.getD n rec0) n) (isort (numL 0 (rs.take n))) := by
        rw [e, numL_snoc, isort_snoc, List.length_take, Nat.zero_add, show min n rs.length = n by omega]
      rw [e2]
      refine ⟨rz_ins _ n rfl _ h1 (fun y hy => ?_), fun y hy => ?_⟩
      · obtain ⟨i, hi, rfl⟩ := h2 y hy; exact ⟨i, rfl, hi⟩
      · rcases (mem_ins _ _ _).1 hy with rfl | hy
        · exact ⟨n, by omega, rfl⟩
        · obtain ⟨i, hi, r⟩ := h2 y hy; exact ⟨i, by omega, r⟩
  have := key rs.length (Nat.le_refl _)
  rw [List.take_of_length_le (Nat.le_refl _)] at this
  exact this
end Go.Proofs.YtjhmnimbncfhoaaDoor.So
