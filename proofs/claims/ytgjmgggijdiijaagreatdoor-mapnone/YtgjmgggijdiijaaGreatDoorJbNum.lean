/-
  Numbers as texts: what the library reads and what the document's own loops reckon, of one number.
-/
import Derived.Test.YtgjmgggijdiijaaGreatDoorBase
import Derived.Lib.Atoi
import Derived.Lib.ItoaNum
import Derived.Lib.ItoaLen
import Derived.Lib.ParseIntB
namespace Go.Proofs.YtgjmgggijdiijaaGreatDoor.Jb
open Go.Lib
set_option linter.unusedVariables false
theorem decFrom_append (a b : List UInt8) : ∀ acc, decFrom acc (a ++ b) = (decFrom acc a).bind fun m => decFrom m b := by
  induction a with
  | nil => intro acc; rfl
  | cons x xs ih =>
    intro acc
    simp only [List.cons_append, decFrom]
    cases digitVal x with
    | none => rfl
    | some d => exact ih _
theorem digit_ofNat (d : Nat) (h : d < 10) : digitVal (UInt8.ofNat (48 + d)) = some d := by
  have e : (UInt8.ofNat (48 + d)).toNat = 48 + d := by rw [UInt8.toNat_ofNat']; omega
  unfold digitVal
  rw [e, if_pos (by omega)]
  congr 1
  omega
theorem decFrom_digits' : ∀ (k u : Nat), u < 10 ^ k → decFrom 0 (decDigits u) = some u := by
  intro k
  induction k with
  | zero =>
    intro u h
    obtain rfl : u = 0 := by simpa using h
    rw [decDigits, dif_pos (by omega)]
    unfold decFrom
    rw [digit_ofNat 0 (by omega)]
    rfl
  | succ k ih =>
    intro u h
    by_cases h10 : u < 10
    · rw [decDigits, dif_pos h10]
      unfold decFrom
      rw [digit_ofNat u h10]
      show decFrom (0 * 10 + u) [] = some u
      rw [Nat.zero_mul, Nat.zero_add]
      rfl
    · rw [decDigits, dif_neg h10, decFrom_append, ih (u / 10) (by rw [Nat.pow_succ] at h; omega)]
      show decFrom (u / 10) [_] = _
      unfold decFrom
      rw [digit_ofNat (u % 10) (by omega)]
      show decFrom (u / 10 * 10 + u % 10) [] = some u
      rw [show u / 10 * 10 + u % 10 = u by omega]
      rfl
theorem decFrom_digits (u : Nat) : decFrom 0 (decDigits u) = some u := decFrom_digits' u u (Nat.lt_pow_self (by omega))
theorem digits_head (u : Nat) : ∃ b r, decDigits u = b :: r ∧ 48 ≤ b.toNat := by
  have key : ∀ (k u : Nat), u < 10 ^ k → ∃ b r, decDigits u = b :: r ∧ 48 ≤ b.toNat := by
    intro k
    induction k with
    | zero =>
      intro u h
      obtain rfl : u = 0 := by simpa using h
      exact ⟨UInt8.ofNat 48, [], by rw [decDigits, dif_pos (by omega)], by decide⟩
    | succ k ih =>
      intro u h
      by_cases h10 : u < 10
      · refine ⟨UInt8.ofNat (48 + u), [], by rw [decDigits, dif_pos h10], ?_⟩
        rw [UInt8.toNat_ofNat']; omega
      · obtain ⟨b, r, e, hb⟩ := ih (u / 10) (by rw [Nat.pow_succ] at h; omega)
        exact ⟨b, r ++ [UInt8.ofNat (48 + u % 10)], by rw [decDigits, dif_neg h10, e]; rfl, hb⟩
  exact key u u (Nat.lt_pow_self (by omega))
theorem decFrom_le : ∀ (l : List UInt8) (acc m : Nat), decFrom acc l = some m → acc ≤ m := by
  intro l
  induction l with
  | nil => intro acc m h; cases h; exact Nat.le_refl _
  | cons c r ih =>
    intro acc m h
    unfold decFrom at h
    cases hd : digitVal c with
    | none => rw [hd] at h; cases h
    | some d =>
      rw [hd] at h
      have := ih _ _ h
      omega
theorem digitVal_some {c : UInt8} {d : Nat} (h : digitVal c = some d) : 48 ≤ c.toNat ∧ c.toNat ≤ 57 ∧ c.toNat - 48 = d := by
  unfold digitVal at h
  by_cases q : 48 ≤ c.toNat ∧ c.toNat ≤ 57
  · rw [if_pos q] at h; exact ⟨q.1, q.2, Option.some.inj h⟩
  · rw [if_neg q] at h; cases h
theorem parse_ok : ∀ (l : List UInt8) (acc m : Nat), decFrom acc l = some m → m ≤ 18446744073709551615 → parseUintM 18446744073709551615 acc l = .ok m := by
  intro l
  induction l with
  | nil => intro acc m h _; cases h; rfl
  | cons c r ih =>
    intro acc m h hm
    unfold decFrom at h
    cases hd : digitVal c with
    | none => rw [hd] at h; cases h
    | some d =>
      rw [hd] at h
      obtain ⟨h1, h2, h3⟩ := digitVal_some hd
      have hle := decFrom_le _ _ _ h
      unfold parseUintM
      rw [if_pos ⟨h1, h2⟩, if_neg (by omega), if_neg (by omega), h3]
      exact ih _ _ h hm
def In64 (v : Int) : Prop := -9223372036854775808 ≤ v ∧ v ≤ 9223372036854775807
/-- A text that is the number v is read as v. -/
theorem parse_itoa (v : Int) (hv : In64 v) : parseIntB 64 (itoa v) = .ok v := by
  obtain ⟨hv0, hv1⟩ := hv
  by_cases h : v < 0
  · have e : itoa v = 45 :: decDigits v.natAbs := by unfold itoa; rw [if_pos h]
    obtain ⟨b, r, eb, hb⟩ := digits_head v.natAbs
    have hp : parseUintB 64 (decDigits v.natAbs) = .ok v.natAbs := by
      unfold parseUintB
      rw [if_neg (by rw [eb]; simp)]
      exact parse_ok _ _ _ (decFrom_digits _) (by omega)
    rw [e]
    unfold parseIntB
    have h45 : ((45 : UInt8).toNat = 45) := by decide
    simp only [h45, or_true, if_true, hp, not_true_eq_false, false_and, if_false, true_and]
    rw [if_neg (by omega)]
    congr 1
    omega
  · have e : itoa v = decDigits v.toNat := by unfold itoa; rw [if_neg h]
    obtain ⟨b, r, eb, hb⟩ := digits_head v.toNat
    have hp : parseUintB 64 (decDigits v.toNat) = .ok v.toNat := by
      unfold parseUintB
      rw [if_neg (by rw [eb]; simp)]
      exact parse_ok _ _ _ (decFrom_digits _) (by omega)
    rw [e, eb]
    rw [eb] at hp
    unfold parseIntB
    have n1 : ¬ b.toNat = 43 := by omega
    have n2 : ¬ b.toNat = 45 := by omega
    simp only [n1, n2, or_self, if_false, hp, not_false_eq_true, true_and, false_and]
    rw [if_neg (by omega)]
    congr 1
    omega
theorem parse_in64 {l : List UInt8} {v : Int} (h : parseIntB 64 l = .ok v) : In64 v := by
  cases l with
  | nil => cases h
  | cons c r =>
    unfold parseIntB at h
    simp only at h
    cases hp : parseUintB 64 (if c.toNat = 43 ∨ c.toNat = 45 then r else c :: r)
    case ok u =>
      rw [hp] at h
      simp only at h
      by_cases a : ¬ c.toNat = 45 ∧ 2 ^ (64 - 1) ≤ u
      · rw [if_pos a] at h; cases h
      · rw [if_neg a] at h
        by_cases b : c.toNat = 45 ∧ 2 ^ (64 - 1) < u
        · rw [if_pos b] at h; cases h
        · rw [if_neg b] at h
          have hv := NumEnd.ok.inj h
          by_cases n : c.toNat = 45
          · rw [if_pos n] at hv; constructor <;> omega
          · rw [if_neg n] at hv; constructor <;> omega
    all_goals (rw [hp] at h; cases h)
/-- The number that a text is. -/
def num (l : List UInt8) : Option Int := match parseIntB 64 l with
  | .ok v => if itoa v = l then some v else none
  | _ => none
theorem num_ok {l : List UInt8} {u : Int} (hp : parseIntB 64 l = .ok u) : num l = if itoa u = l then some u else none := by unfold num; rw [hp]
theorem num_not {l : List UInt8} (h : ∀ v, parseIntB 64 l ≠ .ok v) : num l = none := by
  unfold num
  split
  · rename_i v e; exact absurd e (h v)
  · rfl
theorem num_iff (l : List UInt8) (v : Int) : num l = some v ↔ In64 v ∧ itoa v = l := by
  constructor
  · intro h
    by_cases q : ∃ u, parseIntB 64 l = .ok u
    · obtain ⟨u, hp⟩ := q
      rw [num_ok hp] at h
      by_cases e : itoa u = l
      · rw [if_pos e] at h; cases h; exact ⟨parse_in64 hp, e⟩
      · rw [if_neg e] at h; cases h
    · rw [num_not (fun v e => q ⟨v, e⟩)] at h; cases h
  · rintro ⟨h1, rfl⟩
    rw [num_ok (parse_itoa v h1), if_pos rfl]
theorem num_itoa (v : Int) (h : In64 v) : num (itoa v) = some v := (num_iff _ _).2 ⟨h, rfl⟩
theorem num_none {l : List UInt8} (h : ∀ v, In64 v → itoa v ≠ l) : num l = none := by
  cases e : num l with
  | none => rfl
  | some v => exact absurd ((num_iff l v).1 e).2 (h v ((num_iff l v).1 e).1)
theorem itoa_inj {a b : Int} (ha : In64 a) (hb : In64 b) (h : itoa a = itoa b) : a = b := by
  have h1 := num_itoa a ha
  rw [h, num_itoa b hb] at h1
  exact (Option.some.inj h1).symm
/-- The document's loop over digits, below 0. -/
def nstep (v : Int) (c : UInt8) : Int := IntKind.i64.wrap (IntKind.i64.wrap (v * 10) - ((c.toNat - 48 : Nat) : Int))
def isDig (c : UInt8) : Bool := decide (48 ≤ c.toNat ∧ c.toNat ≤ 57)
theorem wrap_id {z : Int} (h : In64 z) : IntKind.i64.wrap z = z := by
  obtain ⟨h1, h2⟩ := h
  have e : IntKind.i64.wrap z = if z % 18446744073709551616 ≥ 9223372036854775808 then z % 18446744073709551616 - 18446744073709551616 else z % 18446744073709551616 := by
    unfold IntKind.wrap
    simp [IntKind.bits, IntKind.signed]
  rw [e]
  split <;> omega
theorem fold_dec : ∀ (l : List UInt8) (acc m : Nat), decFrom acc l = some m → m ≤ 9223372036854775808 → l.foldl nstep (-(acc : Int)) = -(m : Int) := by
  intro l
  induction l with
  | nil => intro acc m h _; cases h; rfl
  | cons c r ih =>
    intro acc m h hm
    unfold decFrom at h
    cases hd : digitVal c with
    | none => rw [hd] at h; cases h
    | some d =>
      rw [hd] at h
      obtain ⟨h1, h2, h3⟩ := digitVal_some hd
      have hle := decFrom_le _ _ _ h
      have e : nstep (-(acc : Int)) c = -((acc * 10 + d : Nat) : Int) := by
        unfold nstep
        rw [h3, wrap_id (z := -(acc : Int) * 10) ⟨by omega, by omega⟩, wrap_id ⟨by omega, by omega⟩]
        omega
      rw [List.foldl_cons, e]
      exact ih _ _ h hm
theorem dig_all : ∀ (l : List UInt8) (acc m : Nat), decFrom acc l = some m → ∀ c ∈ l, isDig c = true := by
  intro l
  induction l with
  | nil => intro acc m _ c hc; cases hc
  | cons x r ih =>
    intro acc m h c hc
    unfold decFrom at h
    cases hd : digitVal x with
    | none => rw [hd] at h; cases h
    | some d =>
      rw [hd] at h
      rcases List.mem_cons.1 hc with rfl | hr
      · obtain ⟨h1, h2, _⟩ := digitVal_some hd
        unfold isDig; exact decide_eq_true ⟨h1, h2⟩
      · exact ih _ _ h c hr
/-- Where the digits begin. -/
def signOf (l : List UInt8) : Nat := if l.head? = some 45 then 1 else 0
theorem itoa_parts (v : Int) (hv : In64 v) : signOf (itoa v) < (itoa v).length ∧ (itoa v).length ≤ 20 ∧ (∀ c ∈ (itoa v).drop (signOf (itoa v)), isDig c = true) ∧
    (signOf (itoa v) = 1 → ((itoa v).drop 1).foldl nstep 0 = v) ∧ (signOf (itoa v) = 0 → IntKind.i64.wrap (-((itoa v).foldl nstep 0)) = v) := by
  obtain ⟨hv0, hv1⟩ := hv
  have small : ∀ u, u ≤ 9223372036854775808 → nDigits u ≤ 19 := by
    intro u hu
    by_cases q : nDigits u ≤ 19
    · exact q
    · have key : ∀ k u, nDigits u = k + 1 → 10 ^ k ≤ u ∨ k = 0 := by
        intro k
        induction k with
        | zero => intro u _; exact .inr rfl
        | succ k ih =>
          intro u e
          left
          have h10 : ¬ u < 10 := fun q => by rw [nDigits_small q] at e; omega
          rw [nDigits_big h10] at e
          rcases ih (u / 10) (by omega) with r | r
          · rw [Nat.pow_succ]; omega
          · subst r; omega
      obtain ⟨k, hk⟩ : ∃ k, nDigits u = k + 1 := ⟨nDigits u - 1, by omega⟩
      rcases key k u hk with r | r
      · have : 10 ^ 19 ≤ 10 ^ k := Nat.pow_le_pow_right (by omega) (by omega)
        omega
      · omega
  by_cases h : v < 0
  · have e : itoa v = 45 :: decDigits v.natAbs := by unfold itoa; rw [if_pos h]
    have es : signOf (itoa v) = 1 := by rw [e]; rfl
    have hl := small v.natAbs (by omega)
    obtain ⟨b, r, eb, hb⟩ := digits_head v.natAbs
    have hd := decFrom_digits v.natAbs
    rw [es, e]
    refine ⟨?_, ?_, ?_, ?_, ?_⟩
    · rw [eb]; simp
    · rw [List.length_cons, decDigits_length]; omega
    · intro c hc; exact dig_all _ _ _ hd c (by simpa using hc)
    · intro _
      have := fold_dec _ 0 _ hd (by omega)
      simp only [List.drop_succ_cons, List.drop_zero]
      have z : (-((0 : Nat) : Int)) = 0 := rfl
      rw [z] at this
      rw [this]; omega
    · intro q; cases q
  · have e : itoa v = decDigits v.toNat := by unfold itoa; rw [if_neg h]
    obtain ⟨b, r, eb, hb⟩ := digits_head v.toNat
    have es : signOf (itoa v) = 0 := by
      rw [e, eb]; unfold signOf
      rw [if_neg]
      simp only [List.head?_cons, Option.some.injEq]
      intro q; subst q; revert hb; decide
    have hl := small v.toNat (by omega)
    have hd := decFrom_digits v.toNat
    rw [es, e]
    refine ⟨?_, ?_, ?_, ?_, ?_⟩
    · rw [eb]; simp
    · rw [decDigits_length]; omega
    · intro c hc; exact dig_all _ _ _ hd c (by simpa using hc)
    · intro q; cases q
    · intro _
      have := fold_dec _ 0 _ hd (by omega)
      have z : (-((0 : Nat) : Int)) = 0 := rfl
      rw [z] at this
      rw [this, wrap_id ⟨by omega, by omega⟩]; omega
/-- The digits, none of 0. -/
def dg (u : Nat) : List UInt8 := if u = 0 then [] else decDigits u
theorem dg_step (u : Nat) (h : u ≠ 0) : dg u = dg (u / 10) ++ [UInt8.ofNat (48 + u % 10)] := by
  have e : dg u = decDigits u := if_neg h
  rw [e]
  by_cases h10 : u < 10
  · rw [decDigits, dif_pos h10, show u / 10 = 0 by omega, show u % 10 = u by omega]; rfl
  · rw [decDigits, dif_neg h10]
    have e2 : dg (u / 10) = decDigits (u / 10) := if_neg (by omega)
    rw [e2]
theorem itoa_dg (v : Int) (h : v ≠ 0) : itoa v = (if v < 0 then [45] else []) ++ dg v.natAbs := by
  have e : dg v.natAbs = decDigits v.natAbs := if_neg (by omega)
  unfold itoa
  rw [e]
  by_cases q : v < 0
  · rw [if_pos q, if_pos q]; rfl
  · rw [if_neg q, if_neg q, show v.toNat = v.natAbs by omega]; rfl
end Go.Proofs.YtgjmgggijdiijaaGreatDoor.Jb
