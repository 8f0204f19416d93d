/-
  Numbers and texts as bytes, said of lists: short numbers, fixed words, the order of texts.
-/
import Derived.Test.YthdblnfohbldcaaGreatBase
namespace Go.Proofs.YthdblnfohbldcaaGreat.Nums
/-- How many first bytes are alike. -/
def common : List UInt8 → List UInt8 → Nat
  | x :: xs, y :: ys => if x = y then common xs ys + 1 else 0
  | _, _ => 0
/-- The order, byte by byte. -/
def order : List UInt8 → List UInt8 → Int
  | [], [] => 0
  | [], _ :: _ => -1
  | _ :: _, [] => 1
  | x :: xs, y :: ys => if x = y then order xs ys else if x.toNat < y.toNat then -1 else 1
theorem common_app (c a b : List UInt8) : common (c ++ a) (c ++ b) = c.length + common a b := by
  induction c with
  | nil => simp
  | cons x xs ih => simp [common, ih]; omega
theorem order_app (c a b : List UInt8) : order (c ++ a) (c ++ b) = order a b := by
  induction c with
  | nil => rfl
  | cons x xs ih => simp [order, ih]
theorem u8_ne {x y : UInt8} (h : x ≠ y) : x.toNat ≠ y.toNat := fun e => h (UInt8.toNat_inj.1 e)
theorem order_swap (a b : List UInt8) : order b a = - order a b := by
  induction a generalizing b with
  | nil => cases b <;> simp [order]
  | cons x xs ih =>
    cases b with
    | nil => simp [order]
    | cons y ys =>
      by_cases h : x = y
      · subst h; simp [order, ih]
      · have hn := u8_ne h
        have h' : ¬ y = x := fun e => h e.symm
        simp only [order, if_neg h, if_neg h']
        split <;> split <;> omega
theorem order_zero (a b : List UInt8) : order a b = 0 ↔ a = b := by
  induction a generalizing b with
  | nil => cases b <;> simp [order]
  | cons x xs ih =>
    cases b with
    | nil => simp [order]
    | cons y ys =>
      by_cases h : x = y
      · subst h; simp [order, ih]
      · have hne : ¬ x :: xs = y :: ys := fun e => h (List.cons.inj e).1
        simp only [order, if_neg h, hne, iff_false]
        by_cases hl : x.toNat < y.toNat
        · rw [if_pos hl]; decide
        · rw [if_neg hl]; decide
theorem order_range (a b : List UInt8) : order a b = -1 ∨ order a b = 0 ∨ order a b = 1 := by
  induction a generalizing b with
  | nil => cases b <;> simp [order]
  | cons x xs ih =>
    cases b with
    | nil => simp [order]
    | cons y ys =>
      by_cases h : x = y
      · simp only [order, if_pos h]; exact ih ys
      · simp only [order, if_neg h]; split <;> omega
/-- Below, and below or alike, makes below. -/
theorem order_trans (a b c : List UInt8) : (order a b ≤ 0 → order b c ≤ 0 → order a c ≤ 0) ∧ (order a b < 0 → order b c ≤ 0 → order a c < 0) ∧ (order a b ≤ 0 → order b c < 0 → order a c < 0) := by
  induction a generalizing b c with
  | nil =>
    cases b with
    | nil => cases c <;> simp [order]
    | cons y ys => cases c <;> simp [order]
  | cons x xs ih =>
    cases b with
    | nil => cases c <;> simp [order]
    | cons y ys =>
      cases c with
      | nil =>
        simp only [order]
        refine ⟨fun _ h => ?_, fun _ h => ?_, fun _ h => ?_⟩ <;> omega
      | cons z zs =>
        have ih' := ih ys zs
        by_cases h1 : x = y
        · subst h1
          by_cases h2 : x = z
          · subst h2; simpa only [order, if_true] using ih'
          · simp only [order, if_true, if_neg h2]
            refine ⟨fun _ h => h, fun _ h => ?_, fun _ h => h⟩
            split at h <;> simp_all
        · have n1 := u8_ne h1
          by_cases h2 : y = z
          · subst h2
            simp only [order, if_true, if_neg h1]
            refine ⟨fun h _ => h, fun h _ => h, fun h _ => ?_⟩
            split at h <;> simp_all
          · have n2 := u8_ne h2
            by_cases h3 : x = z
            · subst h3
              have n3 : ¬ y = x := fun e => h1 e.symm
              simp only [order, if_true, if_neg h1, if_neg n3]
              refine ⟨fun h h' => ?_, fun h h' => ?_, fun h h' => ?_⟩ <;> (split at h <;> split at h' <;> omega)
            · simp only [order, if_neg h1, if_neg h2, if_neg h3]
              refine ⟨fun h h' => ?_, fun h h' => ?_, fun h h' => ?_⟩ <;> (split at h <;> split at h' <;> split <;> omega)
theorem common_le (a b : List UInt8) : common a b ≤ a.length ∧ common a b ≤ b.length := by
  induction a generalizing b with
  | nil => simp [common]
  | cons x xs ih =>
    cases b with
    | nil => simp [common]
    | cons y ys =>
      have := ih ys
      by_cases h : x = y
      · simp only [common, if_pos h, List.length_cons]; omega
      · simp only [common, if_neg h, List.length_cons]; omega
theorem common_take (a b : List UInt8) : a.take (common a b) = b.take (common a b) := by
  induction a generalizing b with
  | nil => simp [common]
  | cons x xs ih =>
    cases b with
    | nil => simp [common]
    | cons y ys =>
      by_cases h : x = y
      · subst h; simp [common, ih]
      · simp [common, if_neg h]
theorem common_part (a b : List UInt8) (h1 : common a b < a.length) (h2 : common a b < b.length) : a.getD (common a b) 0 ≠ b.getD (common a b) 0 := by
  induction a generalizing b with
  | nil => simp at h1
  | cons x xs ih =>
    cases b with
    | nil => simp at h2
    | cons y ys =>
      by_cases h : x = y
      · subst h
        simp only [common, if_true, List.length_cons] at h1 h2 ⊢
        simpa using ih ys (by omega) (by omega)
      · simpa [common, if_neg h] using h
/-- The first place where two part tells the order. -/
theorem order_common (a b : List UInt8) : order (a.drop (common a b)) (b.drop (common a b)) = order a b := by
  have h := order_app (a.take (common a b)) (a.drop (common a b)) (b.drop (common a b))
  rw [List.take_append_drop, common_take a b, List.take_append_drop] at h
  exact h.symm
theorem split_at (a : List UInt8) (k : Nat) (h : k < a.length) : a = a.take k ++ a.getD k 0 :: a.drop (k + 1) := by
  rw [List.getD_eq_getElem?_getD, List.getElem?_eq_getElem h]
  simp
theorem order_at (a b : List UInt8) (k : Nat) (h1 : k < a.length) (h2 : k < b.length) (ht : a.take k = b.take k) (hn : a.getD k 0 ≠ b.getD k 0) :
    order a b = (if (a.getD k 0).toNat < (b.getD k 0).toNat then -1 else 1) ∧ common a b = k := by
  constructor
  · conv => lhs; rw [split_at a k h1, split_at b k h2, ht, order_app]
    simp only [order, if_neg hn]
  · conv => lhs; rw [split_at a k h1, split_at b k h2, ht, common_app]
    simp only [common, if_neg hn, List.length_take]; omega
theorem order_end (a b : List UInt8) (k : Nat) (hk : k = min a.length b.length) (ht : a.take k = b.take k) :
    order a b = (if a.length < b.length then -1 else if a.length = b.length then 0 else 1) ∧ common a b = k := by
  by_cases h : a.length ≤ b.length
  · have hk' : k = a.length := by omega
    subst hk'
    rw [List.take_length] at ht
    have hb : b = a ++ b.drop a.length := by
      conv => lhs; rw [← List.take_append_drop a.length b, ← ht]
    constructor
    · conv => lhs; rw [hb]
      have := order_app a [] (b.drop a.length)
      rw [List.append_nil] at this
      rw [this]
      cases hd : b.drop a.length with
      | nil =>
        have : (b.drop a.length).length = 0 := by rw [hd]; rfl
        rw [List.length_drop] at this
        rw [if_neg (by omega), if_pos (by omega)]; rfl
      | cons y ys =>
        have : (b.drop a.length).length = ys.length + 1 := by rw [hd]; rfl
        rw [List.length_drop] at this
        rw [if_pos (by omega)]; rfl
    · conv => lhs; rw [hb]
      have := common_app a [] (b.drop a.length)
      rw [List.append_nil] at this
      rw [this]; simp [common]
  · have hk' : k = b.length := by omega
    subst hk'
    rw [List.take_length] at ht
    have ha : a = b ++ a.drop b.length := by
      conv => lhs; rw [← List.take_append_drop b.length a, ht]
    rw [if_neg (by omega), if_neg (by omega)]
    constructor
    · conv => lhs; rw [ha]
      have := order_app b (a.drop b.length) []
      rw [List.append_nil] at this
      rw [this]
      cases hd : a.drop b.length with
      | nil =>
        have : (a.drop b.length).length = 0 := by rw [hd]; rfl
        rw [List.length_drop] at this
        omega
      | cons y ys => rfl
    · conv => lhs; rw [ha]
      have := common_app b (a.drop b.length) []
      rw [List.append_nil] at this
      rw [this]
      cases a.drop b.length <;> simp [common]
end Go.Proofs.YthdblnfohbldcaaGreat.Nums
