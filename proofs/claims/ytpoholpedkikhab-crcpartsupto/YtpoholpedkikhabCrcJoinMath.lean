/-
  Products of polynomials are powers of the register's step; a linear map out of what it makes of each bit.
-/
import Derived.Test.YtpoholpedkikhabCrcBurstMath
namespace Go.Proofs.Ytpoholpedkikhab.Crc

theorem below_all (x : BitVec 32) : below x 32 = x := by
  have key : ∀ k, k ≤ 32 → ∀ j, j < k → (below x k).getLsbD j = x.getLsbD j := by
    intro k
    induction k with
    | zero => intro _ j hj; omega
    | succ k ih =>
      intro hk j hj
      have e : below x (k + 1) = if x.getLsbD k then below x k ^^^ (BitVec.ofNat 32 1 <<< k) else below x k := rfl
      by_cases hjk : j = k
      · subst hjk
        rw [e]
        cases h : x.getLsbD j
        · simp only [Bool.false_eq_true, if_false]
          exact below_bit x j j (Nat.le_refl _)
        · rw [if_pos rfl, BitVec.getLsbD_xor, below_bit x j j (Nat.le_refl _), BitVec.getLsbD_shiftLeft]
          simp [show j < 32 by omega]
      · have h1 : (BitVec.ofNat 32 1 <<< k).getLsbD j = false := by
          rw [BitVec.getLsbD_shiftLeft]; simp [show j < k by omega]
        rw [e]
        split
        · rw [BitVec.getLsbD_xor, ih (by omega) j (by omega), h1]; simp
        · exact ih (by omega) j (by omega)
  apply BitVec.eq_of_getLsbD_eq
  intro i hi
  exact key 32 (by omega) i hi
/-- A linear map is told by what it makes of each bit. -/
theorem lin_ext (f g : BitVec 32 → BitVec 32) (hf : ∀ x y, f (x ^^^ y) = f x ^^^ f y) (hg : ∀ x y, g (x ^^^ y) = g x ^^^ g y)
    (h : ∀ k, k < 32 → f (BitVec.ofNat 32 1 <<< k) = g (BitVec.ofNat 32 1 <<< k)) (x : BitVec 32) : f x = g x := by
  have z : ∀ f : BitVec 32 → BitVec 32, (∀ x y, f (x ^^^ y) = f x ^^^ f y) → f (BitVec.ofNat 32 0) = BitVec.ofNat 32 0 := by
    intro f hf
    have := hf (BitVec.ofNat 32 0) (BitVec.ofNat 32 0)
    rw [BitVec.xor_self, BitVec.xor_self] at this
    exact this
  have key : ∀ k, k ≤ 32 → f (below x k) = g (below x k) := by
    intro k
    induction k with
    | zero => intro _; show f (BitVec.ofNat 32 0) = g (BitVec.ofNat 32 0); rw [z f hf, z g hg]
    | succ k ih =>
      intro hk
      show f (if x.getLsbD k then below x k ^^^ (BitVec.ofNat 32 1 <<< k) else below x k) = g (if x.getLsbD k then below x k ^^^ (BitVec.ofNat 32 1 <<< k) else below x k)
      split
      · rw [hf, hg, ih (by omega), h k (by omega)]
      · exact ih (by omega)
  have := key 32 (by omega)
  rwa [below_all] at this
/-- The product, behind k digits. -/
def opTo (a b : BitVec 32) : Nat → BitVec 32
  | 0 => BitVec.ofNat 32 0
  | k + 1 => if a.getLsbD (31 - k) then opTo a b k ^^^ Mn k b else opTo a b k
def op (a b : BitVec 32) : BitVec 32 := opTo a b 32
theorem xor4 (p q r s : BitVec 32) : (p ^^^ q) ^^^ (r ^^^ s) = (p ^^^ r) ^^^ (q ^^^ s) := by
  rw [BitVec.xor_assoc, ← BitVec.xor_assoc q, BitVec.xor_comm q r, BitVec.xor_assoc, BitVec.xor_assoc]
theorem opTo_left (a a' b : BitVec 32) (k : Nat) : opTo (a ^^^ a') b k = opTo a b k ^^^ opTo a' b k := by
  induction k with
  | zero => simp [opTo]
  | succ k ih =>
    show (if (a ^^^ a').getLsbD (31 - k) then opTo (a ^^^ a') b k ^^^ Mn k b else opTo (a ^^^ a') b k) =
      (if a.getLsbD (31 - k) then opTo a b k ^^^ Mn k b else opTo a b k) ^^^ (if a'.getLsbD (31 - k) then opTo a' b k ^^^ Mn k b else opTo a' b k)
    rw [BitVec.getLsbD_xor, ih]
    generalize Mn k b = m
    generalize opTo a b k = p
    generalize opTo a' b k = q
    cases a.getLsbD (31 - k) <;> cases a'.getLsbD (31 - k) <;> simp
    · rw [BitVec.xor_assoc]
    · rw [BitVec.xor_assoc, BitVec.xor_assoc, BitVec.xor_comm q m]
    · rw [xor4]; simp
theorem opTo_right (a b b' : BitVec 32) (k : Nat) : opTo a (b ^^^ b') k = opTo a b k ^^^ opTo a b' k := by
  induction k with
  | zero => simp [opTo]
  | succ k ih =>
    show (if a.getLsbD (31 - k) then opTo a (b ^^^ b') k ^^^ Mn k (b ^^^ b') else opTo a (b ^^^ b') k) =
      (if a.getLsbD (31 - k) then opTo a b k ^^^ Mn k b else opTo a b k) ^^^ (if a.getLsbD (31 - k) then opTo a b' k ^^^ Mn k b' else opTo a b' k)
    rw [ih, Mn_xor]
    split
    · rw [xor4]
    · rfl
theorem unit_bit (j i : Nat) (hj : j < 32) : (BitVec.ofNat 32 1 <<< j).getLsbD i = decide (i = j) := by
  rw [BitVec.getLsbD_shiftLeft]
  by_cases h : i = j
  · subst h; simp [hj]
  · by_cases h2 : i < j
    · simp [h2, h]
    · have : Nat.testBit 1 (i - j) = false := by
        obtain ⟨q, hq⟩ : ∃ q, i - j = q + 1 := ⟨i - j - 1, by omega⟩
        rw [hq, Nat.testBit_succ]; exact Nat.zero_testBit q
      rw [BitVec.getLsbD_ofNat, this]
      simp [h]
theorem opTo_unit (j : Nat) (hj : j < 32) (b : BitVec 32) (k : Nat) (hk : k ≤ 32) : opTo (BitVec.ofNat 32 1 <<< j) b k = if k ≤ 31 - j then BitVec.ofNat 32 0 else Mn (31 - j) b := by
  induction k with
  | zero => simp [opTo]
  | succ k ih =>
    show (if (BitVec.ofNat 32 1 <<< j).getLsbD (31 - k) then opTo (BitVec.ofNat 32 1 <<< j) b k ^^^ Mn k b else opTo (BitVec.ofNat 32 1 <<< j) b k) = _
    rw [ih (by omega), unit_bit j _ hj]
    by_cases h : 31 - k = j
    · have hk' : k = 31 - j := by omega
      subst hk'
      rw [if_pos (by simpa using h), if_pos (Nat.le_refl _), if_neg (by omega)]
      simp
    · rw [if_neg (by simpa using h)]
      by_cases h2 : k ≤ 31 - j
      · rw [if_pos h2, if_pos (by omega)]
      · rw [if_neg h2, if_neg (by omega)]
theorem op_unit (j : Nat) (hj : j < 32) (b : BitVec 32) : op (BitVec.ofNat 32 1 <<< j) b = Mn (31 - j) b := by
  unfold op; rw [opTo_unit j hj b 32 (Nat.le_refl _), if_neg (by omega)]
set_option maxRecDepth 100000 in
theorem poly_units : ∀ k : Fin 32, op poly (BitVec.ofNat 32 1 <<< k.val) = Mn 32 (BitVec.ofNat 32 1 <<< k.val) := by decide +kernel
theorem op_poly (b : BitVec 32) : op poly b = Mn 32 b :=
  lin_ext (op poly) (Mn 32) (fun x y => opTo_right poly x y 32) (Mn_xor 32) (fun k hk => poly_units ⟨k, hk⟩) b
theorem M_unit (j : Nat) (hj : j < 31) : M (BitVec.ofNat 32 1 <<< (j + 1)) = BitVec.ofNat 32 1 <<< j := by
  rw [M_even _ (by rw [unit_bit (j + 1) 0 (by omega)]; simp)]
  apply BitVec.eq_of_getLsbD_eq
  intro i hi
  rw [BitVec.getLsbD_ushiftRight, unit_bit _ _ (by omega), unit_bit _ _ (by omega)]
  simp only [decide_eq_decide]
  omega
theorem op_M (a b : BitVec 32) : op (M a) b = M (op a b) := by
  refine lin_ext (fun a => op (M a) b) (fun a => M (op a b)) (fun x y => ?_) (fun x y => ?_) (fun k hk => ?_) a
  · show op (M (x ^^^ y)) b = _
    rw [M_xor]; exact opTo_left _ _ b 32
  · show M (op (x ^^^ y) b) = _
    rw [show op (x ^^^ y) b = op x b ^^^ op y b from opTo_left x y b 32, M_xor]
  · show op (M (BitVec.ofNat 32 1 <<< k)) b = M (op (BitVec.ofNat 32 1 <<< k) b)
    rw [op_unit k hk]
    match k, hk with
    | 0, _ =>
      have : M (BitVec.ofNat 32 1 <<< 0) = poly := by decide
      rw [this, op_poly]; exact Mn_succ 31 b
    | j + 1, hk =>
      rw [M_unit j (by omega), op_unit j (by omega), ← Mn_succ]
      congr 1
      omega
def one31 : BitVec 32 := BitVec.ofNat 32 1 <<< 31
theorem op_power (e : Nat) (b : BitVec 32) : op (Mn e one31) b = Mn e b := by
  induction e with
  | zero => exact op_unit 31 (by omega) b
  | succ e ih => rw [Mn_succ, op_M, ih, ← Mn_succ]
theorem power8 : Mn 8 one31 = BitVec.ofNat 32 8388608 := by decide
/-- What 'of' has gathered behind k bits, of a linear map. -/
def ofTo (f : BitVec 32 → BitVec 32) (x : BitVec 32) : Nat → BitVec 32
  | 0 => BitVec.ofNat 32 0
  | k + 1 => if x.getLsbD k then ofTo f x k ^^^ f (BitVec.ofNat 32 1 <<< k) else ofTo f x k
theorem ofTo_below (e : Nat) (x : BitVec 32) (k : Nat) : ofTo (Mn e) x k = Mn e (below x k) := by
  induction k with
  | zero => exact (Mn_zero e).symm
  | succ k ih =>
    show (if x.getLsbD k then ofTo (Mn e) x k ^^^ Mn e (BitVec.ofNat 32 1 <<< k) else ofTo (Mn e) x k) = Mn e (if x.getLsbD k then below x k ^^^ (BitVec.ofNat 32 1 <<< k) else below x k)
    rw [ih]
    split
    · rw [Mn_xor]
    · rfl
theorem ofTo_all (e : Nat) (x : BitVec 32) : ofTo (Mn e) x 32 = Mn e x := by rw [ofTo_below, below_all]
def join (a b : BitVec 32) (n : Nat) : BitVec 32 := Mn (8 * n) a ^^^ b
end Go.Proofs.Ytpoholpedkikhab.Crc
