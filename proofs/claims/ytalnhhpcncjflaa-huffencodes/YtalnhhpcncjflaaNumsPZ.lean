/-
  Short numbers and fixed words, said of lists of bytes.
-/
import Derived.Test.YtalnhhpcncjflaaBase
namespace Go.Proofs.Ytalnhhpcncjflaa.Nums
open Go.Proofs.Ytalnhhpcncjflaa.Base
def B8 (n : Nat) : BitVec 8 := BitVec.ofNat 8 n
theorem B8_toNat (n : Nat) (h : n < 256) : (B8 n).toNat = n := by unfold B8; rw [BitVec.toNat_ofNat]; omega
theorem B8_val (c : BitVec 8) : B8 c.toNat = c := by unfold B8; simp
/-- A short number, by at most so many digits. -/
def putF : Nat → Nat → List (BitVec 8)
  | 0, _ => []
  | f + 1, v => if v < 128 then [B8 v] else B8 (v % 128 + 128) :: putF f (v / 128)
theorem putF_any : ∀ (f g v : Nat), v < f → v < g → putF f v = putF g v
  | 0, _, _, h, _ => absurd h (by omega)
  | _ + 1, 0, _, _, h => absurd h (by omega)
  | f + 1, g + 1, v, h1, h2 => by
    unfold putF
    by_cases h : v < 128
    · rw [if_pos h, if_pos h]
    · rw [if_neg h, if_neg h, putF_any f g (v / 128) (by omega) (by omega)]
/-- A short number. -/
def put (v : Nat) : List (BitVec 8) := putF (v + 1) v
theorem put_small (v : Nat) (h : v < 128) : put v = [B8 v] := by
  unfold put putF
  rw [if_pos h]
theorem put_large (v : Nat) (h : 128 ≤ v) : put v = B8 (v % 128 + 128) :: put (v / 128) := by
  unfold put
  rw [show putF (v + 1) v = B8 (v % 128 + 128) :: putF v (v / 128) by unfold putF; rw [if_neg (by omega)]; cases v <;> rfl, putF_any v (v / 128 + 1) (v / 128) (by omega) (by omega)]
theorem put_length (n : Nat) : ∀ v, v < 128 ^ (n + 1) → 1 ≤ (put v).length ∧ (put v).length ≤ n + 1 := by
  induction n with
  | zero => intro v h; rw [put_small v (by simpa using h)]; simp
  | succ n ih =>
    intro v h
    by_cases hv : v < 128
    · rw [put_small v hv]; simp
    · rw [put_large v (by omega)]
      have := ih (v / 128) (by rw [Nat.div_lt_iff_lt_mul (by omega)]; rw [Nat.pow_succ] at h; exact h)
      simp only [List.length_cons]; omega
theorem put_nine (v : Nat) (h : v < 9223372036854775808) : 1 ≤ (put v).length ∧ (put v).length ≤ 9 := put_length 8 v (by omega)
/-- The number at the head: its value, how many bytes, the error. -/
def getFrom : Nat → Nat → List (BitVec 8) → Nat × Nat × Nat
  | i, _, [] => if 9 ≤ i then (0, 0, 21) else (0, 0, 20)
  | i, v, c :: cs => if 9 ≤ i then (0, 0, 21) else if c.toNat < 128 then (if c.toNat = 0 ∧ 0 < i then (0, 0, 21) else (v + c.toNat * 128 ^ i, i + 1, 0)) else getFrom (i + 1) (v + c.toNat % 128 * 128 ^ i) cs
def get (bs : List (BitVec 8)) : Nat × Nat × Nat := getFrom 0 0 bs
theorem lt_pow (i v d : Nat) (hv : v < 128 ^ i) (hd : d < 128) : v + d * 128 ^ i < 128 ^ (i + 1) := by
  rw [Nat.pow_succ]
  have : (d + 1) * 128 ^ i ≤ 128 * 128 ^ i := Nat.mul_le_mul_right _ (by omega)
  rw [Nat.add_mul] at this
  omega
/-- What is written is read, whatever stands behind it. -/
theorem getFrom_put (u : Nat) : ∀ (i v : Nat) (rest : List (BitVec 8)), (0 < i → 0 < u) → v < 128 ^ i → v + u * 128 ^ i < 9223372036854775808 →
    getFrom i v (put u ++ rest) = (v + u * 128 ^ i, i + (put u).length, 0) := by
  induction u using Nat.strongRecOn with
  | _ u ih =>
    intro i v rest h0 hv hm
    have hi : u = 0 ∨ ¬ 9 ≤ i := by
      by_cases hu : u = 0
      · exact .inl hu
      · right; intro h9
        have h1 : 128 ^ 9 ≤ 128 ^ i := Nat.pow_le_pow_right (by omega) h9
        have h2 : 1 * 128 ^ i ≤ u * 128 ^ i := Nat.mul_le_mul_right _ (by omega)
        have h3 : (128 : Nat) ^ 9 = 9223372036854775808 := by decide
        omega
    have hi9 : ¬ 9 ≤ i := by
      rcases hi with hu | h
      · intro h9; have := h0 (by omega); omega
      · exact h
    by_cases hu : u < 128
    · rw [put_small u hu]
      have e := B8_toNat u (by omega)
      simp only [List.cons_append, List.nil_append, getFrom, if_neg hi9, e, if_pos hu, List.length_cons, List.length_nil]
      rw [if_neg (by intro h; have := h0 h.2; omega)]
    · rw [put_large u (by omega)]
      have e := B8_toNat (u % 128 + 128) (by omega)
      have e2 : (u % 128 + 128) % 128 = u % 128 := by omega
      simp only [List.cons_append, getFrom, if_neg hi9, e, List.length_cons]
      rw [if_neg (by omega), e2]
      have key : v + u % 128 * 128 ^ i + u / 128 * 128 ^ (i + 1) = v + u * 128 ^ i := by
        have hu' : u = u % 128 + 128 * (u / 128) := by omega
        generalize u % 128 = r at hu' ⊢
        generalize u / 128 = q at hu' ⊢
        subst hu'
        rw [Nat.pow_succ, Nat.add_mul, Nat.mul_comm 128 q, Nat.mul_assoc, Nat.mul_comm (128 ^ i) 128]
        omega
      rw [ih (u / 128) (by omega) (i + 1) (v + u % 128 * 128 ^ i) rest (fun _ => by omega) (lt_pow i v _ hv (by omega)) (by rw [key]; exact hm), key]
      congr 2; omega
theorem get_put (u : Nat) (rest : List (BitVec 8)) (h : u < 9223372036854775808) : get (put u ++ rest) = (u, (put u).length, 0) := by
  have := getFrom_put u 0 0 rest (by omega) (by simp) (by simpa using h)
  simpa [get] using this
/-- Each answer of the reading, from the place i on. -/
theorem getFrom_cases (bs : List (BitVec 8)) : ∀ (i v : Nat), v < 128 ^ i →
    (∃ u m, getFrom i v bs = (v + u * 128 ^ i, i + m, 0) ∧ 1 ≤ m ∧ i + m ≤ 9 ∧ m ≤ bs.length ∧ put u = bs.take m ∧ u < 128 ^ m ∧ (0 < i → 0 < u)) ∨
    (getFrom i v bs = (0, 0, 20) ∧ i + bs.length ≤ 8 ∧ ∃ m k, getFrom i v (bs ++ [B8 1]) = (m, i + bs.length + 1, k) ∧ k = 0) ∨
    (getFrom i v bs = (0, 0, 21) ∧ getFrom i v (bs ++ [B8 1]) = (0, 0, 21)) := by
  induction bs with
  | nil =>
    intro i v hv
    have e := B8_toNat 1 (by omega)
    by_cases h9 : 9 ≤ i
    · right; right
      simp [getFrom, h9]
    · right; left
      refine ⟨by simp [getFrom, h9], by simp; omega, v + 1 * 128 ^ i, 0, ?_, rfl⟩
      simp [getFrom, h9, e]
  | cons c cs ih =>
    intro i v hv
    have hc := lt8 c
    by_cases h9 : 9 ≤ i
    · right; right
      simp [getFrom, h9]
    · by_cases h1 : c.toNat < 128
      · by_cases h0 : c.toNat = 0 ∧ 0 < i
        · right; right
          simp [getFrom, h9, h0]
        · left
          refine ⟨c.toNat, 1, by simp only [getFrom, if_neg h9, if_pos h1, if_neg h0], by omega, by omega, by simp, ?_, by omega, fun hi => by omega⟩
          rw [put_small _ h1, B8_val]; simp
      · have hlt := lt_pow i v (c.toNat % 128) hv (by omega)
        have e1 : getFrom i v (c :: cs) = getFrom (i + 1) (v + c.toNat % 128 * 128 ^ i) cs := by simp only [getFrom, if_neg h9, if_neg h1]
        have e2 : getFrom i v (c :: cs ++ [B8 1]) = getFrom (i + 1) (v + c.toNat % 128 * 128 ^ i) (cs ++ [B8 1]) := by
          rw [List.cons_append]; simp only [getFrom, if_neg h9, if_neg h1]
        rw [e1, e2]
        rcases ih (i + 1) _ hlt with ⟨u, m, g1, g2, g3, g4, g5, g6, g7⟩ | ⟨g1, g2, m, k, g3, g4⟩ | ⟨g1, g2⟩
        · left
          refine ⟨c.toNat % 128 + 128 * u, m + 1, ?_, by omega, by omega, by simp; omega, ?_, ?_, fun _ => by have := g7 (by omega); omega⟩
          · rw [g1]
            have : v + c.toNat % 128 * 128 ^ i + u * 128 ^ (i + 1) = v + (c.toNat % 128 + 128 * u) * 128 ^ i := by
              rw [Nat.pow_succ, Nat.add_mul, Nat.mul_comm 128 u, Nat.mul_assoc, Nat.mul_comm (128 ^ i) 128]; omega
            rw [this]; congr 2; omega
          · have hu := g7 (by omega)
            rw [put_large _ (by omega)]
            have a1 : (c.toNat % 128 + 128 * u) % 128 + 128 = c.toNat := by omega
            have a2 : (c.toNat % 128 + 128 * u) / 128 = u := by omega
            rw [a1, a2, g5, B8_val]; simp
          · rw [Nat.pow_succ]; omega
        · right; left
          refine ⟨g1, by simp; omega, m, k, ?_, g4⟩
          rw [g3]; congr 2; simp; omega
        · right; right
          exact ⟨g1, g2⟩
theorem pow_nine (m : Nat) (h : m ≤ 9) : 128 ^ m ≤ 9223372036854775808 := by
  have := Nat.pow_le_pow_right (n := 128) (by omega) h
  have e : (128 : Nat) ^ 9 = 9223372036854775808 := by decide
  omega
theorem get_cases (bs : List (BitVec 8)) :
    (∃ u m, get bs = (u, m, 0) ∧ 1 ≤ m ∧ m ≤ 9 ∧ m ≤ bs.length ∧ put u = bs.take m ∧ u < 9223372036854775808) ∨
    (get bs = (0, 0, 20) ∧ bs.length ≤ 8 ∧ ∃ m, get (bs ++ [B8 1]) = (m, bs.length + 1, 0)) ∨
    (get bs = (0, 0, 21) ∧ get (bs ++ [B8 1]) = (0, 0, 21)) := by
  rcases getFrom_cases bs 0 0 (by simp) with ⟨u, m, g1, g2, g3, g4, g5, g6, _⟩ | ⟨g1, g2, m, k, g3, g4⟩ | ⟨g1, g2⟩
  · left
    refine ⟨u, m, by simpa [get] using g1, g2, by omega, g4, g5, ?_⟩
    have := pow_nine m (by omega)
    omega
  · right; left
    subst g4
    exact ⟨g1, by omega, m, by simpa [get] using g3⟩
  · right; right
    exact ⟨g1, g2⟩
/-- A fixed word. -/
def fixed (v n : Nat) : List (BitVec 8) := (List.range n).map fun i => B8 (v / 256 ^ i)
def wordFrom : Nat → List (BitVec 8) → Nat
  | _, [] => 0
  | i, c :: cs => c.toNat * 256 ^ i + wordFrom (i + 1) cs
/-- The number whose bytes are these, of more than 8 the first 8. -/
def word (bs : List (BitVec 8)) : Nat := wordFrom 0 (bs.take 8)
theorem wordFrom_snoc (bs : List (BitVec 8)) (c : BitVec 8) : ∀ i, wordFrom i (bs ++ [c]) = wordFrom i bs + c.toNat * 256 ^ (i + bs.length) := by
  induction bs with
  | nil => intro i; simp [wordFrom]
  | cons x xs ih => intro i; simp only [List.cons_append, wordFrom, ih, List.length_cons]; rw [show i + 1 + xs.length = i + (xs.length + 1) by omega]; omega
theorem wordFrom_lt (bs : List (BitVec 8)) : ∀ i, wordFrom i bs + 256 ^ i ≤ 256 ^ (i + bs.length) := by
  induction bs with
  | nil => intro i; simp [wordFrom]
  | cons x xs ih =>
    intro i
    have h := ih (i + 1)
    have hx := lt8 x
    simp only [wordFrom, List.length_cons]
    rw [show i + (xs.length + 1) = i + 1 + xs.length by omega]
    have : (x.toNat + 1) * 256 ^ i ≤ 256 * 256 ^ i := Nat.mul_le_mul_right _ (by omega)
    rw [Nat.pow_succ, Nat.mul_comm (256 ^ i) 256] at h
    rw [Nat.add_mul] at this
    omega
theorem word_lt (bs : List (BitVec 8)) : word bs < 18446744073709551616 := by
  have h := wordFrom_lt (bs.take 8) 0
  have h2 : (bs.take 8).length ≤ 8 := by rw [List.length_take]; omega
  have h3 := Nat.pow_le_pow_right (n := 256) (by omega) h2
  have e : (256 : Nat) ^ 8 = 18446744073709551616 := by decide
  unfold word
  simp only [Nat.pow_zero, Nat.zero_add] at h
  omega
theorem length_fixed (v n : Nat) : (fixed v n).length = n := by simp [fixed]
theorem fixed_succ (v n : Nat) : fixed v (n + 1) = fixed v n ++ [B8 (v / 256 ^ n)] := by
  simp [fixed, List.range_succ]
theorem fixed_word (v : Nat) : ∀ n, wordFrom 0 (fixed v n) = v % 256 ^ n := by
  intro n
  induction n with
  | zero => simp [fixed, wordFrom, Nat.mod_one]
  | succ n ih =>
    rw [fixed_succ, wordFrom_snoc, ih, length_fixed, Nat.zero_add]
    have e : (B8 (v / 256 ^ n)).toNat = v / 256 ^ n % 256 := by unfold B8; rw [BitVec.toNat_ofNat]
    rw [e, Nat.pow_succ, Nat.mod_mul, Nat.mul_comm (256 ^ n)]
theorem word_fixed (v : Nat) (n : Nat) (h : n ≤ 8) : word (fixed v n) = v % 256 ^ n := by
  unfold word; rw [List.take_of_length_le (by rw [length_fixed]; exact h), fixed_word]
theorem fixed_cons (c v n : Nat) (hc : c < 256) : fixed (c + 256 * v) (n + 1) = B8 c :: fixed v n := by
  unfold fixed
  rw [List.range_succ_eq_map, List.map_cons, List.map_map]
  congr 1
  · unfold B8; apply BitVec.eq_of_toNat_eq; simp [BitVec.toNat_ofNat]
  · apply List.map_congr_left
    intro i _
    simp only [Function.comp, Nat.succ_eq_add_one]
    rw [Nat.pow_succ', ← Nat.div_div_eq_div_mul]
    rw [show (c + 256 * v) / 256 = v by omega]
theorem wordFrom_scale (bs : List (BitVec 8)) : ∀ i, wordFrom (i + 1) bs = 256 * wordFrom i bs := by
  induction bs with
  | nil => intro i; rfl
  | cons x xs ih => intro i; simp only [wordFrom, ih (i + 1), Nat.pow_succ]; rw [Nat.mul_add, ← Nat.mul_assoc, Nat.mul_comm _ 256]
theorem fixed_back (bs : List (BitVec 8)) : fixed (wordFrom 0 bs) bs.length = bs := by
  induction bs with
  | nil => rfl
  | cons x xs ih =>
    simp only [wordFrom, Nat.pow_zero, Nat.mul_one, List.length_cons]
    rw [wordFrom_scale xs 0, fixed_cons _ _ _ (lt8 x), ih, B8_val]
theorem fixed_word_back (bs : List (BitVec 8)) (h : bs.length ≤ 8) : fixed (word bs) bs.length = bs := by
  unfold word; rw [List.take_of_length_le h, fixed_back]
end Go.Proofs.Ytalnhhpcncjflaa.Nums
/-
  What the program tells of Put, Get, Fixed and Word.
-/
namespace Go.Proofs.Ytalnhhpcncjflaa.Nums
set_option linter.unusedVariables false
open Go.ChangeShapes Go.WideShapes Go.ChangeAt Go.RowKit
open Go.Proofs.Ytalnhhpcncjflaa.Base
/-- The bytes of any number. -/
def putI (n : Int) : List (BitVec 8) := if n < 0 then [] else put n.toNat
theorem putI_neg (n : Int) (h : n < 0) : putI n = [] := by unfold putI; rw [if_pos h]
theorem putI_nat (m : Nat) : putI (m : Int) = put m := by unfold putI; rw [if_neg (by omega)]; simp
theorem or128 : ∀ c : BitVec 8, (c ||| BitVec.ofNat 8 128).toNat = c.toNat % 128 + 128 := by decide +kernel
theorem put_step (m : Nat) : ∃ d : BitVec 8, bits .or .u8 ((m : Int) % 256) 128 = (d.toNat : Int) ∧ Hid (d = B8 (m % 128 + 128)) := by
  refine ⟨B8 (m % 128 + 128), ?_, rfl⟩
  have e : ((m : Int) % 256) = ((B8 m).toNat : Int) := by unfold B8; rw [BitVec.toNat_ofNat]; omega
  have e2 : (128 : Int) = ((BitVec.ofNat 8 128).toNat : Int) := by decide
  rw [e, e2, u8_or_nat _ _ (lt8 _) (by decide), ← BitVec.toNat_or, or128, B8_toNat (m % 128 + 128) (by omega)]
  unfold B8; rw [BitVec.toNat_ofNat]; omega
theorem last_step (m : Nat) (h : m < 128) : ∃ d : BitVec 8, (m : Int) % 256 = (d.toNat : Int) ∧ Hid (d = B8 m) := by
  refine ⟨B8 m, ?_, rfl⟩
  rw [B8_toNat m (by omega)]; omega
set_option maxHeartbeats 1000000 in
set_option maxRecDepth 10000 in
theorem put_any (n : Int) (w : World) (hw : (Lit.int .i64 n).wf = true) :
    Calls Try.prog 52 #[.int .i64 n] w fun e w' => ∃ v, e = .returned v ∧ Own w' w.heap.size v (putI n) ∧ Below w.heap.size w w' := by
  have hbd := bounds_i64 hw
  obtain ⟨i0, hi, hz0, hz1, hz2⟩ := info_parts info8
  by_cases h0 : n < 0
  · have HP := hide (putI_neg n h0)
    go_enter Try.func52, Try.ntmps52
    go_wp2
    go_ret
    exact ⟨_, rfl, by rw [HP.out]; exact own_none _ _, Below.refl _ _⟩
  · obtain ⟨m, rfl⟩ := Int.eq_ofNat_of_zero_le (by omega : 0 ≤ n)
    have HP := hide (putI_nat m)
    have hm : m < 9223372036854775808 := by omega
    have HL := hide (put_nine m hm)
    go_enter Try.func52, Try.ntmps52
    go_wp2_with (at_make; refine wpList_make_own _ rfl _ _ 37 rfl w.heap.size 5 i0 (.int .u8 0) 1 Try.underlying37 hi hz0 hz1 .i64 .i64 _ 9 rfl rfl (by omega) (by rw [hz2]; omega) (by unfold maxLen; omega) (Nat.le_refl _) ?_
                 intro w1 hown1 hgrow1
                 have HO1 := hide hown1
                 have HB1 : Hid (Below w.heap.size w w1) := (Below.refl _ _).grown hgrow1 (Nat.le_refl _) (by intro k h; cases h)
                 clear hown1 hgrow1)
    go_loopw [0, 3] (fun x o wr => ∃ (k : Nat) (pre : List (BitVec 8)) (a : Option Addr) (c : Nat), x = .int .i64 (k : Int) ∧ o = .slice a pre.length c ∧ k < 9223372036854775808 ∧ Hid (pre ++ put k = put m) ∧ Hid (Own wr w.heap.size (.slice a pre.length c) pre) ∧ Hid (Below w.heap.size w wr)) (fun x _ _ => (intOf x).toNat)
    case atStart => exact ⟨m, [], _, _, rfl, rfl, hm, rfl, HO1.out, HB1⟩
    case round =>
      clear HO1 HB1
      obtain ⟨k, pre, a, c, rfl, rfl, hk, HE, HO, HB⟩ := hrel
      have hsz := HB.out.size
      have hlen : pre.length + (put k).length ≤ 9 := by
        have h := congrArg List.length HE.out
        rw [List.length_append] at h
        have := HL.out.2
        omega
      by_cases hlt : 128 ≤ k
      · obtain ⟨d, hd, HD⟩ := put_step k
        go_wp2_with (at_builtin; refine push _ rfl _ _ rfl w.heap.size _ pre rfl (HO.out.below ((Below.refl wr.heap.size wr).alloc (Nat.le_refl _) _)) ⟨wr.heap.size, 0, none⟩ 1 d rfl ?_ (by omega) (by simp; omega) ?_
                     · exact cell_one_new _ _ _ 0 _ rfl
                     intro v' w4 hown4 hgrow4
                     have HO4 := hide hown4
                     have HG4 := hide hgrow4
                     clear hown4 hgrow4)
        obtain ⟨a', c', hv'⟩ := HO4.out.shape
        subst hv'
        go_roundw
        case rel =>
          refine ⟨k / 128, pre ++ [d], a', c', by go_num, by rw [List.length_append], by omega, ?_, ?_, ?_⟩
          · show pre ++ [d] ++ put (k / 128) = put m
            rw [← HE.out, put_large k hlt, HD.out, List.append_assoc]; rfl
          · show Own _ _ _ _
            exact HO4.out
          · exact ((HB.out.alloc hsz _).grown HG4.out (by simp; omega) (own_blk HO.out))
        case measure => simp [intOf]; omega
      · have hkk : k < 128 := by omega
        have hki : (k : Int) < 128 := by omega
        go_wp2_with (at_builtin; refine push _ rfl _ _ rfl w.heap.size _ pre rfl (HO.out.below ((Below.refl wr.heap.size wr).alloc (Nat.le_refl _) _)) ⟨wr.heap.size, 0, none⟩ 1 (B8 k) rfl ?_ (by omega) (by simp; omega) ?_
                     · rw [B8_toNat k (by omega)]; exact cell_one_new _ _ _ 0 _ rfl
                     intro v' w4 hown4 hgrow4
                     have HO4 := hide hown4
                     have HG4 := hide hgrow4
                     clear hown4 hgrow4)
        obtain ⟨a', c', hv'⟩ := HO4.out.shape
        subst hv'
        go_ret
        refine ⟨_, rfl, ?_, ?_⟩
        · rw [HP.out, ← HE.out, put_small k (by omega)]; exact HO4.out
        · exact ((HB.out.alloc hsz _).grown HG4.out (by simp; omega) (own_blk HO.out))
end Go.Proofs.Ytalnhhpcncjflaa.Nums
