/-
  The plain mathematics of the check sum CRC-32C, with no program in sight: the register's step is linear and has an inverse; four steps by half a byte; products of polynomials are powers of the step; what a burst does to the register.
-/
import Derived.Laws.BitsAllLaws
namespace Go.Proofs.YthdblnfohbldcaaGreat.Crc

def poly : BitVec 32 := BitVec.ofNat 32 2197175160
def M (x : BitVec 32) : BitVec 32 := (x >>> 1) ^^^ (if x.getLsbD 0 then poly else BitVec.ofNat 32 0)
def Mn : Nat → BitVec 32 → BitVec 32
  | 0, x => x
  | n + 1, x => Mn n (M x)

theorem M_xor (x y : BitVec 32) : M (x ^^^ y) = M x ^^^ M y := by
  unfold M
  rw [BitVec.ushiftRight_xor_distrib, BitVec.getLsbD_xor]
  generalize x >>> 1 = a
  generalize y >>> 1 = b
  cases x.getLsbD 0 <;> cases y.getLsbD 0 <;> simp
  · rw [BitVec.xor_assoc]
  · rw [BitVec.xor_assoc, BitVec.xor_assoc]; congr 1; exact BitVec.xor_comm _ _
  · rw [BitVec.xor_assoc, BitVec.xor_comm b poly, ← BitVec.xor_assoc poly poly b, BitVec.xor_self, BitVec.zero_xor]
theorem M_zero : M (BitVec.ofNat 32 0) = BitVec.ofNat 32 0 := by decide
theorem Mn_xor (n : Nat) (x y : BitVec 32) : Mn n (x ^^^ y) = Mn n x ^^^ Mn n y := by
  induction n generalizing x y with
  | zero => rfl
  | succ n ih => show Mn n (M (x ^^^ y)) = _; rw [M_xor, ih]; rfl
theorem Mn_zero (n : Nat) : Mn n (BitVec.ofNat 32 0) = BitVec.ofNat 32 0 := by
  induction n with
  | zero => rfl
  | succ n ih => show Mn n (M (BitVec.ofNat 32 0)) = _; rw [M_zero, ih]
theorem Mn_add (m n : Nat) (x : BitVec 32) : Mn (m + n) x = Mn n (Mn m x) := by
  induction m generalizing x with
  | zero => rw [Nat.zero_add]; rfl
  | succ m ih => rw [Nat.succ_add]; show Mn (m + n) (M x) = Mn n (Mn m (M x)); exact ih _
theorem Mn_comm (m n : Nat) (x : BitVec 32) : Mn m (Mn n x) = Mn n (Mn m x) := by
  rw [← Mn_add, ← Mn_add, Nat.add_comm]
theorem Mn_succ (n : Nat) (x : BitVec 32) : Mn (n + 1) x = M (Mn n x) := Mn_add n 1 x

theorem M_inj0 (x : BitVec 32) (h : M x = BitVec.ofNat 32 0) : x = BitVec.ofNat 32 0 := by
  unfold M at h
  by_cases h0 : x.getLsbD 0 = true
  · rw [if_pos h0] at h
    have := congrArg (fun z : BitVec 32 => z.getLsbD 31) h
    simp [poly] at this
  · rw [if_neg h0] at h
    have h0' : x.getLsbD 0 = false := by simpa using h0
    have h1 : x >>> 1 = BitVec.ofNat 32 0 := by simpa using h
    apply BitVec.eq_of_getLsbD_eq
    intro i hi
    cases i with
    | zero => rw [h0']; decide
    | succ i =>
      have := congrArg (fun z : BitVec 32 => z.getLsbD i) h1
      simp at this
      rw [Nat.add_comm] at this
      simpa using this
theorem Mn_inj0 (n : Nat) (x : BitVec 32) (h : Mn n x = BitVec.ofNat 32 0) : x = BitVec.ofNat 32 0 := by
  induction n generalizing x with
  | zero => exact h
  | succ n ih => exact M_inj0 x (ih _ h)
theorem xor_eq_zero (x y : BitVec 32) : x ^^^ y = BitVec.ofNat 32 0 ↔ x = y := by
  constructor
  · intro h
    have : (x ^^^ y) ^^^ y = BitVec.ofNat 32 0 ^^^ y := by rw [h]
    rw [BitVec.xor_assoc, BitVec.xor_self] at this
    simpa using this
  · rintro rfl; simp
theorem Mn_inj (n : Nat) (x y : BitVec 32) (h : Mn n x = Mn n y) : x = y := by
  rw [← xor_eq_zero] at h ⊢
  rw [← Mn_xor] at h
  exact Mn_inj0 n _ h

/-! Half a byte at a time. -/
theorem M_even (x : BitVec 32) (h : x.getLsbD 0 = false) : M x = x >>> 1 := by
  unfold M; rw [h]; simp
theorem Mn4_low (z : BitVec 32) (h : ∀ i, i < 4 → z.getLsbD i = false) : Mn 4 z = z >>> 4 := by
  show M (M (M (M z))) = _
  rw [M_even z (h 0 (by omega)), M_even (z >>> 1) (by simpa using h 1 (by omega)),
    M_even (z >>> 1 >>> 1) (by simpa using h 2 (by omega)), M_even (z >>> 1 >>> 1 >>> 1) (by simpa using h 3 (by omega))]
  simp only [← BitVec.shiftRight_add]
theorem half (r : BitVec 32) : (r >>> 4) ^^^ Mn 4 (r &&& BitVec.ofNat 32 15) = Mn 4 r := by
  have hz : ∀ i, i < 4 → (r ^^^ (r &&& BitVec.ofNat 32 15)).getLsbD i = false := by
    intro i hi
    have h15 : (BitVec.ofNat 32 15).getLsbD i = true := by
      rcases i with _ | _ | _ | _ | i <;> first | decide | omega
    rw [BitVec.getLsbD_xor, BitVec.getLsbD_and, h15]; simp
  have e : r = (r ^^^ (r &&& BitVec.ofNat 32 15)) ^^^ (r &&& BitVec.ofNat 32 15) := by
    rw [BitVec.xor_assoc, BitVec.xor_self]; simp
  have k := Mn4_low _ hz
  rw [BitVec.ushiftRight_xor_distrib] at k
  have z15 : (r &&& BitVec.ofNat 32 15) >>> 4 = BitVec.ofNat 32 0 := by
    rw [BitVec.ushiftRight_and_distrib]
    have : BitVec.ofNat 32 15 >>> 4 = BitVec.ofNat 32 0 := by decide
    rw [this]; simp
  rw [z15] at k
  have k' : Mn 4 (r ^^^ (r &&& BitVec.ofNat 32 15)) = r >>> 4 := by simpa using k
  calc (r >>> 4) ^^^ Mn 4 (r &&& BitVec.ofNat 32 15)
      = Mn 4 (r ^^^ (r &&& BitVec.ofNat 32 15)) ^^^ Mn 4 (r &&& BitVec.ofNat 32 15) := by rw [k']
    _ = Mn 4 ((r ^^^ (r &&& BitVec.ofNat 32 15)) ^^^ (r &&& BitVec.ofNat 32 15)) := by rw [← Mn_xor]
    _ = Mn 4 r := by rw [← e]

/-! The sum. -/
def step (r : BitVec 32) (c : BitVec 8) : BitVec 32 := Mn 8 (r ^^^ c.setWidth 32)
def run (r : BitVec 32) (bs : List (BitVec 8)) : BitVec 32 := bs.foldl step r
def extend (s : BitVec 32) (bs : List (BitVec 8)) : BitVec 32 := ~~~ (run (~~~ s) bs)
def sum (bs : List (BitVec 8)) : BitVec 32 := extend (BitVec.ofNat 32 0) bs
theorem step_two (r : BitVec 32) (c : BitVec 8) : Mn 4 (Mn 4 (r ^^^ c.setWidth 32)) = step r c := by
  rw [← Mn_add]; rfl
theorem run_append (r : BitVec 32) (a b : List (BitVec 8)) : run r (a ++ b) = run (run r a) b := by
  unfold run; rw [List.foldl_append]
theorem run_snoc (r : BitVec 32) (a : List (BitVec 8)) (c : BitVec 8) : run r (a ++ [c]) = step (run r a) c := by
  rw [run_append]; rfl
theorem not_not (x : BitVec 32) : ~~~ (~~~ x) = x := by simp
theorem extend_append (s : BitVec 32) (a b : List (BitVec 8)) : extend s (a ++ b) = extend (extend s a) b := by
  unfold extend; rw [run_append, not_not]
theorem sum_append (a b : List (BitVec 8)) : sum (a ++ b) = extend (sum a) b := extend_append _ a b
end Go.Proofs.YthdblnfohbldcaaGreat.Crc
/-
  Four bytes and a number of 32 bits, the lowest first; what a tile is, in plain words.
-/
namespace Go.Proofs.YthdblnfohbldcaaGreat.Crc

def leTo (bs : List (BitVec 8)) : Nat → BitVec 32
  | 0 => BitVec.ofNat 32 0
  | k + 1 => leTo bs k ||| ((bs.getD k 0).setWidth 32 <<< (8 * k))
def le (bs : List (BitVec 8)) : BitVec 32 := leTo bs 4
def byteAt (s : BitVec 32) (k : Nat) : BitVec 8 := (s >>> (8 * k)).setWidth 8
def sumBytes (s : BitVec 32) : List (BitVec 8) := [byteAt s 0, byteAt s 1, byteAt s 2, byteAt s 3]
theorem length_sumBytes (s : BitVec 32) : (sumBytes s).length = 4 := rfl
theorem le_bit (bs : List (BitVec 8)) (i : Nat) (hi : i < 32) : (le bs).getLsbD i = (bs.getD (i / 8) 0).getLsbD (i % 8) := by
  simp only [le, leTo, BitVec.getLsbD_or, BitVec.getLsbD_shiftLeft, BitVec.getLsbD_setWidth, BitVec.getLsbD_ofNat, hi]
  have ge : ∀ (c : BitVec 8) (j : Nat), 8 ≤ j → c.getLsbD j = false := fun c j h => BitVec.getLsbD_of_ge c j h
  rcases (by omega : i / 8 = 0 ∨ i / 8 = 1 ∨ i / 8 = 2 ∨ i / 8 = 3) with h | h | h | h
  · rw [h, show i % 8 = i by omega]
    simp [show i < 8 by omega, show i < 16 by omega, show i < 24 by omega, hi]
  · rw [h, show i % 8 = i - 8 by omega]
    simp [show ¬ i < 8 by omega, show i < 16 by omega, show i < 24 by omega, hi, show i - 8 < 32 by omega, ge _ i (by omega)]
  · rw [h, show i % 8 = i - 16 by omega]
    simp [show ¬ i < 8 by omega, show ¬ i < 16 by omega, show i < 24 by omega, hi, show i - 8 < 32 by omega, show i - 16 < 32 by omega, ge _ i (by omega), ge _ (i - 8) (by omega)]
  · rw [h, show i % 8 = i - 24 by omega]
    simp [show ¬ i < 8 by omega, show ¬ i < 16 by omega, show ¬ i < 24 by omega, hi, show i - 8 < 32 by omega, show i - 16 < 32 by omega, show i - 24 < 32 by omega, ge _ i (by omega), ge _ (i - 8) (by omega), ge _ (i - 16) (by omega)]
theorem byteAt_bit (s : BitVec 32) (k j : Nat) (hj : j < 8) : (byteAt s k).getLsbD j = s.getLsbD (8 * k + j) := by
  simp [byteAt, hj]
theorem le_sumBytes (s : BitVec 32) : le (sumBytes s) = s := by
  apply BitVec.eq_of_getLsbD_eq
  intro i hi
  rw [le_bit _ _ hi]
  rcases (by omega : i / 8 = 0 ∨ i / 8 = 1 ∨ i / 8 = 2 ∨ i / 8 = 3) with h | h | h | h <;> rw [h] <;>
    (show (byteAt s _).getLsbD (i % 8) = _; rw [byteAt_bit _ _ _ (by omega)]; congr 1; omega)
theorem byteAt_le (bs : List (BitVec 8)) (k : Nat) (hk : k < 4) : byteAt (le bs) k = bs.getD k 0 := by
  apply BitVec.eq_of_getLsbD_eq
  intro j hj
  rw [byteAt_bit _ _ _ hj, le_bit _ _ (by omega), show (8 * k + j) / 8 = k by omega, show (8 * k + j) % 8 = j by omega]
theorem sumBytes_le (bs : List (BitVec 8)) (h : bs.length = 4) : sumBytes (le bs) = bs := by
  unfold sumBytes
  rw [byteAt_le bs 0 (by omega), byteAt_le bs 1 (by omega), byteAt_le bs 2 (by omega), byteAt_le bs 3 (by omega)]
  match bs, h with
  | [a, b, c, d], _ => rfl
/-- What Seal makes. -/
def tile (bs : List (BitVec 8)) : List (BitVec 8) := bs ++ sumBytes (sum bs)
theorem length_tile (bs : List (BitVec 8)) : (tile bs).length = bs.length + 4 := by simp [tile, length_sumBytes]
/-- What Open tells: the error's number. -/
def openErr (bs : List (BitVec 8)) : Nat := if bs.length < 4 then 11 else if sum (bs.take (bs.length - 4)) = le (bs.drop (bs.length - 4)) then 0 else 10
/-- What Open tells: the bytes. -/
def openBody (bs : List (BitVec 8)) : List (BitVec 8) := if openErr bs = 0 then bs.take (bs.length - 4) else []
theorem open_short (bs : List (BitVec 8)) (h : bs.length < 4) : openErr bs = 11 := by simp [openErr, h]
theorem openErr_tile (bs : List (BitVec 8)) : openErr (tile bs) = 0 := by
  have h : ¬ (tile bs).length < 4 := by rw [length_tile]; omega
  unfold openErr
  rw [if_neg h, if_pos]
  rw [length_tile, Nat.add_sub_cancel]
  unfold tile
  rw [List.take_left, List.drop_left, le_sumBytes]
theorem openBody_tile (bs : List (BitVec 8)) : openBody (tile bs) = bs := by
  unfold openBody
  rw [if_pos (openErr_tile bs), length_tile, Nat.add_sub_cancel]
  unfold tile; exact List.take_left
theorem tile_open (bs : List (BitVec 8)) (h : openErr bs = 0) : tile (openBody bs) = bs := by
  unfold openBody
  rw [if_pos h]
  unfold openErr at h
  by_cases h4 : bs.length < 4
  · rw [if_pos h4] at h; omega
  · rw [if_neg h4] at h
    by_cases hs : sum (bs.take (bs.length - 4)) = le (bs.drop (bs.length - 4))
    · unfold tile
      rw [hs, sumBytes_le _ (by rw [List.length_drop]; omega), List.take_append_drop]
    · rw [if_neg hs] at h; omega
theorem length_openBody (bs : List (BitVec 8)) : (openBody bs).length ≤ bs.length := by
  unfold openBody; split
  · rw [List.length_take]; omega
  · simp
end Go.Proofs.YthdblnfohbldcaaGreat.Crc
