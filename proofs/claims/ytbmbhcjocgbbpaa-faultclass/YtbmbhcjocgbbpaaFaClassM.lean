/-
  What damage makes of a file: which bits differ, which bytes.
-/
import Derived.Test.YtbmbhcjocgbbpaaFaDamage
import Derived.Test.YtbmbhcjocgbbpaaFaChk
namespace Go.Proofs.Ytbmbhcjocgbbpaa.Fa
open Go.Proofs.Ytbmbhcjocgbbpaa.St
set_option linter.unusedVariables false
theorem chk_one (f : Flt) : chk [f] = if may f = true then 0 else 160 := by
  unfold chk
  rw [if_neg (by simp)]
  by_cases h : may f = true
  · rw [if_pos h, if_pos ⟨by simp [h], by simp⟩]
  · rw [if_neg h, if_neg (fun e => h (by simpa using e.1))]
theorem dam_plain {bs : List (BitVec 8)} {f : Flt} (h : may f = false ∨ f.k = 0) : damL bs f = bs := by
  unfold damL
  split
  · rename_i hm
    rcases h with h | h
    · rw [hm] at h; cases h
    · rw [if_neg (by omega), if_neg (by omega)]
  · rfl
theorem may_sort {f : Flt} (h : may f = true) (hk : ¬ f.k = 0) : (f.k = 1 ∧ 0 ≤ f.p ∧ isOd f.q = true) ∨ (f.k = 2 ∧ -268435456 ≤ f.p ∧ f.p ≤ 4096) := by
  unfold may at h
  simp only [Bool.and_eq_true, Bool.or_eq_true, decide_eq_true_eq] at h
  rcases h.2 with (h1 | h1) | h1
  · exact absurd h1.1 hk
  · exact .inl ⟨h1.1, of_decide_eq_true h1.2.1.2, h1.2.2⟩
  · have h2 := of_decide_eq_true h1.2.1.2
    exact .inr ⟨h1.1, h2.1, h2.2.1⟩
theorem odd_bit {q : BitVec 32} (h : isOd q = true) : q.getLsbD 0 = true := by
  have h1 : q.toNat % 2 = 1 := of_decide_eq_true h
  rw [BitVec.getLsbD, Nat.testBit_zero, decide_eq_true h1]
/-- Do the two files differ at bit i? -/
theorem bdiff (bs : List (BitVec 8)) (F : Nat) (q : BitVec 32) (i : Nat) (hi : i < 8 * bs.length) : (((flipTo bs F q 32).getD (i / 8) 0 ^^^ bs.getD (i / 8) 0) >>> (i % 8)).getLsbD 0 = (decide (F ≤ i ∧ i < F + 32) && q.getLsbD (i - F)) := by
  have h := bitAt_flipTo bs F q i hi 32
  unfold bitAt at h
  rw [BitVec.getLsbD_ushiftRight, Nat.add_zero, BitVec.getLsbD_xor, h]
  rw [Bool.xor_comm (bs.getD (i / 8) 0 |>.getLsbD (i % 8)), Bool.xor_assoc, Bool.xor_self, Bool.xor_false]
theorem low8 (x : BitVec 8) : (x.toNat : Int) % 2 = if x.getLsbD 0 then 1 else 0 := by
  have : x.getLsbD 0 = decide (x.toNat % 2 = 1) := by
    rw [BitVec.getLsbD, Nat.testBit_zero]
  rw [this]
  by_cases h : x.toNat % 2 = 1
  · simp [h]; omega
  · simp [h]; omega
theorem bshr8 (k : Nat) (x : BitVec 8) : (x.toNat : Int) / (2 : Int) ^ k = ((x >>> k).toNat : Int) := by
  rw [BitVec.toNat_ushiftRight, Nat.shiftRight_eq_div_pow, Int.natCast_ediv, Int.natCast_pow]; rfl
theorem res_len (bs : List (BitVec 8)) (p : Int) : (resL bs p).length = ((bs.length : Int) + p).toNat := by
  unfold resL
  rw [List.length_append, List.length_take, List.length_replicate]
  omega
theorem res_in (bs : List (BitVec 8)) (p : Int) (i : Nat) (hi : i < ((bs.length : Int) + p).toNat) (h : i < bs.length) : (resL bs p).getD i 0 = bs.getD i 0 := by
  unfold resL
  rw [List.getD_eq_getElem?_getD, List.getElem?_append_left (by rw [List.length_take]; omega), List.getElem?_take, if_pos hi, List.getD_eq_getElem?_getD]
theorem res_out (bs : List (BitVec 8)) (p : Int) (i : Nat) (hi : i < ((bs.length : Int) + p).toNat) (h : bs.length ≤ i) : (resL bs p).getD i 0 = 0 := by
  unfold resL
  rw [List.getD_eq_getElem?_getD, List.getElem?_append_right (by rw [List.length_take]; omega), List.getElem?_replicate]
  split <;> rfl
/-- Where the first and the last bit that differ lie, behind i bits. -/
def Seen (F i : Nat) (fi la : Int) : Prop := (i ≤ F ∧ fi = -1 ∧ la = -1) ∨ (F < i ∧ fi = (F : Int) ∧ (F : Int) ≤ la ∧ la ≤ (F : Int) + 31)
end Go.Proofs.Ytbmbhcjocgbbpaa.Fa
