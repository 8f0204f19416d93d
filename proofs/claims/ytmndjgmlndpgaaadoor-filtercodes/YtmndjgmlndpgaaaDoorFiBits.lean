/-
  A key's bits: asked and set.
-/
import Derived.Test.YtmndjgmlndpgaaaDoorFiHash
import Derived.Test.YtmndjgmlndpgaaaDoorFiClone
namespace Go.Proofs.YtmndjgmlndpgaaaDoor.Filt
open Go.ChangeShapes Go.WideShapes Go.ChangeAt Go.RowKit
open Go.Proofs.YtmndjgmlndpgaaaDoor.Base
set_option linter.unusedVariables false
/-- Is bit i set? -/
def bitOn (bs : List (BitVec 8)) (i : Nat) : Bool := decide ((bs.getD (i / 8) 0).toNat / 2 ^ (i % 8) % 2 = 1)
/-- Bit i is set. -/
def setOn (bs : List (BitVec 8)) (i : Nat) : List (BitVec 8) := bs.set (i / 8) (bs.getD (i / 8) 0 ||| BitVec.ofNat 8 (2 ^ (i % 8)))
theorem setOn_len (bs : List (BitVec 8)) (i : Nat) : (setOn bs i).length = bs.length := by simp [setOn]
theorem and1_u8 (x f : Nat) (hx : x < 256) : bits .and .u8 ((x : Int) / 2 ^ f) 1 = ((x / 2 ^ f % 2 : Nat) : Int) := by
  have e : ((x : Int) / 2 ^ f) = ((x / 2 ^ f : Nat) : Int) := by simp
  have h : x / 2 ^ f < 256 := Nat.lt_of_le_of_lt (Nat.div_le_self _ _) hx
  rw [e]
  generalize x / 2 ^ f = s at h
  have e1 : (1 : Int) = ((1 : Nat) : Int) := rfl
  rw [e1, u8_and_nat s 1 h (by omega)]
  congr 1
  exact Nat.and_one_is_mod s
set_option maxHeartbeats 1000000 in
set_option maxRecDepth 100000 in
theorem ask1_any (g b off len cap B : Nat) (bs : List (BitVec 8)) (w : World) (hc : w.cell? ⟨g, 0, none⟩ = some (.slice (some ⟨b, off, none⟩) len cap)) (hr : Rd w (some ⟨b, off, none⟩) len bs) (hB : B < 8 * len) (hl : len ≤ 140737488351232) :
    Calls Tryd.prog 32 #[.int .u64 (B : Int), .pointer (some ⟨g, 0, none⟩)] w fun e w' => e = .returned (.bool (bitOn bs B)) ∧ w' = w := by
  obtain ⟨b', off', e, _, hcell⟩ := hr.2.2 (by omega)
  cases e
  obtain ⟨t, ht⟩ : ∃ t, B / 8 = t := ⟨_, rfl⟩
  obtain ⟨f, hf⟩ : ∃ f, B % 8 = f := ⟨_, rfl⟩
  have g1 := hcell t (by omega)
  have HE : Hid (bitOn bs B = decide ((bs.getD t 0).toNat / 2 ^ f % 2 = 1)) := by show _ = _; unfold bitOn; rw [ht, hf]
  have hx := lt8 (bs.getD t 0)
  generalize (bs.getD t 0).toNat = x at g1 HE hx
  have hand := and1_u8 x f hx
  generalize x / 2 ^ f % 2 = d at hand HE
  have hti : (B : Int) / 8 = (t : Int) := by omega
  have hfi : (B : Int) % 8 = (f : Int) := by omega
  have htl : (t : Int) < (len : Int) := by omega
  have hf8 : (f : Int) < 64 := by omega
  have HD : Hid (((d : Int) == 1) = decide (d = 1)) := by
    show _ = _
    by_cases h : d = 1
    · rw [h]; rfl
    · rw [decide_eq_false h, beq_eq_false_iff_ne]; omega
  clear hcell hr ht hf
  go_enter Tryd.func32, Tryd.ntmps32
  go_wp2_with fail
  go_ret
  rw [HE.out]
  exact ⟨ret_bool HD.out, rfl⟩
theorem or_u8 (x : BitVec 8) (f : Nat) (hf : f < 8) : bits .or .u8 (x.toNat : Int) (2 ^ f % 256) = ((x ||| BitVec.ofNat 8 (2 ^ f)).toNat : Int) := by
  have h2 : (2 : Nat) ^ f < 256 := Nat.lt_of_lt_of_le (Nat.pow_lt_pow_right (by decide) hf) (by decide)
  have e : ((2 : Int) ^ f % 256) = ((2 ^ f : Nat) : Int) := by
    have e1 : ((2 : Int) ^ f) = ((2 ^ f : Nat) : Int) := by simp
    rw [e1]; generalize 2 ^ f = P at h2; omega
  rw [e, u8_or_nat _ _ (lt8 x) h2, BitVec.toNat_or, BitVec.toNat_ofNat, Nat.mod_eq_of_lt (by omega)]
end Go.Proofs.YtmndjgmlndpgaaaDoor.Filt
