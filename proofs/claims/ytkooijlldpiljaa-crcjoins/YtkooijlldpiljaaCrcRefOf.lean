/-
  The document's own answer: a linear map out of what it makes of each bit.
-/
import Derived.Test.YtkooijlldpiljaaCrcRef
import Derived.Test.YtkooijlldpiljaaCrcJoinMath
import Derived.Deep.RegionHeld
namespace Go.Proofs.Ytkooijlldpiljaa.Crc
open Go.ChangeShapes Go.WideShapes Go.ChangeAt Go.RowKit
/-- The cells of the map 'M, e times'. -/
def mat (e : Nat) : Array Value := Array.ofFn (n := 32) fun j => .int .u32 ((Mn e (BitVec.ofNat 32 1 <<< j.val)).toNat : Int)
theorem mat_size (e : Nat) : (mat e).size = 32 := by simp [mat]
theorem mat_get (e j : Nat) (h : j < 32) : (mat e)[j]? = some (.int .u32 ((Mn e (BitVec.ofNat 32 1 <<< j)).toNat : Int)) := by
  rw [Array.getElem?_eq_getElem (by rw [mat_size]; exact h)]
  simp [mat]
theorem bit_tmod (x : BitVec 32) (k : Nat) : (((x.toNat : Int) / (2 : Int) ^ k).tmod 2 == 1) = x.getLsbD k := by
  have e1 : (x.toNat : Int) / (2 : Int) ^ k = ((x.toNat / 2 ^ k : Nat) : Int) := by
    rw [Int.natCast_ediv, Int.natCast_pow]; rfl
  rw [e1, Int.tmod_eq_emod_of_nonneg (Int.natCast_nonneg _), BitVec.getLsbD, Nat.testBit_eq_decide_div_mod_eq]
  rw [Bool.eq_iff_iff]
  simp
  omega
set_option maxHeartbeats 400000 in
theorem of_any (e : Nat) (x : BitVec 32) (w : World) :
    Calls Try.prog 26 #[.agg (mat e), .int .u32 (x.toNat : Int)] w fun en w' => en = .returned (.int .u32 ((Mn e x).toNat : Int)) ∧ Below w.heap.size w w' := by
  have HG := hide (fun k (h : k < 32) => mat_get e k h)
  generalize mat e = A at HG
  go_enter Try.func26, Try.ntmps26
  go_wp2
  go_loop [5, 6] (fun y i => ∃ k : Nat, k ≤ 32 ∧ i = .int .i64 k ∧ ∃ Y : BitVec 32, y = .int .u32 (Y.toNat : Int) ∧ Hid (Y = ofTo (Mn e) x k)) (fun _ i => 32 - (intOf i).toNat)
  case atStart => exact ⟨0, Nat.zero_le _, rfl, BitVec.ofNat 32 0, rfl, rfl⟩
  case round =>
    obtain ⟨k, hk, rfl, Y, rfl, HY⟩ := hrel
    by_cases hlt : k < 32
    · have h1 := bit_tmod x k
      have hg := HG.out k hlt
      generalize hV : Mn e (BitVec.ofNat 32 1 <<< k) = V at hg
      have HV := hide hV
      clear hV
      have hbx := bxor Y V
      obtain ⟨Z, HZ⟩ : ∃ Z, Hid (Z = Y ^^^ V) := ⟨_, rfl⟩
      rw [← HZ.out] at hbx
      cases hb : x.getLsbD k
      · rw [hb] at h1
        have eZ : Hid (Y = ofTo (Mn e) x (k + 1)) := by
          show Y = (if x.getLsbD k then ofTo (Mn e) x k ^^^ Mn e (BitVec.ofNat 32 1 <<< k) else ofTo (Mn e) x k)
          rw [hb]; exact HY.out
        clear hb
        go_wp2
        go_round
        case rel => exact ⟨k + 1, by omega, by go_num, Y, rfl, eZ⟩
        case measure => simp [intOf]; omega
      · rw [hb] at h1
        have eZ : Hid (Z = ofTo (Mn e) x (k + 1)) := by
          show Z = (if x.getLsbD k then ofTo (Mn e) x k ^^^ Mn e (BitVec.ofNat 32 1 <<< k) else ofTo (Mn e) x k)
          rw [hb, if_pos rfl, HV.out, HZ.out, HY.out]
        clear hb
        go_wp2
        go_round
        case rel => exact ⟨k + 1, by omega, by go_num, Z, rfl, eZ⟩
        case measure => simp [intOf]; omega
    · have hk' : k = 32 := by omega
      subst hk'
      go_wp2
      go_ret
      exact ⟨ret_int (by rw [HY.out, ofTo_all]), (Below.refl _ _).alloc (Nat.le_refl _) _⟩
end Go.Proofs.Ytkooijlldpiljaa.Crc
