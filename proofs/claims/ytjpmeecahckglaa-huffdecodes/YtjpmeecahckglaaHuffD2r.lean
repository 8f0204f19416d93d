/-
  The document's bit of some bytes.
-/
import Derived.Test.YtjpmeecahckglaaHuffD2
namespace Go.Proofs.Ytjpmeecahckglaa.Huff
open Go.ChangeShapes Go.WideShapes Go.ChangeAt Go.RowKit
open Go.Proofs.Ytjpmeecahckglaa.Base
set_option linter.unusedVariables false
set_option maxHeartbeats 1000000 in
theorem bit_any (a : Option Addr) (len cap : Nat) (r : List (BitVec 8)) (i : Nat) (w : World) (hr : Rd w a len r) (hi : i < 8 * len) :
    Calls Try.prog 34 #[.slice a len cap, .int .i64 (i : Int)] w fun e w' => e = .returned (.int .u32 (bitAt r i : Int)) ∧ w' = w := by
  obtain ⟨hl, hm, hc⟩ := hr
  obtain ⟨b1, o1, rfl, hb1, hc1⟩ := hc (by omega)
  have g1 := hc1 (i / 8) (by omega)
  have hii : (i : Int) ≤ 1125899906842624 := by omega
  have h8 : (i : Int) / 8 < (len : Int) := by omega
  obtain ⟨c, hcc⟩ : ∃ c, r.getD (i / 8) 0 = c := ⟨_, rfl⟩
  rw [hcc] at g1
  have HB : Hid ((bitAt r i : Int) = (c.toNat : Int) / 2 ^ (i % 8) % 4294967296 % 2) := by show _ = _; rw [bit_mod]; unfold bitAt; rw [hcc]
  clear hc hc1 hl hcc
  go_enter Try.func34, Try.ntmps34
  go_wp2_with fail
  go_ret
  exact ⟨ret_int HB.out.symm, rfl⟩
end Go.Proofs.Ytjpmeecahckglaa.Huff
