/-
  Bytes cut to the bound of a blob.
-/
import Derived.Test.YtdcjhjpbkpiddaaStInv4
import Derived.Test.YtdcjhjpbkpiddaaCut
namespace Go.Proofs.Ytdcjhjpbkpiddaa.St
open Go.ChangeShapes Go.WideShapes Go.ChangeAt Go.RowKit Go.MuLone
open Go.Proofs.Ytdcjhjpbkpiddaa.Base
set_option linter.unusedVariables false
set_option maxHeartbeats 1000000
theorem cut_h (b off len cap e : Nat) (h : e ≤ cap) : ∀ W, (Instr.sliceAt 25 (.slice (some ⟨b, off, none⟩) len cap) none (some (.int .i64 (e : Int))) none).run Try.prog W = .ok (.slice (some ⟨b, off, none⟩) e cap) W := by
  intro W
  rw [run_sliceAt_slice (h := el8), run_slice_h (ht := el8) (h0 := by omega) (h2 := by omega), sz8]
  simp only [Result.andThen, sliced, Int.toNat_natCast]
  by_cases hc : cap = 0
  · subst hc
    simp
  · simp [Addr.add]
def fitted (bs : List (BitVec 8)) : List (BitVec 8) := bs.take 268435456
theorem fit_any (a : Option Addr) (len cap : Nat) (bs : List (BitVec 8)) (w : World) (hr : Rd w a len bs) (hc : len ≤ cap) (hcm : cap ≤ 140737488351232) (hz : a = none → len = 0 ∧ cap = 0) :
    Calls Try.prog 7 #[.slice a len cap] w fun e w' => ∃ len', e = .returned (.slice a len' cap) ∧ Rd w a len' (fitted bs) ∧ len' ≤ 268435456 ∧ len' ≤ len ∧ w' = w := by
  by_cases h : 268435456 < len
  · obtain ⟨b, off, rfl, hlt, hcc⟩ := hr.2.2 (by omega)
    have hcut := cut_h b off len cap 268435456 (by omega)
    have hR := hide (hr.cut 268435456 (by omega))
    have hli : (268435456 : Int) < (len : Int) := by omega
    clear hr hcc
    go_enter Try.func7, Try.ntmps7
    go_wp2_with fail
    go_ret
    exact ⟨_, rfl, hR.out, Nat.le_refl _, by omega, rfl⟩
  · have hR : Hid (Rd w a len (fitted bs)) := by show Rd _ _ _ _; unfold fitted; rw [List.take_of_length_le (by have := hr.1; omega)]; exact hr
    have hli : ¬ (268435456 : Int) < (len : Int) := by omega
    clear hr
    go_enter Try.func7, Try.ntmps7
    go_wp2_with fail
    go_ret
    exact ⟨_, rfl, hR.out, by omega, Nat.le_refl _, rfl⟩
end Go.Proofs.Ytdcjhjpbkpiddaa.St
