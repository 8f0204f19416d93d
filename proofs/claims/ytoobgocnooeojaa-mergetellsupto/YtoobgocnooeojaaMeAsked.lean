/-
  asked: how often all sources were asked.
-/
import Derived.Test.YtoobgocnooeojaaMeRunC
namespace Go.Proofs.Ytoobgocnooeojaa.Me
open Go.ChangeShapes Go.WideShapes Go.ChangeAt Go.RowKit
open Go.Proofs.Ytoobgocnooeojaa.Base
set_option linter.unusedVariables false
def asksOf (fd : Nat → Fd) (j : Nat) : Nat := (fd j).asks
set_option maxHeartbeats 4000000 in
set_option maxRecDepth 100000 in
theorem asked_any (al : Option Addr) (cl lo : Nat) (gs : List Nat) (fd : Nat → Fd) (w : World) (hrow : w.ownsRow lo 54 1 (.slice al gs.length cl) gs.length (ptrs gs)) (hfb : ∀ j, j < gs.length → FB w (gs.getD j 0) (fd j)) (hn : gs.length ≤ 4611686018427387904) (hs : sumN (asksOf fd) gs.length ≤ 4611686018427387904) :
    Calls Try.prog 18 #[.slice al gs.length cl] w fun e w' => e = .returned (.int .i64 (sumN (asksOf fd) gs.length : Int)) ∧ w' = w := by
  have HPT := hide (fun j (hj : j < gs.length) => ptr_at hrow j hj)
  have HFR := hide hfb
  clear hrow hfb
  obtain ⟨N, hN⟩ : ∃ N, gs.length = N := ⟨_, rfl⟩
  rw [hN] at HPT HFR hn hs ⊢
  clear hN
  obtain ⟨S, hS⟩ : ∃ S, sumN (asksOf fd) N = S := ⟨_, rfl⟩
  have HSS := hide hS
  rw [hS] at hs ⊢
  clear hS
  go_enter Try.func18, Try.ntmps18
  go_wp2_with fail
  go_loopw [3, 4] (fun s3 s4 wr => ∃ i q : Nat, i ≤ N ∧ .int .i64 (q : Int) = s3 ∧ .int .i64 (i : Int) = s4 ∧ w = wr ∧ Hid (sumN (asksOf fd) i = q)) (fun _ s4 _ => N - (intOf s4).toNat)
  case atStart => exact ⟨0, 0, by omega, rfl, rfl, rfl, rfl⟩
  case round =>
    obtain ⟨i, q, hi, rfl, rfl, rfl, HQ⟩ := hrel
    by_cases hin : i < N
    · have hii : (i : Int) < (N : Int) := by omega
      obtain ⟨b, hal, hbl, c0⟩ := HPT.out i hin
      subst hal
      have f0 := (HFR.out i hin).cells.2.2.2.1
      have HQ1 : Hid (sumN (asksOf fd) (i + 1) = q + (fd i).asks) := by show sumN _ _ = _; unfold sumN; rw [HQ.out]; rfl
      have HQ2 : Hid (q + (fd i).asks ≤ S) := by
        have h1 := HQ1.out
        have h2 := HSS.out
        have h3 : sumN (asksOf fd) (i + 1) ≤ sumN (asksOf fd) N := sum_mono (asksOf fd) (by omega)
        show q + _ ≤ S
        omega
      generalize (fd i).asks = L at f0 HQ1 HQ2
      obtain ⟨q2, hq2⟩ : ∃ q2, q + L = q2 := ⟨_, rfl⟩
      have hwq : IntKind.i64.wrap ((q : Int) + (L : Int)) = (q2 : Int) := by have h1 := HQ2.out; rw [IntKind.wrap_i64]; omega
      rw [hq2] at HQ1
      clear hq2
      generalize gs.getD i 0 = gi at c0 f0
      go_wp2_with fail
      go_roundw
      case rel => exact ⟨i + 1, q2, by omega, rfl, by go_num, by first | rfl | trivial, HQ1⟩
      case measure => simp [intOf]; omega
    · obtain rfl : i = N := by omega
      go_wp2_with fail
      go_ret
      exact ⟨by rw [← HSS.out, HQ.out]; rfl, rfl⟩
end Go.Proofs.Ytoobgocnooeojaa.Me
