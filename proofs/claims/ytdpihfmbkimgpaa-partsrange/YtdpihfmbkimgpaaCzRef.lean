/-
  The document's own answers: the register's step, Extend, Sum.
-/
import Derived.Test.YtdpihfmbkimgpaaCzMem
namespace Go.Proofs.Ytdpihfmbkimgpaa.Crc
set_option linter.unusedVariables false
open Go.Proofs.Ytdpihfmbkimgpaa.Base
open Go.ChangeShapes Go.WideShapes Go.ChangeAt Go.RowKit
theorem refM_any (x : BitVec 32) (w : World) :
    Calls Try.prog 54 #[.int .u32 (x.toNat : Int)] w fun e w' => e = .returned (.int .u32 ((M x).toNat : Int)) ∧ w' = w := by
  have h1 := low_bit x
  cases hb : x.getLsbD 0
  · rw [hb] at h1
    have h2 : ((x.toNat : Int) % 2 == 1) = false := by rw [h1]; rfl
    have H := M_even_val x hb
    clear h1 hb
    go_enter Try.func54, Try.ntmps54
    go_wp2
    go_ret
    exact ⟨rfl, rfl⟩
  · rw [hb] at h1
    have h2 : ((x.toNat : Int) % 2 == 1) = true := by rw [h1]; rfl
    have H := M_odd_val x hb
    clear h1 hb
    go_enter Try.func54, Try.ntmps54
    go_wp2
    go_ret
    exact ⟨rfl, rfl⟩
set_option maxHeartbeats 1000000 in
set_option maxRecDepth 100000 in
theorem refExtend_any (s : BitVec 32) (a : Option Addr) (len cap : Nat) (bs : List (BitVec 8)) (w : World) (hr : Rd w a len bs) :
    Calls Try.prog 39 #[.int .u32 (s.toNat : Int), .slice a len cap] w fun e w' => e = .returned (.int .u32 ((extend s bs).toNat : Int)) ∧ w' = w := by
  obtain ⟨hl, hm, hc⟩ := hr
  have HL : Hid (bs.length = len) := hl
  clear hl
  have HC := hide hc
  clear hc
  obtain ⟨n0, hn0, HN0⟩ := not_step s
  have hsg := u32s
  go_enter Try.func39, Try.ntmps39
  go_wp2
  go_loop [5, 6] (fun r i => ∃ k : Nat, k ≤ len ∧ i = .int .i64 k ∧ ∃ R : BitVec 32, r = .int .u32 (R.toNat : Int) ∧ Hid (R = run (~~~s) (bs.take k))) (fun _ i => len - (intOf i).toNat)
  case atStart => exact ⟨0, Nat.zero_le _, rfl, n0, rfl, by rw [HN0.out]; rfl⟩
  case round =>
    obtain ⟨k, hk, rfl, R, rfl, HR⟩ := hrel
    by_cases hlt : k < len
    · obtain ⟨b, off, rfl, hbl, hcell⟩ := unhide HC (by omega)
      have hck := hcell k hlt
      clear hcell
      generalize hC : bs.getD k 0 = c at hck
      have HCc := hide hC
      clear hC
      obtain ⟨X, h1, HX⟩ := byte_step R c
      have hd : decide ((k : Int) < (len : Int)) = true := by simp; omega
      have hki : (k : Int) < (len : Int) := by omega
      go_wp2
      go_loopw [5, 7] (fun r i wr => ∃ j : Nat, j ≤ 8 ∧ i = .int .i64 j ∧ (∃ Y : BitVec 32, r = .int .u32 (Y.toNat : Int) ∧ Hid (Y = Mn j X)) ∧ wr = w) (fun _ i _ => 8 - (intOf i).toNat)
      case atStart => exact ⟨0, Nat.zero_le _, rfl, ⟨X, rfl, rfl⟩, rfl⟩
      case round =>
        obtain ⟨j, hj, rfl, ⟨Y, rfl, HY⟩, rfl⟩ := hrel
        by_cases hjl : j < 8
        · go_wp2_with fail
          refine (refM_any _ _).mono ?_
          rintro e w' ⟨rfl, rfl⟩
          go_wp2_with fail
          go_roundw
          case rel => exact ⟨j + 1, by omega, by go_num, ⟨M Y, rfl, by show M Y = _; rw [HY.out, Mn_succ]⟩, trivial⟩
          case measure => simp [intOf]; omega
        · have hj8 : j = 8 := by omega
          subst hj8
          go_wp2
          go_round
          case rel =>
            refine ⟨k + 1, by omega, by go_num, Y, rfl, ?_⟩
            show Y = _
            rw [getD_take bs k (by have := HL.out; omega), run_snoc, ← HR.out, HCc.out, HY.out, HX.out]
            rfl
          case measure => simp [intOf]; omega
    · obtain ⟨n1, hn1, HN1⟩ := not_step R
      go_wp2
      go_ret
      refine ⟨ret_int ?_, rfl⟩
      rw [HN1.out, HR.out, List.take_of_length_le (by have := HL.out; omega)]
      rfl
theorem refSum_any (a : Option Addr) (len cap : Nat) (bs : List (BitVec 8)) (w : World) (hr : Rd w a len bs) :
    Calls Try.prog 24 #[.slice a len cap] w fun e w' => e = .returned (.int .u32 ((sum bs).toNat : Int)) ∧ w' = w := by
  go_enter Try.func24, Try.ntmps24
  go_wp2_with fail
  refine (refExtend_any (BitVec.ofNat 32 0) a len cap bs _ hr).mono ?_
  rintro e w1 ⟨rfl, rfl⟩
  go_wp2_with fail
  go_ret
  exact ⟨rfl, rfl⟩
end Go.Proofs.Ytdpihfmbkimgpaa.Crc
