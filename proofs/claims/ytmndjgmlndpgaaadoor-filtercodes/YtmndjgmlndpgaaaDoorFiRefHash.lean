/-
  The document's Hash: the same two numbers.
-/
import Derived.Test.YtmndjgmlndpgaaaDoorFiHash
namespace Go.Proofs.YtmndjgmlndpgaaaDoor.Filt
open Go.ChangeShapes Go.WideShapes Go.ChangeAt Go.RowKit
set_option linter.unusedVariables false
set_option maxHeartbeats 1000000 in
set_option maxRecDepth 100000 in
theorem refHash_any (s : ByteArray) (w : World) (hs : s.size ≤ 9223372036854775807) :
    Calls Tryd.prog 33 #[.string s] w fun e w' => e = .returned (.tuple #[.int .u64 (hashX s : Nat), .int .u64 (hashY s : Nat)]) ∧ w' = w := by
  go_enter Tryd.func33, Tryd.ntmps33
  go_wp2_with fail
  go_loopw [4, 5] (fun h i wr => ∃ (H k : Nat), k ≤ s.size ∧ h = .int .u64 (H : Int) ∧ i = .int .i64 (k : Int) ∧ Hid (H = hashTo s k) ∧ wr = w) (fun _ i _ => s.size - (intOf i).toNat)
  case atStart => exact ⟨14695981039346656037, 0, Nat.zero_le _, rfl, rfl, rfl, rfl⟩
  case round =>
    obtain ⟨H, k, hk, rfl, rfl, HH, rfl⟩ := hrel
    have HL : Hid (H < 18446744073709551616) := hide (by rw [HH.out]; exact hashTo_lt s k)
    by_cases hlt : k < s.size
    · have hi : (k : Int) < (s.size : Int) := by omega
      obtain ⟨x, hx, e1, e2⟩ := letters_step H s[k].toNat HL.out s[k].toNat_lt
      have HN : Hid (hstep H s[k].toNat = hashTo s (k + 1)) := by
        show _ = hstep _ _; rw [← HH.out, txt_get s k hlt]
      generalize hstep H s[k].toNat = H2 at e2 HN
      have e0 : IntKind.u64.wrap (s[k].toNat : Int) = (s[k].toNat : Int) := by rw [IntKind.wrap_u64]; have := s[k].toNat_lt; omega
      clear hx
      go_wp2_with fail
      go_roundw
      case rel => exact ⟨H2, k + 1, by omega, by first | rfl | rw [e2], by go_num, HN, by first | trivial | rfl⟩
      case measure => simp [intOf]; omega
    · have hke : k = s.size := by omega
      have HN : Hid (hashX s = H) := by show _ = _; rw [HH.out, hke]; rfl
      obtain ⟨z1, x1, z2, x2, z3, x3, h1, h2, h3, e1, e2, e3, e4, e5, e6, e7⟩ := letters_mix H HL.out
      have HY : Hid (hashY s = mixC (mixB (mixA ((H + 11400714819323198485) % 18446744073709551616)))) := by show _ = _; unfold hashY; rw [HN.out]
      generalize mixC (mixB (mixA ((H + 11400714819323198485) % 18446744073709551616))) = Y at e7 HY
      go_wp2_with fail
      go_ret2
      exact ⟨by rw [HN.out, HY.out]; rfl, rfl⟩
end Go.Proofs.YtmndjgmlndpgaaaDoor.Filt
