/-
  The two numbers of a key: the program's Hash and the document's.
-/
import Derived.Test.YtmndjgmlndpgaaaDoorProg
import Derived.WalkKit
import Derived.Deep.QuietTactic
import Derived.BigQuiet
import Derived.WalkSmall
import Derived.ProofKit
import Derived.OpenShut
import Derived.SizedLaws
import Derived.Below
import Derived.Laws.BitsAllLaws
namespace Go.Proofs.YtmndjgmlndpgaaaDoor.Filt
open Go.ChangeShapes Go.WideShapes Go.ChangeAt Go.RowKit
set_option linter.unusedVariables false
theorem hide {p : Prop} (h : p) : Hid p := h
theorem Hid.out {p : Prop} (h : Hid p) : p := h
def hstep (h : Nat) (c : Nat) : Nat := (h ^^^ c) * 1099511628211 % 18446744073709551616
/-- The first number of the first k bytes of a key. -/
def hashTo (s : ByteArray) : Nat → Nat
  | 0 => 14695981039346656037
  | k + 1 => hstep (hashTo s k) ((s.data.toList.getD k 0).toNat)
def mixA (z : Nat) : Nat := (z ^^^ z / 1073741824) * 13787848793156543929 % 18446744073709551616
def mixB (z : Nat) : Nat := (z ^^^ z / 134217728) * 10723151780598845931 % 18446744073709551616
def mixC (z : Nat) : Nat := (z ^^^ z / 2147483648) ||| 1
def hashX (s : ByteArray) : Nat := hashTo s s.size
def hashY (s : ByteArray) : Nat := mixC (mixB (mixA ((hashX s + 11400714819323198485) % 18446744073709551616)))
theorem hstep_lt (h c : Nat) : hstep h c < 18446744073709551616 := by unfold hstep; omega
theorem hashTo_lt (s : ByteArray) (k : Nat) : hashTo s k < 18446744073709551616 := by
  cases k with
  | zero => unfold hashTo; omega
  | succ k => exact hstep_lt _ _
theorem mixA_lt (z : Nat) : mixA z < 18446744073709551616 := by unfold mixA; omega
theorem mixB_lt (z : Nat) : mixB z < 18446744073709551616 := by unfold mixB; omega
theorem mixC_lt (z : Nat) (h : z < 18446744073709551616) : mixC z < 18446744073709551616 := by
  unfold mixC
  have h1 : z ^^^ z / 2147483648 < 2 ^ 64 := Nat.xor_lt_two_pow h (by omega)
  have : (z ^^^ z / 2147483648) ||| 1 < 2 ^ 64 := Nat.or_lt_two_pow h1 (by omega)
  exact this
theorem txt_get (s : ByteArray) (k : Nat) (h : k < s.size) : s.data.toList.getD k 0 = s[k] := by
  have hl : k < s.data.toList.length := by rw [Array.length_toList]; exact h
  rw [List.getD_eq_getElem?_getD, List.getElem?_eq_getElem hl]
  rfl
theorem xor_step (a c : Nat) (ha : a < 18446744073709551616) (hc : c < 256) : bits .xor .u64 (a : Int) (c : Int) = ((a ^^^ c : Nat) : Int) :=
  u64_xor_nat a c ha (by omega)
theorem xor_lt (a c : Nat) (ha : a < 18446744073709551616) (hc : c < 18446744073709551616) : a ^^^ c < 18446744073709551616 :=
  Nat.xor_lt_two_pow (n := 64) ha hc
/-- What the walk is handed of a step of the loop: letters for the numbers between. -/
theorem letters_step (h c : Nat) (hh : h < 18446744073709551616) (hc : c < 256) : ∃ x : Nat, x < 18446744073709551616 ∧ bits .xor .u64 (h : Int) (c : Int) = (x : Int) ∧ IntKind.u64.wrap ((x : Int) * 1099511628211) = (hstep h c : Nat) :=
  ⟨h ^^^ c, xor_lt _ _ hh (by omega), xor_step h c hh hc, by rw [IntKind.wrap_u64]; unfold hstep; omega⟩
theorem letters_mix (h : Nat) (hh : h < 18446744073709551616) : ∃ z1 x1 z2 x2 z3 x3 : Nat, z1 ≤ 18446744073709551615 ∧ z2 ≤ 18446744073709551615 ∧ z3 ≤ 18446744073709551615 ∧
    IntKind.u64.wrap ((h : Int) + 11400714819323198485) = (z1 : Int) ∧ bits .xor .u64 (z1 : Int) ((z1 : Int) / 1073741824) = (x1 : Int) ∧ IntKind.u64.wrap ((x1 : Int) * 13787848793156543929) = (z2 : Int) ∧
    bits .xor .u64 (z2 : Int) ((z2 : Int) / 134217728) = (x2 : Int) ∧ IntKind.u64.wrap ((x2 : Int) * 10723151780598845931) = (z3 : Int) ∧
    bits .xor .u64 (z3 : Int) ((z3 : Int) / 2147483648) = (x3 : Int) ∧ bits .or .u64 (x3 : Int) 1 = ((mixC (mixB (mixA ((h + 11400714819323198485) % 18446744073709551616))) : Nat) : Int) := by
  have h1 : (h + 11400714819323198485) % 18446744073709551616 < 18446744073709551616 := by omega
  generalize e : (h + 11400714819323198485) % 18446744073709551616 = z1 at h1
  have h2 := mixA_lt z1
  have h3 := mixB_lt (mixA z1)
  have hx3 := xor_lt (mixB (mixA z1)) (mixB (mixA z1) / 2147483648) h3 (by omega)
  refine ⟨z1, z1 ^^^ z1 / 1073741824, mixA z1, mixA z1 ^^^ mixA z1 / 134217728, mixB (mixA z1), mixB (mixA z1) ^^^ mixB (mixA z1) / 2147483648, by omega, by omega, by omega, by rw [IntKind.wrap_u64]; omega, ?_, ?_, ?_, ?_, ?_, ?_⟩
  · exact u64_xor_nat z1 (z1 / 1073741824) h1 (by omega)
  · rw [IntKind.wrap_u64]; unfold mixA; omega
  · exact u64_xor_nat (mixA z1) (mixA z1 / 134217728) h2 (by omega)
  · generalize mixA z1 = q; rw [IntKind.wrap_u64]; unfold mixB; omega
  · exact u64_xor_nat _ (mixB (mixA z1) / 2147483648) h3 (by omega)
  · exact u64_or_nat _ 1 hx3 (by omega)
set_option maxHeartbeats 1000000 in
set_option maxRecDepth 100000 in
theorem hash_any (s : ByteArray) (w : World) (hs : s.size ≤ 9223372036854775807) :
    Calls Tryd.prog 31 #[.string s] w fun e w' => e = .returned (.tuple #[.int .u64 (hashX s : Nat), .int .u64 (hashY s : Nat)]) ∧ w' = w := by
  go_enter Tryd.func31, Tryd.ntmps31
  go_wp2_with fail
  go_loopw [4, 9] (fun h i wr => ∃ (H k : Nat), k ≤ s.size ∧ h = .int .u64 (H : Int) ∧ i = .int .i64 (k : Int) ∧ Hid (H = hashTo s k) ∧ wr = w) (fun _ i _ => s.size - (intOf i).toNat)
  case atStart => exact ⟨14695981039346656037, 0, Nat.zero_le _, rfl, rfl, rfl, rfl⟩
  case round =>
    obtain ⟨H, k, hk, rfl, rfl, HH, rfl⟩ := hrel
    have HL : Hid (H < 18446744073709551616) := hide (by rw [HH.out]; exact hashTo_lt s k)
    by_cases hlt : k < s.size
    · have hi : (k : Int) < (s.size : Int) := by omega
      obtain ⟨x, hx, e1, e2⟩ := letters_step H s[k].toNat HL.out s[k].toNat_lt
      have HN : Hid (hstep H s[k].toNat = hashTo s (k + 1)) := by
        show _ = hstep _ _; rw [← HH.out, txt_get s k hlt]
      generalize hstep H s[k].toNat = H2 at e2 HN
      have e0 : IntKind.u64.wrap (s[k].toNat : Int) = (s[k].toNat : Int) := by rw [IntKind.wrap_u64]; have := s[k].toNat_lt; omega
      clear hx
      go_wp2_with fail
      go_roundw
      case rel => exact ⟨H2, k + 1, by omega, by first | rfl | rw [e2], by go_num, HN, by first | trivial | rfl⟩
      case measure => simp [intOf]; omega
    · have hke : k = s.size := by omega
      have HN : Hid (hashX s = H) := by show _ = _; rw [HH.out, hke]; rfl
      obtain ⟨z1, x1, z2, x2, z3, x3, h1, h2, h3, e1, e2, e3, e4, e5, e6, e7⟩ := letters_mix H HL.out
      have HY : Hid (hashY s = mixC (mixB (mixA ((H + 11400714819323198485) % 18446744073709551616)))) := by show _ = _; unfold hashY; rw [HN.out]
      generalize mixC (mixB (mixA ((H + 11400714819323198485) % 18446744073709551616))) = Y at e7 HY
      go_wp2_with fail
      go_ret2
      exact ⟨by rw [HN.out, HY.out]; rfl, rfl⟩
end Go.Proofs.YtmndjgmlndpgaaaDoor.Filt
