/-
  Encode and the document's Encode at any text, the too long ones among them.
-/
import Derived.Test.YtckfkilpoimikaaLzR9
import Derived.Test.YtckfkilpoimikaaLzE4
namespace Go.Proofs.Ytckfkilpoimikaa.Lz
open Go.ChangeShapes Go.WideShapes Go.ChangeAt Go.RowKit
open Go.Proofs.Ytckfkilpoimikaa.Base Go.Proofs.Ytckfkilpoimikaa.Nums
set_option linter.unusedVariables false
/-- What Encode answers. -/
def encd (x : Txt) : List (BitVec 8) × Int := if 65536 < x.length then ([], 2) else (bytesOf (ownFrom x 0 0), 0)
theorem encd_len (x : Txt) : (encd x).1.length ≤ 1835008 := by
  unfold encd
  split
  · simp
  · have h := good_bytes _ 0 x.length (by omega) (own_good x (by omega) x.length 0 0 (by omega) (Nat.le_refl _) (Nat.zero_le _)).1
    simp only
    omega
theorem encode_all (a : Option Addr) (len cap : Nat) (x : Txt) (w : World) (hr : Rd w a len x) (hcap : len ≤ cap) (hm : cap ≤ 9223372036854775807) (hl : len ≤ 140737488355328) (hz : a = none → len = 0 ∧ cap = 0) :
    Calls Try.prog 9 #[.slice a len cap] w fun e w' => ∃ v, e = .returned (.tuple #[v, .int .i64 (encd x).2]) ∧ Own w' w.heap.size v (encd x).1 ∧ Below w.heap.size w w' := by
  by_cases h : 65536 < len
  · refine (encode_long a len cap w h hl).mono ?_
    rintro e w1 ⟨rfl, rfl⟩
    unfold encd
    rw [if_pos (by rw [hr.1]; exact h)]
    exact ⟨_, rfl, own_none _ _, Below.refl _ _⟩
  · refine (encode_any a len cap x w hr hcap hm (by omega) hz).mono ?_
    rintro e w1 ⟨v, rfl, h1, h2⟩
    unfold encd
    rw [if_neg (by rw [hr.1]; exact h)]
    exact ⟨v, rfl, h1, h2⟩
theorem refEncode_all (a : Option Addr) (len cap : Nat) (x : Txt) (w : World) (hr : Rd w a len x) (hcap : len ≤ cap) (hm : cap ≤ 9223372036854775807) (hl : len ≤ 140737488355328) (hz : a = none → len = 0 ∧ cap = 0) :
    Calls Try.prog 21 #[.slice a len cap] w fun e w' => ∃ v, e = .returned (.tuple #[v, .int .i64 (encd x).2]) ∧ Own w' w.heap.size v (encd x).1 ∧ Below w.heap.size w w' := by
  by_cases h : 65536 < len
  · refine (refEncode_long a len cap w h hl).mono ?_
    rintro e w1 ⟨rfl, rfl⟩
    unfold encd
    rw [if_pos (by rw [hr.1]; exact h)]
    exact ⟨_, rfl, own_none _ _, Below.refl _ _⟩
  · refine (refEncode_any a len cap x w hr hcap hm (by omega) hz).mono ?_
    rintro e w1 ⟨v, rfl, h1, h2⟩
    rw [own_written x (by rw [hr.1]; omega)] at h1 ⊢
    unfold encd
    rw [if_neg (by rw [hr.1]; exact h)]
    exact ⟨v, rfl, h1, h2⟩
end Go.Proofs.Ytckfkilpoimikaa.Lz
