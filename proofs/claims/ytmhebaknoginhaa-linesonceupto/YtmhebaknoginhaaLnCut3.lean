/-
  Cut, its errors too.
-/
import Derived.Test.YtmhebaknoginhaaLnCut2
namespace Go.Proofs.Ytmhebaknoginhaa.Ln
open Go.ChangeShapes Go.WideShapes Go.ChangeAt Go.RowKit
open Go.Proofs.Ytmhebaknoginhaa.Base Go.Proofs.Ytmhebaknoginhaa.Rf
set_option linter.unusedVariables false
def cutErr (n : Int) (len : Nat) : Int := if 4194304 < n ∨ 256 ≤ len then 2 else if n < 0 then 3 else 0
def cutN (n : Int) (len : Nat) : Nat := if cutErr n len = 0 then len + 1 else 0
theorem cut_long (n : Int) (a : Option Addr) (len cap : Nat) (w : World) (h : 4194304 < n ∨ 256 ≤ len) (hl : len ≤ 9223372036854775807) :
    Calls Try.prog 19 #[.int .i64 n, .slice a len cap] w fun e w' => e = .returned (.tuple #[.slice none 0 0, .int .i64 2]) ∧ Below w.heap.size w w' := by
  by_cases h1 : 4194304 < n
  · go_enter Try.func19, Try.ntmps19
    go_wp2_with fail
    go_ret2
    exact ⟨rfl, Below.refl _ _⟩
  · have h2 : (256 : Int) ≤ (len : Int) := by omega
    clear h
    go_enter Try.func19, Try.ntmps19
    go_wp2_with fail
    go_ret2
    exact ⟨rfl, Below.refl _ _⟩
theorem cut_arg (n : Int) (a : Option Addr) (len cap : Nat) (w : World) (h : n < 0) (hl : len ≤ 255) :
    Calls Try.prog 19 #[.int .i64 n, .slice a len cap] w fun e w' => e = .returned (.tuple #[.slice none 0 0, .int .i64 3]) ∧ Below w.heap.size w w' := by
  have h1 : ¬ 4194304 < n := by omega
  have h2 : ¬ (256 : Int) ≤ (len : Int) := by omega
  go_enter Try.func19, Try.ntmps19
  go_wp2_with fail
  go_ret2
  exact ⟨rfl, Below.refl _ _⟩
theorem cut_any (n : Int) (a : Option Addr) (cap : Nat) (xs : List Int) (w : World) (hr : RdI w a xs.length xs) :
    Calls Try.prog 19 #[.int .i64 n, .slice a xs.length cap] w fun e w' => ∃ v, e = .returned (.tuple #[v, .int .i64 (cutErr n xs.length)]) ∧ OwnF w' w.heap.size 33 2 v (cutN n xs.length) (pf n.toNat xs) ∧ Below w.heap.size w w' := by
  have hb := hr.2.1
  unfold cutN cutErr
  by_cases h1 : 4194304 < n ∨ 256 ≤ xs.length
  · rw [if_pos h1, if_neg (by omega)]
    exact (cut_long n a _ cap w h1 (by omega)).mono fun e w' ⟨h, hb⟩ => ⟨_, h, ownf_none _ _ _ _ _, hb⟩
  · rw [if_neg h1]
    by_cases h2 : n < 0
    · rw [if_pos h2, if_neg (by omega)]
      exact (cut_arg n a _ cap w h2 (by omega)).mono fun e w' ⟨h, hb⟩ => ⟨_, h, ownf_none _ _ _ _ _, hb⟩
    · rw [if_neg h2, if_pos rfl]
      obtain ⟨m, rfl⟩ : ∃ m : Nat, n = (m : Int) := ⟨n.toNat, by omega⟩
      exact cut_ok m a cap xs w (by omega) hr (by omega)
end Go.Proofs.Ytmhebaknoginhaa.Ln
