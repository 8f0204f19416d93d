/-
  Lists of entries, held against each other.
-/
import Derived.Test.YtbmbhcjocgbbpaaFaNeq
import Derived.Test.YtbmbhcjocgbbpaaFaList
namespace Go.Proofs.Ytbmbhcjocgbbpaa.Fa
open Go.ChangeShapes Go.WideShapes Go.ChangeAt Go.RowKit
open Go.Proofs.Ytbmbhcjocgbbpaa.Base
set_option linter.unusedVariables false
set_option maxHeartbeats 4000000 in
set_option maxRecDepth 100000 in
theorem sameF_eq (a b : Option Addr) (la ca lb cb : Nat) (xs : List Flt) (w : World) (hx : RdL w a la xs) (hy : RdL w b lb xs) (hm : la ≤ 4611686018427387904) :
    Calls Try.prog 24 #[.slice a la ca, .slice b lb cb] w fun e w' => e = .returned (.bool true) ∧ ∃ q, w' = w.drewN q := by
  obtain ⟨hlx, hcx⟩ := hx
  obtain ⟨hly, hcy⟩ := hy
  obtain rfl : la = lb := hlx.symm.trans hly
  have HCX := hide hcx
  have HCY := hide hcy
  clear hlx hly hcx hcy
  have he : ((la : Int) != (la : Int)) = false := by simp
  go_enter Try.func24, Try.ntmps24
  go_wp2
  go_loopw [5] (fun i wr => ∃ k : Nat, k ≤ la ∧ i = .int .i64 k ∧ ∃ n, wr = w.drewN n) (fun i _ => la - (intOf i).toNat)
  case atStart => exact ⟨0, Nat.zero_le _, rfl, 0, rfl⟩
  case round =>
    obtain ⟨k, hk, rfl, n, rfl⟩ := hrel
    by_cases hlt : k < la
    · obtain ⟨b1, o1, rfl, hb1, hc1⟩ := unhide HCX (by omega)
      obtain ⟨b2, o2, rfl, hb2, hc2⟩ := unhide HCY (by omega)
      obtain ⟨c0, c1, c2, c3, c4, c5, c6, c7⟩ := hc1 k hlt
      obtain ⟨d0, d1, d2, d3, d4, d5, d6, d7⟩ := hc2 k hlt
      clear hc1 hc2
      have hki : (k : Int) < (la : Int) := by omega
      generalize xs.getD k f0 = f at c0 c1 c2 c3 c4 c5 c6 c7 d0 d1 d2 d3 d4 d5 d6 d7
      go_wp2
      go_quiet (fail)
      go_wp2
      go_roundw
      case rel => exact ⟨k + 1, by omega, by go_num, n + nq, rfl⟩
      case measure => simp [intOf]; omega
    · go_wp2
      go_ret
      exact ⟨rfl, n, rfl⟩
end Go.Proofs.Ytbmbhcjocgbbpaa.Fa
