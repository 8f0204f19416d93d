/-
  Sort: a list of the call's own, in order.
-/
import Derived.Test.YtlbplicafcoifaaSoSort
import Derived.Test.YtlbplicafcoifaaSoOwned
namespace Go.Proofs.Ytlbplicafcoifaa.So
open Go.ChangeShapes Go.WideShapes Go.ChangeAt Go.RowKit
open Go.Proofs.Ytlbplicafcoifaa.Base
set_option linter.unusedVariables false
/-- The first i, and behind them zeros. -/
def cpF (L : Nat → Rec) (i : Nat) : Nat → Rec := fun j => if j < i then L j else rec0
theorem cpF_next (L : Nat → Rec) (i : Nat) : setR (cpF L i) i (L i) = cpF L (i + 1) := by
  funext j
  unfold setR cpF
  by_cases e : j = i
  · subst e; rw [if_pos rfl, if_pos (by omega)]
  · rw [if_neg e]
    by_cases h : j < i
    · rw [if_pos h, if_pos (by omega)]
    · rw [if_neg h, if_neg (by omega)]
/-- Sizes that may be copied. -/
def Fine (rs : List Rec) : Prop := ∀ r ∈ rs, r.k.size ≤ 281474976710656 ∧ r.v.size ≤ 281474976710656
theorem Fine.getD {rs : List Rec} (h : Fine rs) (j : Nat) : (rs.getD j rec0).k.size ≤ 281474976710656 ∧ (rs.getD j rec0).v.size ≤ 281474976710656 := by
  rw [List.getD_eq_getElem?_getD]
  cases hq : rs[j]? with
  | none => exact ⟨by decide, by decide⟩
  | some r => exact h r (List.mem_of_getElem? hq)
end Go.Proofs.Ytlbplicafcoifaa.So
