/-
  Which damage is asked for; what a plan gives up.
-/
import Derived.Test.YtbmbhcjocgbbpabFaPlanA
namespace Go.Proofs.Ytbmbhcjocgbbpab.Fa
open Go.ChangeShapes Go.WideShapes Go.ChangeAt Go.RowKit
open Go.Proofs.Ytbmbhcjocgbbpab.Base
set_option linter.unusedVariables false
/-- Is the entry damage of that instant? -/
def isDue (x : P4) (f : Flt) : Bool := !(f.k == 0) && (f.t == x.1 && (f.a == x.2.1 && (f.m == x.2.2.1 && f.r == x.2.2.2)))
/-- Two lists of the call's own lie apart. -/
def Ap2 (v u : Value) : Prop := ∀ i, v.ownBlock = some i → u.ownBlock ≠ some i
theorem Ap2.symm {v u : Value} (h : Ap2 v u) : Ap2 u v := fun i e e2 => h i e2 e
theorem filter_snoc (P : Flt → Bool) (fs : List Flt) (i : Nat) (f : Flt) (hi : i < fs.length) (hf : fs.getD i f0 = f) : (fs.take (i + 1)).filter P = if P f = true then (fs.take i).filter P ++ [f] else (fs.take i).filter P := by
  rw [take_all fs i f hi hf, List.filter_append]
  by_cases h : P f = true
  · rw [if_pos h]; simp [h]
  · rw [if_neg h]; simp [h]
theorem filter_len (P : Flt → Bool) (fs : List Flt) (i : Nat) : ((fs.take i).filter P).length ≤ i := Nat.le_trans (List.length_filter_le _ _) (List.length_take_le _ _)
/-- Own memory that is added to lies apart from the other list. -/
theorem ap_push {v u : Value} {g n c sz : Nat} (h : Ap2 v u) (hu : ∀ i, u.ownBlock = some i → i < sz) (hg : v.ownBlock = some g ∨ g = sz) : Ap2 (.slice (some ⟨g, 0, none⟩) n c) u := by
  intro i e e2
  have e3 : g = i := Option.some.inj e
  subst e3
  rcases hg with hg | hg
  · exact h g hg e2
  · have := hu g e2; omega
end Go.Proofs.Ytbmbhcjocgbbpab.Fa
