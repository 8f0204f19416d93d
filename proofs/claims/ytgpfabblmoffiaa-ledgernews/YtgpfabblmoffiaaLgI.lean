/-
  Are the books that were handed in as they were, marks and all?
-/
import Derived.Test.YtgpfabblmoffiaaLgH
import Derived.Deep.RegionHeld
namespace Go.Proofs.Ytgpfabblmoffiaa.Lg
open Go.ChangeShapes Go.WideShapes Go.ChangeAt Go.RowKit
open Go.Proofs.Ytgpfabblmoffiaa.Base Go.Proofs.Ytgpfabblmoffiaa.Rf
set_option linter.unusedVariables false
def rmL (L : List TS) : List TS := L ++ List.replicate 64 mk1
theorem rmL_len (L : List TS) : (rmL L).length = L.length + 64 := by simp [rmL]
theorem rmL_get (L : List TS) (k : Nat) (hk : k < L.length + 64) : rmF L k = (rmL L).getD k z0 := by
  unfold rmF rmL
  rw [List.getD_eq_getElem?_getD, List.getD_eq_getElem?_getD]
  by_cases h : k < L.length
  · rw [if_pos h, List.getElem?_append_left h]
  · rw [if_neg h, List.getElem?_append_right (by omega), List.getElem?_replicate, if_pos (by omega)]; rfl
theorem Rm.wide {w : World} {base g n : Nat} {L : List TS} (h : Rm w base g L) (hl : L.length = n) (h2 : n ≤ 5864062014464) : RdT w (some ⟨g, 0, none⟩) (n + 64) (rmL L) := by
  subst hl
  exact TF.rdt h (rmL L) _ (rmL_len L) (Nat.le_refl _) (by omega) (fun k hk => rmL_get L k hk)
end Go.Proofs.Ytgpfabblmoffiaa.Lg
