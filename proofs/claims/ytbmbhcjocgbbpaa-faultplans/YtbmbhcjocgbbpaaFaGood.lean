/-
  Whether an entry may be: the document's good.
-/
import Derived.Test.YtbmbhcjocgbbpaaFaMayC
namespace Go.Proofs.Ytbmbhcjocgbbpaa.Fa
open Go.ChangeShapes Go.WideShapes Go.ChangeAt Go.RowKit
open Go.Proofs.Ytbmbhcjocgbbpaa.Base
set_option linter.unusedVariables false
def stopB (f : Flt) : Bool := isTk f.j f.t && isNm f.m f.r && isPl f.p && isNk f.q
def damB (f : Flt) : Bool := isMp f.j f.t && isMo f.m f.r
set_option maxHeartbeats 1000000 in
set_option maxRecDepth 100000 in
theorem stop_any (f : Flt) (w : World) (ht : 0 ≤ f.t) :
    Calls Try.prog 57 #[f.val] w fun e w' => e = .returned (.bool (stopB f)) ∧ Below w.heap.size w w' := by
  have HE : Hid (stopB f = (isTk f.j f.t && isNm f.m f.r && isPl f.p && isNk f.q)) := rfl
  generalize stopB f = b at HE
  obtain ⟨k, j, t, a, m, r, p, q⟩ := f
  unfold Flt.val
  unfold isNk at HE
  simp only at ht HE ⊢
  generalize q.toNat = n at HE
  go_enter Try.func57, Try.ntmps57
  go_wp2_with fail
  all_goals (go_ret; refine ⟨ret_bool ?_, ba (b0 _) _⟩; rw [HE.out, Bool.eq_iff_iff]; simp [isTk, isMp, isRd, isNm, isPl]; (first | done | omega))
set_option maxHeartbeats 1000000 in
set_option maxRecDepth 100000 in
theorem damage_any (f : Flt) (w : World) (ht : 0 ≤ f.t) :
    Calls Try.prog 58 #[f.val] w fun e w' => e = .returned (.bool (damB f)) ∧ Below w.heap.size w w' := by
  have HE : Hid (damB f = (isMp f.j f.t && isMo f.m f.r)) := rfl
  generalize damB f = b at HE
  obtain ⟨k, j, t, a, m, r, p, q⟩ := f
  unfold Flt.val
  simp only at ht HE ⊢
  generalize q.toNat = n
  go_enter Try.func58, Try.ntmps58
  go_wp2_with fail
  all_goals (go_ret; refine ⟨ret_bool ?_, ba (b0 _) _⟩; rw [HE.out, Bool.eq_iff_iff]; simp [isMp, isMo]; (first | done | omega))
end Go.Proofs.Ytbmbhcjocgbbpaa.Fa
