/-
  The statements' own check: works.
-/
import Derived.Test.YtmndjgmlndpgaaaDoorFiBuildC
namespace Go.Proofs.YtmndjgmlndpgaaaDoor.Filt
open Go.ChangeShapes Go.WideShapes Go.ChangeAt Go.RowKit
open Go.Proofs.YtmndjgmlndpgaaaDoor.Base
set_option linter.unusedVariables false
def sA : ByteArray := ⟨#[97]⟩
def bitsA : List (BitVec 8) := laidBits [sA] 6 (List.replicate 1 0)
theorem built_one : builtF [sA] 8 = (⟨false, 6, bitsA⟩, 0) := rfl
theorem built_none : builtF [] 8 = (⟨false, 0, []⟩, 0) := rfl
theorem has_none (s : ByteArray) : hasF false 0 [] s = false := by
  unfold hasF
  rw [show kindN false 0 ([] : List (BitVec 8)).length = 0 by decide]
  rfl
theorem bitsA_len : bitsA.length = 1 := by unfold bitsA; rw [laidBits_len]; simp
theorem has_one : hasF false 6 bitsA sA = true := by
  unfold hasF
  rw [bitsA_len, show kindN false 6 1 = 2 by decide]
  exact laid_has [sA] 6 (List.replicate 1 0) (by simp) sA (by simp)
theorem rds_one (w : World) (fr : Nat × Nat) : RdS (w.alloc (.cells #[.string sA] 9 fr)) (some ⟨w.heap.size, 0, none⟩) 1 [sA] := by
  refine ⟨rfl, by omega, ?_, fun _ => ⟨w.heap.size, 0, rfl, by simp, fun i hi => ?_⟩⟩
  · intro s hs
    have : s = sA := by simpa using hs
    rw [this]; decide
  · have : i = 0 := by omega
    subst this
    rw [World.cell?_alloc_mark]; rfl
end Go.Proofs.YtmndjgmlndpgaaaDoor.Filt
