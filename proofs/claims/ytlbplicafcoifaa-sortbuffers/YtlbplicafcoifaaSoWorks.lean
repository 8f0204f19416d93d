/-
  The statements' small example.
-/
import Derived.Test.YtlbplicafcoifaaSoSortC
namespace Go.Proofs.Ytlbplicafcoifaa.So
open Go.ChangeShapes Go.WideShapes Go.ChangeAt Go.RowKit
open Go.Proofs.Ytlbplicafcoifaa.Base
set_option linter.unusedVariables false
def xb : Rec := ⟨1, ⟨#[98]⟩, ⟨#[]⟩⟩
def x1 : Rec := ⟨0, ⟨#[122]⟩, ⟨#[49]⟩⟩
def x2 : Rec := ⟨0, ⟨#[122]⟩, ⟨#[50]⟩⟩
theorem three_sorted : isort [xb, x1, x2] = [x1, x2, xb] := rfl
end Go.Proofs.Ytlbplicafcoifaa.So
