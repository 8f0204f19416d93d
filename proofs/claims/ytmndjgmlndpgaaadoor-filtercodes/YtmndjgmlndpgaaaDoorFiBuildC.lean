/-
  Build, of any keys and bits.
-/
import Derived.Test.YtmndjgmlndpgaaaDoorFiStrs
import Derived.Test.YtmndjgmlndpgaaaDoorFiTurn
namespace Go.Proofs.YtmndjgmlndpgaaaDoor.Filt
open Go.ChangeShapes Go.WideShapes Go.ChangeAt Go.RowKit
open Go.Proofs.YtmndjgmlndpgaaaDoor.Base
set_option linter.unusedVariables false
theorem db_turn_fb {w w' : World} {base g b n c : Nat} {xs : List (BitVec 8)} {A : Bool} {H : Int} {v : Value} (h : FB w g A H v) (ho : Own w base (.slice (some ⟨b, 0, none⟩) n c) xs) (hg : w.grownBy w' (some b)) : FB w' g A H v := fb_turn h ho hg
theorem ret_f2 {F : Fw × Int} {A : Bool} {H E : Int} {D : List (BitVec 8)} {v : Value} (h : F = (⟨A, H, D⟩, E)) : Ending.returned (.tuple #[.agg #[.bool A, .int .i64 H, v], .int .i64 E]) = .returned (.tuple #[.agg #[.bool F.1.all, .int .i64 F.1.hashes, v], .int .i64 F.2]) := by rw [h]
end Go.Proofs.YtmndjgmlndpgaaaDoor.Filt
