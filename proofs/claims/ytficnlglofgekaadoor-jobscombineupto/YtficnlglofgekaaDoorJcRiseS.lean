/-
  The numbers of texts, rising, as texts again.
-/
import Derived.Test.YtficnlglofgekaaDoorJcRise
namespace Go.Proofs.YtficnlglofgekaaDoor.Jb
open Go.ChangeShapes Go.WideShapes Go.ChangeAt Go.RowKit
open Go.Lib hiding intOf
open Go.Proofs.YtficnlglofgekaaDoor.Base
open Go.Proofs.YtficnlglofgekaaDoor.Pa (OwnS RdS)
set_option linter.unusedVariables false
def riseS (ss : List ByteArray) : List ByteArray := (riseL (numsL ss)).map dec
theorem riseL_in {xs : List Int} (h : ∀ v ∈ xs, In64 v) : ∀ v ∈ riseL xs, In64 v := fun v hv => by
  unfold riseL at hv
  rcases (rise_mem xs [] v).1 hv with e | e
  · exact h v e
  · cases e
theorem getI_mem {xs : List Int} {i : Nat} (h : i < xs.length) : xs.getD i 0 ∈ xs := by
  rw [List.getD_eq_getElem?_getD, List.getElem?_eq_getElem h]; exact List.getElem_mem h
end Go.Proofs.YtficnlglofgekaaDoor.Jb
