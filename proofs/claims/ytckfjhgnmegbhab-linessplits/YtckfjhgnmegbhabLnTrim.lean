/-
  TrimSuffix of a line feed.
-/
import Derived.Test.YtckfjhgnmegbhabLnFirst
namespace Go.Proofs.Ytckfjhgnmegbhab.Ln
open Go.ChangeShapes Go.WideShapes Go.ChangeAt Go.RowKit
open Go.Proofs.Ytckfjhgnmegbhab.Base
set_option linter.unusedVariables false
def trimNL (s : ByteArray) : ByteArray := if 0 < s.size ∧ bt s (s.size - 1) = 10 then s.extract 0 (s.size - 1) else s
theorem last_eq (s : ByteArray) (h : 0 < s.size) (b : Bool) (hb : decide (bt s (s.size - 1) = 10) = b) : ((s.extract (s.size - 1) s.size).toList == [10]) = b := by
  have e : (s.extract (s.size - 1) s.size).toList = [bt s (s.size - 1)] := by
    rw [ByteArray.toList_eq]
    have hz : (s.extract (s.size - 1) s.size).size = 1 := by rw [ByteArray.size_extract]; omega
    apply List.ext_getElem
    · simpa using hz
    · intro i h1 h2
      obtain rfl : i = 0 := by simp at h2; omega
      simp
      exact (bt_get s (s.size - 1) (by omega)).symm
  rw [e, ← hb]
  by_cases h10 : bt s (s.size - 1) = 10 <;> simp [h10]
/-- The line number k, as All cuts it out. -/
theorem trim_line (T : ByteArray) (k : Nat) (h : k < cnt T) : trimNL (T.extract (pl T k) (pl T (k + 1))) = ln T k := by
  obtain ⟨g1, g2⟩ := pl_step T k h
  have hz : (T.extract (pl T k) (pl T (k + 1))).size = pl T (k + 1) - pl T k := by rw [ByteArray.size_extract]; omega
  unfold trimNL ln en
  rw [hz, bt_extract T _ _ _ (by omega) g2, show pl T k + (pl T (k + 1) - pl T k - 1) = pl T (k + 1) - 1 by omega]
  by_cases hb : bt T (pl T (k + 1) - 1) = 10
  · rw [if_pos ⟨by omega, hb⟩, if_pos hb, extract_extract T _ _ _ _ (by omega) g2]
    congr 1 <;> omega
  · rw [if_neg (fun h => hb h.2), if_neg hb]
end Go.Proofs.Ytckfjhgnmegbhab.Ln
