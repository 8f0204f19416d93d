/-
  The document's own answer: Encode.
-/
import Derived.Test.YtcchknpgkcmneaaLzR8
namespace Go.Proofs.Ytcchknpgkcmneaa.Lz
open Go.ChangeShapes Go.WideShapes Go.ChangeAt Go.RowKit
open Go.Proofs.Ytcchknpgkcmneaa.Base Go.Proofs.Ytcchknpgkcmneaa.Nums
set_option linter.unusedVariables false
theorem good_len (ts : List Tok) : ∀ h n, Good ts h n → ts.length + h ≤ n ∧ ∀ t, t ∈ ts → t.lit.length ≤ n := by
  induction ts with
  | nil => intro h n e; simp only [Good] at e; subst e; exact ⟨by simp, fun t ht => by simp at ht⟩
  | cons t r ih =>
    intro h n e
    obtain ⟨h1, h2, h3⟩ := e
    obtain ⟨i1, i2⟩ := ih _ _ h3
    have ha := ok_adv t h n h2 h1
    refine ⟨by rw [List.length_cons]; omega, fun u hu => ?_⟩
    rcases List.mem_cons.1 hu with rfl | hu
    · omega
    · exact i2 u hu
theorem own_written (x : Txt) (hx : x.length ≤ 65536) : written (ownFrom x 0 0) = (bytesOf (ownFrom x 0 0), 0) := by
  have h := good_measure _ 0 x.length hx (own_good x hx x.length 0 0 (by omega) (Nat.le_refl _) (Nat.zero_le _)).1
  unfold written
  rw [h]
  rfl
end Go.Proofs.Ytcchknpgkcmneaa.Lz
