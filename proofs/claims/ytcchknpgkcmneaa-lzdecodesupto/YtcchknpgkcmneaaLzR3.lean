/-
  The document's own answer: Write.
-/
import Derived.Test.YtcchknpgkcmneaaLzR2
namespace Go.Proofs.Ytcchknpgkcmneaa.Lz
open Go.ChangeShapes Go.WideShapes Go.ChangeAt Go.RowKit
open Go.Proofs.Ytcchknpgkcmneaa.Base Go.Proofs.Ytcchknpgkcmneaa.Nums
set_option linter.unusedVariables false
theorem rd_off {w w' : World} {a : Option Addr} {len base : Nat} {bs : List (BitVec 8)} {r : Option Nat} (hr : Rd w a len bs) (hg : w.grownBy w' r) (hb : ∀ k, r = some k → base ≤ k) (ha : 0 < len → ∀ ad, a = some ad → ad.block < base) : Rd w' a len bs := by
  by_cases hl : len = 0
  · subst hl
    have : bs = [] := List.length_eq_zero_iff.1 hr.1
    subst this; exact rd_zero _ _
  · exact hr.grown hg (fun ad e e2 => by have h1 := hb _ e2; have h2 := ha (by omega) ad e; omega)
theorem expanded_err (ts : List Tok) : (expanded ts).2 = (measure 0 ts).2 := by
  unfold expanded
  split
  · rename_i h; exact h.symm
  · rfl
end Go.Proofs.Ytcchknpgkcmneaa.Lz
