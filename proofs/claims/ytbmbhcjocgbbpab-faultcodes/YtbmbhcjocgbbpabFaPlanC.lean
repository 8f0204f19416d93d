/-
  The program's plan: New, Stop, Due, Left.
-/
import Derived.Test.YtbmbhcjocgbbpabFaPlanB
namespace Go.Proofs.Ytbmbhcjocgbbpab.Fa
open Go.ChangeShapes Go.WideShapes Go.ChangeAt Go.RowKit
open Go.Proofs.Ytbmbhcjocgbbpab.Base
set_option linter.unusedVariables false
theorem chk_len {fs : List Flt} (h : chk fs = 0) : fs.length ≤ 256 := by
  unfold chk at h
  split at h
  · omega
  · omega
/-- What Stop tells of the entries that are taken. -/
def stopV : List Flt → Int × Bool
  | [] => (0, false)
  | f :: _ => (f.p, true)
/-- The reader that Due looks at. -/
def rdr (m r : Int) : Int := if m = 2 then r else 0
end Go.Proofs.Ytbmbhcjocgbbpab.Fa
