/-
  Any entries, any questions: both ways.
-/
import Derived.Test.YtbmbhcjocgbbpaaFaPlansY
namespace Go.Proofs.Ytbmbhcjocgbbpaa.faultPlans
open Go.ChangeShapes Go.WideShapes Go.ChangeAt Go.RowKit
open Go.Proofs.Ytbmbhcjocgbbpaa.Base Go.Proofs.Ytbmbhcjocgbbpaa.Fa
set_option linter.unusedVariables false
theorem walk (a : Option Addr) (n cap : Nat) (fs : List Flt) (a1 : Option Addr) (K cap1 : Nat) (ks : List Ak) (w : World) (hr : RdL w a n fs) (hlc : n ≤ cap) (hm : cap ≤ 2199023255488) (hnil : a = none → n = 0 ∧ cap = 0) (hwf : ∀ f ∈ fs, Wf f)
    (hr1 : RdK w a1 K ks) (hlc1 : K ≤ cap1) (hm1 : cap1 ≤ 3518437208783) (hnil1 : a1 = none → K = 0 ∧ cap1 = 0) (hwf1 : ∀ f ∈ ks, WfK f) :
    Calls Try.prog 7 #[.slice a n cap, .slice a1 K cap1] w fun e w' => e = .returned (.bool true) ∧ Below w.heap.size w w' := by
  by_cases hk : chk fs = 0
  · exact walkY a n cap fs a1 K cap1 ks w hr hlc hm hnil hr1 hlc1 hm1 hnil1 hk
  · exact walkN a n cap fs a1 K cap1 ks w hr hlc hm hnil hr1 hlc1 hm1 hnil1 hk
end Go.Proofs.Ytbmbhcjocgbbpaa.faultPlans
