/-
  The document's Reduce, at each kind.
-/
import Derived.Test.YtficnlglofgekaaDoorJcRRed
import Derived.Test.YtficnlglofgekaaDoorJcRedL
namespace Go.Proofs.YtficnlglofgekaaDoor.Jb
open Go.ChangeShapes Go.WideShapes Go.ChangeAt Go.RowKit
open Go.Lib hiding intOf
open Go.Proofs.YtficnlglofgekaaDoor.Base
open Go.Proofs.YtficnlglofgekaaDoor.Pa (OwnS RdS)
set_option linter.unusedVariables false
set_option maxHeartbeats 2000000 in
set_option maxRecDepth 100000 in
theorem rreduce_any (kind : Int) (a : Option Addr) (n c : Nat) (ss : List ByteArray) (w : World) (hr : RdS w a n ss) (hnil : a = none → n = 0 ∧ c = 0) (hn : n ≤ 8796093022000) (hz : ∀ s ∈ ss, s.size ≤ 1099511627776) :
    Calls Tryd.prog 17 #[.int .i64 kind, .slice a n c] w fun e w' => ∃ v, e = .returned v ∧ OwnS w' w.heap.size v (redL kind ss) ∧ Below w.heap.size w w' := by
  by_cases hk : kind = 1
  · subst hk
    have h := rreduce1_any a n c ss w hr hn hz
    unfold redL
    rw [if_pos rfl]
    exact h
  · have HM := hide (rcombine_any kind a n c ss w hr hnil hn hz)
    have HE : Hid (redL kind ss = combL kind ss) := by show _ = _; unfold redL; rw [if_neg hk]
    rw [HE.out]
    clear hr hz hnil HE
    go_enter Tryd.func17, Tryd.ntmps17
    go_wp2_with (go_at_call 16; refine HM.out.mono ?_; rintro e w1 ⟨v, rfl, ho, hb⟩; have HO := hide ho; have HB := hide hb; clear ho hb)
    go_ret
    exact ⟨_, rfl, HO.out, HB.out⟩
end Go.Proofs.YtficnlglofgekaaDoor.Jb
