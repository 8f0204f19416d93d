/-
  MergeStable, walked.
-/
import Derived.Test.YtiepinhkmcjmkaaMeTidyC
import Derived.Test.YtiepinhkmcjmkaaMeStabC
import Derived.Test.YtiepinhkmcjmkaaMeHead
import Derived.Test.YtiepinhkmcjmkaaMeFedU
namespace Go.Proofs.Ytiepinhkmcjmkaa.Me
open Go.ChangeShapes Go.WideShapes Go.ChangeAt Go.RowKit
open Go.Proofs.Ytiepinhkmcjmkaa.Base
set_option linter.unusedVariables false
set_option maxHeartbeats 4000000 in
set_option maxRecDepth 100000 in
theorem stwalk (a : Option Addr) (c : Nat) (ss : List Src) (w : World) (hR : Rdy w a ss) (hl : ∀ j, j < ss.length → (ss.getD j src0).ts.length ≤ 1048576) (hn : ss.length ≤ 1048576) :
    Calls Try.prog 6 #[.slice a ss.length c] w fun e w' => e = .returned (.bool true) ∧ Below w.heap.size w w' := by
  have HTI := hide (tidy_any a c ss w hR.rdq hR.rdh hl (by omega))
  clear hR hl
  go_enter Try.func6, Try.ntmps6
  go_upto_region 2 with (go_at_call 15; refine HTI.out.mono ?_; rintro e w1 ⟨a1, c1, us, rfl, hou, hti, h64, hle, hb1⟩; have HOU := hide hou.rdy; have HTD := hide hti; have HLE := hide hle; have H64 := hide h64; have HB1 := hide hb1; clear hou hti hle h64 hb1)
  have HFR := hide (feed_run a1 c1 us w1 HOU.out H64.out HLE.out)
  go_upto_region 3 with (first
    | (go_at_call 9; refine HFR.out.mono ?_; rintro e w2 ⟨al, cl, gl, rfl, hb2, hrun⟩; have HB2 := hide hb2; have HRUN := hide hrun; clear hb2 hrun)
    | (go_at_call 17; refine HRUN.out.mono ?_; rintro e w3 ⟨a3, c3, L, x, rfl, hru, how, hb3⟩; obtain ⟨rfl, hst⟩ := stb_of HTD.out hru; have HST := hide hst; have HOW := hide how; have HB3 : Hid (Below w1.heap.size w1 w3) := HB2.out.trans hb3; clear hru how hb3 hst))
  have HSA := hide (stable_any a3 c3 L a1 c1 us w3 HOW.out.rd (HOU.out.below HB3.out).rdq (HOU.out.below HB3.out).rdh HST.out H64.out HLE.out)
  go_wp2_with (first
    | (go_at_call 19; refine HSA.out.mono ?_; rintro e w4 ⟨rfl, hb4⟩; have HB4 := hide (below_trans HB3.out hb4); clear hb4)
    | (go_at_call 16; refine (head_any _).mono ?_; rintro e w5 ⟨rfl, hb5⟩; have HB5 := hide (below_trans HB4.out hb5); clear hb5))
  go_ret
  exact ⟨rfl, below_trans HB1.out HB5.out⟩
end Go.Proofs.Ytiepinhkmcjmkaa.Me
