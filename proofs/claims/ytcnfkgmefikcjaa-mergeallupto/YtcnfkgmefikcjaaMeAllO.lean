/-
  All over a merge that is over.
-/
import Derived.Test.YtcnfkgmefikcjaaMeNone
import Derived.Test.YtcnfkgmefikcjaaMeNext
namespace Go.Proofs.Ytcnfkgmefikcjaa.Me
open Go.ChangeShapes Go.WideShapes Go.ChangeAt Go.RowKit
open Go.Proofs.Ytcnfkgmefikcjaa.Base
set_option linter.unusedVariables false
theorem all_any (p : Option Addr) (w : World) : Calls Try.prog 8 #[.pointer p] w fun e w' => e = .returned (.func (.func 15) #[] #[.pointer (some ⟨w.heap.size, 0, none⟩)]) ∧ w' = w.alloc (.cells #[.pointer p] 26) := by
  go_enter Try.func8, Try.ntmps8
  go_wp2_with fail
  go_ret
  exact ⟨rfl, rfl⟩
set_option maxHeartbeats 4000000 in
set_option maxRecDepth 100000 in
theorem iter_over (y : Value) (g gm : Nat) (er : Int) (w : World) (hc : w.cell? ⟨g, 0, none⟩ = some (.pointer (some ⟨gm, 0, none⟩))) (hO : OV w gm er) : Calls Try.prog 15 #[y, .pointer (some ⟨g, 0, none⟩)] w fun e w' => (∃ v, e = .returned v) ∧ Below w.heap.size w w' := by
  have HNX := hide (next_over gm er w hO)
  clear hO
  go_enter Try.func15, Try.ntmps15
  go_wp2_with fail
  go_loopw [4] (fun s wr => w = wr) (fun _ _ => 0)
  case atStart => exact rfl
  case round =>
    obtain rfl := hrel
    unfold Th.val th0 at HNX
    go_wp2_with (go_at_call 7; refine HNX.out.mono ?_; rintro e w1 ⟨rfl, hb1⟩; have HB1 := hide hb1; clear hb1)
    refine bodyPost_ret (results_none rfl _ _ _) rfl ?_
    exact ⟨⟨_, rfl⟩, below_trans HB1.out ((Below.refl _ _).alloc (Nat.le_refl _) _)⟩
end Go.Proofs.Ytcnfkgmefikcjaa.Me
