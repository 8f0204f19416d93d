/-
  For every input the Go function MapNone returns true, and the argument reads behind the call as it read before; the tables and sentinels that the row lists hold what the program's text lays.
-/
import Derived.Test.YtgjmgggijdiijaaGreatDoorMapNoneOver
import Derived.Test.YtgjmgggijdiijaaGreatDoorMapNoneCarda
import Derived.Test.YtgjmgggijdiijaaGreatDoorMapNoneCardb
import Derived.Test.YtgjmgggijdiijaaGreatDoorMapNoneCardc
import Derived.Test.YtgjmgggijdiijaaGreatDoorMapNoneCardd
import Derived.Test.YtgjmgggijdiijaaGreatDoorMapNoneWalk
import Derived.Test.YtgjmgggijdiijaaGreatDoorMnOpen
import Derived.ProofKit
import Derived.OpenShut
import Derived.Stop.Joined
import Derived.ChangeMaps5
import Derived.Below
import Derived.LaidMore
import Derived.Lib.LaidTab
import Derived.ShutString
import Derived.ChangeOld
import Derived.Test.YtgjmgggijdiijaaGreatDoorCards
import Derived.Test.YtgjmgggijdiijaaGreatDoorTie
namespace Go.Proofs.YtgjmgggijdiijaaGreatDoor.mapNone
open Go.ChangeShapes Go.WideShapes Go.ChangeAt Go.RowKit Go.ChangeMaps
open Go.Proofs.YtgjmgggijdiijaaGreatDoor.Base Go.Proofs.YtgjmgggijdiijaaGreatDoor.Jb
set_option linter.unusedVariables false
/-- THE STATEMENT. -/
theorem proved : Rows.MapNoneCardSaid :=
  Claim7.holds_tied_plain_at .later [] [.data, .data, .data, .sentinel, .sentinel, .data] true (true, "305658ad97112a8614f970d83cb33c9c6f5d5270a9917409e5b3baac410c30d5") true
    over (fun _ h => by cases h) (by kernel_rfl) (fun _ h => by cases h) mapNone_row_tie rfl ⟨rfl, rfl⟩ card_main rfl
    (fun f fn hf hfn => by
      obtain rfl : f = 3 := Option.some.inj (card_named.symm.trans hf) |>.symm
      obtain rfl : fn = Tryz.f3 := (Option.some.inj (Tryz.func3.symm.trans hfn)).symm
      exact ⟨card_looks, fun j t ht => by
        rw [Tryz.params3] at ht
        have hm : t ∈ [30] := by simpa using Array.mem_of_getElem? ht
        exact (show Tryz.prog.wantsStandIn t = false by simpa using List.all_eq_true.1 card_stand t hm)⟩)
    card_goes
end Go.Proofs.YtgjmgggijdiijaaGreatDoor.mapNone
