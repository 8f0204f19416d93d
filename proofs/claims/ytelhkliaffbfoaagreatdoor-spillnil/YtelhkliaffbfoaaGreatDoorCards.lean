/-
  DERIVED. GIVEN WITH THE SEED: THE CARDS: each row of YtelhkliaffbfoaaGreatDoorRows.lean that lists a variable, with what it lists TIED to the program's text (the seventh form; the later family's looks); each row that meets fmt, with fmt's text TOLD by the authors' own Lean function (tested against real Go, not proved from fmt's source: count such statements apart). THE CARD IS WHAT COUNTS. Prove the row's statement (the work); the ties are given (YtelhkliaffbfoaaGreatDoorTie.lean); close each card by the builder's one call (the guide's Derived/Test/ToyasCard.lean, 'card_holds'). Laid BY PROGRAM, IN A SANDBOX (cutbox-door.mjs). By AI agents, Wed Nov 11 2026. No macro, syntax, notation, axiom, sorry.
-/
import Derived.Test.YtelhkliaffbfoaaGreatDoorRows
import GoSem.ClaimSeven
namespace Go.Proofs.YtelhkliaffbfoaaGreatDoor
namespace Rows

/-- THE TIED CARD OF 'winnowlaw9.SpillNil'. -/
def spillNilCard : Claim7 := { stood := { row := spillNilRow, standIns := [], harness := (true, "11c18e7a2f126e620d37d7dbd4cf8503401fd6c87acb7bbbb8a489e26d7ef32d"), looks := false }, kinds := [], alts := [], laidByText := true, laidKinds := [.data], laidTests := true, laidLooks := .later }
def SpillNilCardSaid : Prop := Claim7.holds Tryz.pinned (.plain (OpenSpec.ofChange spillNilSpec)) spillNilCard

/-- THE SECOND FORM's CARD OF 'winnowlaw9.SpillNil'. -/
def spillNilUptoCard : Claim7 := { stood := { row := spillNilUptoRow, standIns := [], harness := (true, "11c18e7a2f126e620d37d7dbd4cf8503401fd6c87acb7bbbb8a489e26d7ef32d"), looks := false }, kinds := [], alts := [], laidByText := true, laidKinds := [.data], laidTests := true, laidLooks := .later }
def SpillNilUptoCardSaid : Prop := Claim7.holds Tryz.pinned (.plain (OpenSpec.upto spillNilSpec)) spillNilUptoCard
end Rows
end Go.Proofs.YtelhkliaffbfoaaGreatDoor
