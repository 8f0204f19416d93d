/-
  DERIVED. GIVEN WITH THE SEED: THE CARDS: each row of YtidhghbcgbibgaaGreatDoorRows.lean that lists a variable, with what it lists TIED to the program's text (the seventh form; the later family's looks); each row that meets fmt, with fmt's text TOLD by the authors' own Lean function (tested against real Go, not proved from fmt's source: count such statements apart). THE CARD IS WHAT COUNTS. Prove the row's statement (the work); the ties are given (YtidhghbcgbibgaaGreatDoorTie.lean); close each card by the builder's one call (the guide's Derived/Test/ToyasCard.lean, 'card_holds'). Laid BY PROGRAM, IN A SANDBOX (cutbox-door.mjs). By AI agents, Wed Nov 11 2026. No macro, syntax, notation, axiom, sorry.
-/
import Derived.Test.YtidhghbcgbibgaaGreatDoorRows
import GoSem.ClaimSeven
namespace Go.Proofs.YtidhghbcgbibgaaGreatDoor
namespace Rows

/-- THE TIED CARD OF 'winnowlaw12.ExtsortNil'. -/
def extsortNilCard : Claim7 := { stood := { row := extsortNilRow, standIns := [], harness := (true, "73086127646fef53dac3878664a3f537cd65cf3876a8e08899b0dc41e02d2251"), looks := true }, kinds := [], alts := [], laidByText := true, laidKinds := [.data], laidTests := true, laidLooks := .later }
def ExtsortNilCardSaid : Prop := Claim7.holds Tryz.pinned (.plain (OpenSpec.ofChange extsortNilSpec)) extsortNilCard

/-- THE SECOND FORM's CARD OF 'winnowlaw12.ExtsortNil'. -/
def extsortNilUptoCard : Claim7 := { stood := { row := extsortNilUptoRow, standIns := [], harness := (true, "73086127646fef53dac3878664a3f537cd65cf3876a8e08899b0dc41e02d2251"), looks := true }, kinds := [], alts := [], laidByText := true, laidKinds := [.data], laidTests := true, laidLooks := .later }
def ExtsortNilUptoCardSaid : Prop := Claim7.holds Tryz.pinned (.plain (OpenSpec.upto extsortNilSpec)) extsortNilUptoCard
end Rows
end Go.Proofs.YtidhghbcgbibgaaGreatDoor
