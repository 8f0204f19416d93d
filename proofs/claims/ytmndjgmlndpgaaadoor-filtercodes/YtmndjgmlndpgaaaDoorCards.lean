/-
  DERIVED. GIVEN WITH THE SEED: THE CARDS: each row of YtmndjgmlndpgaaaDoorRows.lean that lists a variable, with what it lists TIED to the program's text (the seventh form; the later family's looks); each row that meets fmt, with fmt's text TOLD by the authors' own Lean function (tested against real Go, not proved from fmt's source: count such statements apart). THE CARD IS WHAT COUNTS. Prove the row's statement (the work); the ties are given (YtmndjgmlndpgaaaDoorTie.lean); close each card by the builder's one call (the guide's Derived/Test/ToyasCard.lean, 'card_holds'). Laid BY PROGRAM, IN A SANDBOX (cutbox-door.mjs). By AI agents, Wed Nov 11 2026. No macro, syntax, notation, axiom, sorry.
-/
import Derived.Test.YtmndjgmlndpgaaaDoorRows
import GoSem.ClaimSeven
namespace Go.Proofs.YtmndjgmlndpgaaaDoor
namespace Rows

/-- THE TIED CARD OF 'winnowlaw7.FilterCodes'. -/
def filterCodesCard : Claim7 := { stood := { row := filterCodesRow, standIns := [], harness := (true, "4a245affc45c3fa93d934083d39c557c60bb476acc2a2ad18134fcc162f030c2"), looks := false }, kinds := [], alts := [], laidByText := true, laidKinds := [.data], laidTests := true, laidLooks := .later }
def FilterCodesCardSaid : Prop := Claim7.holds Tryd.pinned (.plain (OpenSpec.ofChange filterCodesSpec)) filterCodesCard

/-- THE SECOND FORM's CARD OF 'winnowlaw7.FilterCodes'. -/
def filterCodesUptoCard : Claim7 := { stood := { row := filterCodesUptoRow, standIns := [], harness := (true, "4a245affc45c3fa93d934083d39c557c60bb476acc2a2ad18134fcc162f030c2"), looks := false }, kinds := [], alts := [], laidByText := true, laidKinds := [.data], laidTests := true, laidLooks := .later }
def FilterCodesUptoCardSaid : Prop := Claim7.holds Tryd.pinned (.plain (OpenSpec.upto filterCodesSpec)) filterCodesUptoCard
end Rows
end Go.Proofs.YtmndjgmlndpgaaaDoor
