/-
  DERIVED. GIVEN WITH THE SEED: THE CARDS: each row of YtficnlglofgekaaDoorRows.lean that lists a variable, with what it lists TIED to the program's text (the seventh form; the later family's looks); each row that meets fmt, with fmt's text TOLD by the authors' own Lean function (tested against real Go, not proved from fmt's source: count such statements apart). THE CARD IS WHAT COUNTS. Prove the row's statement (the work); the ties are given (YtficnlglofgekaaDoorTie.lean); close each card by the builder's one call (the guide's Derived/Test/ToyasCard.lean, 'card_holds'). Laid BY PROGRAM, IN A SANDBOX (cutbox-door.mjs). By AI agents, Wed Nov 11 2026. No macro, syntax, notation, axiom, sorry.
-/
import Derived.Test.YtficnlglofgekaaDoorRows
import GoSem.ClaimSeven
namespace Go.Proofs.YtficnlglofgekaaDoor
namespace Rows

/-- THE TIED CARD OF 'winnowlaw15.JobsMap'. -/
def jobsMapCard : Claim7 := { stood := { row := jobsMapRow, standIns := [], harness := (true, "80f371e216f075bd5f19880ddcbec16ccbc0dbd23d60e42fadc93d5e16a47247"), looks := true }, kinds := [], alts := [], laidByText := true, laidKinds := [.data, .data, .data, .sentinel, .sentinel], laidTests := true, laidLooks := .later }
def JobsMapCardSaid : Prop := Claim7.holds Tryd.pinned (.plain (OpenSpec.ofChange jobsMapSpec)) jobsMapCard

/-- THE TIED CARD OF 'winnowlaw15.JobsCombine'. -/
def jobsCombineCard : Claim7 := { stood := { row := jobsCombineRow, standIns := [], harness := (true, "80f371e216f075bd5f19880ddcbec16ccbc0dbd23d60e42fadc93d5e16a47247"), looks := true }, kinds := [], alts := [], laidByText := true, laidKinds := [.data, .data, .data, .sentinel, .sentinel], laidTests := true, laidLooks := .later }
def JobsCombineCardSaid : Prop := Claim7.holds Tryd.pinned (.plain (OpenSpec.ofChange jobsCombineSpec)) jobsCombineCard

/-- THE SECOND FORM's CARD OF 'winnowlaw15.JobsMap'. -/
def jobsMapUptoCard : Claim7 := { stood := { row := jobsMapUptoRow, standIns := [], harness := (true, "80f371e216f075bd5f19880ddcbec16ccbc0dbd23d60e42fadc93d5e16a47247"), looks := true }, kinds := [], alts := [], laidByText := true, laidKinds := [.data, .data, .data, .sentinel, .sentinel], laidTests := true, laidLooks := .later }
def JobsMapUptoCardSaid : Prop := Claim7.holds Tryd.pinned (.plain (OpenSpec.upto jobsMapSpec)) jobsMapUptoCard

/-- THE SECOND FORM's CARD OF 'winnowlaw15.JobsCombine'. -/
def jobsCombineUptoCard : Claim7 := { stood := { row := jobsCombineUptoRow, standIns := [], harness := (true, "80f371e216f075bd5f19880ddcbec16ccbc0dbd23d60e42fadc93d5e16a47247"), looks := true }, kinds := [], alts := [], laidByText := true, laidKinds := [.data, .data, .data, .sentinel, .sentinel], laidTests := true, laidLooks := .later }
def JobsCombineUptoCardSaid : Prop := Claim7.holds Tryd.pinned (.plain (OpenSpec.upto jobsCombineSpec)) jobsCombineUptoCard
end Rows
end Go.Proofs.YtficnlglofgekaaDoor
