/-
  DERIVED. GIVEN WITH THE SEED: THE CARDS: each row of YtgpfabblmoffiabDoorRows.lean that lists a variable, with what it lists TIED to the program's text (the seventh form; the later family's looks); each row that meets fmt, with fmt's text TOLD by the authors' own Lean function (tested against real Go, not proved from fmt's source: count such statements apart). THE CARD IS WHAT COUNTS. Prove the row's statement (the work); the ties are given (YtgpfabblmoffiabDoorTie.lean); close each card by the builder's one call (the guide's Derived/Test/ToyasCard.lean, 'card_holds'). Laid BY PROGRAM, IN A SANDBOX (cutbox-door.mjs). By AI agents, Wed Nov 11 2026. No macro, syntax, notation, axiom, sorry.
-/
import Derived.Test.YtgpfabblmoffiabDoorRows
import GoSem.ClaimSeven
namespace Go.Proofs.YtgpfabblmoffiabDoor
namespace Rows

/-- THE TIED CARD OF 'winnowlaw19.LedgerPaid'. -/
def ledgerPaidCard : Claim7 := { stood := { row := ledgerPaidRow, standIns := [], harness := (true, "f1a26224bd5e001c9acc03fce3db62f214fefd4ac631d7981c509abab6de8424"), looks := false }, kinds := [], alts := [], laidByText := true, laidKinds := [.data, .data], laidTests := true, laidLooks := .later }
def LedgerPaidCardSaid : Prop := Claim7.holds Tryd.pinned (.plain (OpenSpec.ofChange ledgerPaidSpec)) ledgerPaidCard

/-- THE TIED CARD OF 'winnowlaw19.LedgerEnds'. -/
def ledgerEndsCard : Claim7 := { stood := { row := ledgerEndsRow, standIns := [], harness := (true, "f1a26224bd5e001c9acc03fce3db62f214fefd4ac631d7981c509abab6de8424"), looks := false }, kinds := [], alts := [], laidByText := true, laidKinds := [.data, .data], laidTests := true, laidLooks := .later }
def LedgerEndsCardSaid : Prop := Claim7.holds Tryd.pinned (.plain (OpenSpec.ofChange ledgerEndsSpec)) ledgerEndsCard

/-- THE SECOND FORM's CARD OF 'winnowlaw19.LedgerPaid'. -/
def ledgerPaidUptoCard : Claim7 := { stood := { row := ledgerPaidUptoRow, standIns := [], harness := (true, "f1a26224bd5e001c9acc03fce3db62f214fefd4ac631d7981c509abab6de8424"), looks := false }, kinds := [], alts := [], laidByText := true, laidKinds := [.data, .data], laidTests := true, laidLooks := .later }
def LedgerPaidUptoCardSaid : Prop := Claim7.holds Tryd.pinned (.plain (OpenSpec.upto ledgerPaidSpec)) ledgerPaidUptoCard

/-- THE SECOND FORM's CARD OF 'winnowlaw19.LedgerEnds'. -/
def ledgerEndsUptoCard : Claim7 := { stood := { row := ledgerEndsUptoRow, standIns := [], harness := (true, "f1a26224bd5e001c9acc03fce3db62f214fefd4ac631d7981c509abab6de8424"), looks := false }, kinds := [], alts := [], laidByText := true, laidKinds := [.data, .data], laidTests := true, laidLooks := .later }
def LedgerEndsUptoCardSaid : Prop := Claim7.holds Tryd.pinned (.plain (OpenSpec.upto ledgerEndsSpec)) ledgerEndsUptoCard
end Rows
end Go.Proofs.YtgpfabblmoffiabDoor
