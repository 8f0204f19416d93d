/-
  DERIVED. GIVEN WITH THE SEED: THE CARDS: each row of YtgpfabblmoffiaaDoorRows.lean that lists a variable, with what it lists TIED to the program's text (the seventh form; the later family's looks); each row that meets fmt, with fmt's text TOLD by the authors' own Lean function (tested against real Go, not proved from fmt's source: count such statements apart). THE CARD IS WHAT COUNTS. Prove the row's statement (the work); the ties are given (YtgpfabblmoffiaaDoorTie.lean); close each card by the builder's one call (the guide's Derived/Test/ToyasCard.lean, 'card_holds'). Laid BY PROGRAM, IN A SANDBOX (cutbox-door.mjs). By AI agents, Wed Nov 11 2026. No macro, syntax, notation, axiom, sorry.
-/
import Derived.Test.YtgpfabblmoffiaaDoorRows
import GoSem.ClaimSeven
namespace Go.Proofs.YtgpfabblmoffiaaDoor
namespace Rows

/-- THE TIED CARD OF 'winnowlaw19.LedgerComes'. -/
def ledgerComesCard : Claim7 := { stood := { row := ledgerComesRow, standIns := [], harness := (true, "803b9b8628d3bcaafd81ed5f5e23e53ec11555cbe2f65d3fa5926477cd11b146"), looks := false }, kinds := [], alts := [], laidByText := true, laidKinds := [.data, .data], laidTests := true, laidLooks := .later }
def LedgerComesCardSaid : Prop := Claim7.holds Tryd.pinned (.plain (OpenSpec.ofChange ledgerComesSpec)) ledgerComesCard

/-- THE TIED CARD OF 'winnowlaw19.LedgerAsks'. -/
def ledgerAsksCard : Claim7 := { stood := { row := ledgerAsksRow, standIns := [], harness := (true, "803b9b8628d3bcaafd81ed5f5e23e53ec11555cbe2f65d3fa5926477cd11b146"), looks := false }, kinds := [], alts := [], laidByText := true, laidKinds := [.data, .data], laidTests := true, laidLooks := .later }
def LedgerAsksCardSaid : Prop := Claim7.holds Tryd.pinned (.plain (OpenSpec.ofChange ledgerAsksSpec)) ledgerAsksCard

/-- THE TIED CARD OF 'winnowlaw19.LedgerStays'. -/
def ledgerStaysCard : Claim7 := { stood := { row := ledgerStaysRow, standIns := [], harness := (true, "803b9b8628d3bcaafd81ed5f5e23e53ec11555cbe2f65d3fa5926477cd11b146"), looks := false }, kinds := [], alts := [], laidByText := true, laidKinds := [.data, .data], laidTests := true, laidLooks := .later }
def LedgerStaysCardSaid : Prop := Claim7.holds Tryd.pinned (.plain (OpenSpec.ofChange ledgerStaysSpec)) ledgerStaysCard

/-- THE TIED CARD OF 'winnowlaw19.LedgerBegins'. -/
def ledgerBeginsCard : Claim7 := { stood := { row := ledgerBeginsRow, standIns := [], harness := (true, "803b9b8628d3bcaafd81ed5f5e23e53ec11555cbe2f65d3fa5926477cd11b146"), looks := false }, kinds := [], alts := [], laidByText := true, laidKinds := [.data, .data], laidTests := true, laidLooks := .later }
def LedgerBeginsCardSaid : Prop := Claim7.holds Tryd.pinned (.plain (OpenSpec.ofChange ledgerBeginsSpec)) ledgerBeginsCard

/-- THE TIED CARD OF 'winnowlaw19.LedgerBlames'. -/
def ledgerBlamesCard : Claim7 := { stood := { row := ledgerBlamesRow, standIns := [], harness := (true, "803b9b8628d3bcaafd81ed5f5e23e53ec11555cbe2f65d3fa5926477cd11b146"), looks := false }, kinds := [], alts := [], laidByText := true, laidKinds := [.data, .data], laidTests := true, laidLooks := .later }
def LedgerBlamesCardSaid : Prop := Claim7.holds Tryd.pinned (.plain (OpenSpec.ofChange ledgerBlamesSpec)) ledgerBlamesCard

/-- THE SECOND FORM's CARD OF 'winnowlaw19.LedgerComes'. -/
def ledgerComesUptoCard : Claim7 := { stood := { row := ledgerComesUptoRow, standIns := [], harness := (true, "803b9b8628d3bcaafd81ed5f5e23e53ec11555cbe2f65d3fa5926477cd11b146"), looks := false }, kinds := [], alts := [], laidByText := true, laidKinds := [.data, .data], laidTests := true, laidLooks := .later }
def LedgerComesUptoCardSaid : Prop := Claim7.holds Tryd.pinned (.plain (OpenSpec.upto ledgerComesSpec)) ledgerComesUptoCard

/-- THE SECOND FORM's CARD OF 'winnowlaw19.LedgerAsks'. -/
def ledgerAsksUptoCard : Claim7 := { stood := { row := ledgerAsksUptoRow, standIns := [], harness := (true, "803b9b8628d3bcaafd81ed5f5e23e53ec11555cbe2f65d3fa5926477cd11b146"), looks := false }, kinds := [], alts := [], laidByText := true, laidKinds := [.data, .data], laidTests := true, laidLooks := .later }
def LedgerAsksUptoCardSaid : Prop := Claim7.holds Tryd.pinned (.plain (OpenSpec.upto ledgerAsksSpec)) ledgerAsksUptoCard

/-- THE SECOND FORM's CARD OF 'winnowlaw19.LedgerStays'. -/
def ledgerStaysUptoCard : Claim7 := { stood := { row := ledgerStaysUptoRow, standIns := [], harness := (true, "803b9b8628d3bcaafd81ed5f5e23e53ec11555cbe2f65d3fa5926477cd11b146"), looks := false }, kinds := [], alts := [], laidByText := true, laidKinds := [.data, .data], laidTests := true, laidLooks := .later }
def LedgerStaysUptoCardSaid : Prop := Claim7.holds Tryd.pinned (.plain (OpenSpec.upto ledgerStaysSpec)) ledgerStaysUptoCard

/-- THE SECOND FORM's CARD OF 'winnowlaw19.LedgerBegins'. -/
def ledgerBeginsUptoCard : Claim7 := { stood := { row := ledgerBeginsUptoRow, standIns := [], harness := (true, "803b9b8628d3bcaafd81ed5f5e23e53ec11555cbe2f65d3fa5926477cd11b146"), looks := false }, kinds := [], alts := [], laidByText := true, laidKinds := [.data, .data], laidTests := true, laidLooks := .later }
def LedgerBeginsUptoCardSaid : Prop := Claim7.holds Tryd.pinned (.plain (OpenSpec.upto ledgerBeginsSpec)) ledgerBeginsUptoCard

/-- THE SECOND FORM's CARD OF 'winnowlaw19.LedgerBlames'. -/
def ledgerBlamesUptoCard : Claim7 := { stood := { row := ledgerBlamesUptoRow, standIns := [], harness := (true, "803b9b8628d3bcaafd81ed5f5e23e53ec11555cbe2f65d3fa5926477cd11b146"), looks := false }, kinds := [], alts := [], laidByText := true, laidKinds := [.data, .data], laidTests := true, laidLooks := .later }
def LedgerBlamesUptoCardSaid : Prop := Claim7.holds Tryd.pinned (.plain (OpenSpec.upto ledgerBlamesSpec)) ledgerBlamesUptoCard
end Rows
end Go.Proofs.YtgpfabblmoffiaaDoor
