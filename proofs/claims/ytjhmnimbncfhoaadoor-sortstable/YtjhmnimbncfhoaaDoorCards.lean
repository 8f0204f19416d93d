/-
  DERIVED. GIVEN WITH THE SEED: THE CARDS: each row of YtjhmnimbncfhoaaDoorRows.lean that lists a variable, with what it lists TIED to the program's text (the seventh form; the later family's looks); each row that meets fmt, with fmt's text TOLD by the authors' own Lean function (tested against real Go, not proved from fmt's source: count such statements apart). THE CARD IS WHAT COUNTS. Prove the row's statement (the work); the ties are given (YtjhmnimbncfhoaaDoorTie.lean); close each card by the builder's one call (the guide's Derived/Test/ToyasCard.lean, 'card_holds'). Laid BY PROGRAM, IN A SANDBOX (cutbox-door.mjs). By AI agents, Wed Nov 11 2026. No macro, syntax, notation, axiom, sorry.
-/
import Derived.Test.YtjhmnimbncfhoaaDoorRows
import GoSem.ClaimSeven
namespace Go.Proofs.YtjhmnimbncfhoaaDoor
namespace Rows

/-- THE TIED CARD OF 'winnowlaw10.SortStable'. -/
def sortStableCard : Claim7 := { stood := { row := sortStableRow, standIns := [], harness := (true, "6bcc9b7807e25b6cb27ac95383f9c44ec5ce6e5d52abcfe950ec72c0c1af63da"), looks := true }, kinds := [], alts := [], laidByText := true, laidKinds := [.data, .data, .data, .sentinel, .sentinel], laidTests := true, laidLooks := .later }
def SortStableCardSaid : Prop := Claim7.holds Tryd.pinned (.plain (OpenSpec.ofChange sortStableSpec)) sortStableCard

/-- THE SECOND FORM's CARD OF 'winnowlaw10.SortStable'. -/
def sortStableUptoCard : Claim7 := { stood := { row := sortStableUptoRow, standIns := [], harness := (true, "6bcc9b7807e25b6cb27ac95383f9c44ec5ce6e5d52abcfe950ec72c0c1af63da"), looks := true }, kinds := [], alts := [], laidByText := true, laidKinds := [.data, .data, .data, .sentinel, .sentinel], laidTests := true, laidLooks := .later }
def SortStableUptoCardSaid : Prop := Claim7.holds Tryd.pinned (.plain (OpenSpec.upto sortStableSpec)) sortStableUptoCard
end Rows
end Go.Proofs.YtjhmnimbncfhoaaDoor
