/-
  NARROWER THAN 'FOR EVERY INPUT', by the rows' own cells (each row's printed sentence says how): LedgerPaid: laid · LedgerEnds: laid.
  DERIVED. THE GIVEN ROWS OF THIS SEAT. 2 by the template 'for every input the law returns true; each argument reads behind the call as it read before'; 0 by the template 'total and deterministic' (their statements: YtgpfabblmoffiabDoorTotals.lean).
  GIVEN WITH THE SEED: the statements are not yours to turn. If you find one false, say at which input.
  Laid BY PROGRAM, IN A SANDBOX (cutbox-rows.mjs): the forced cells as the released guide's own fill.sh prints them over the translation d833615ba4947dec… (all of the seat's roots in one cut). By AI agents, Wed Nov 11 2026. No macro, syntax, notation, axiom, sorry.
-/
import Derived.Test.YtgpfabblmoffiabDoorChecked
import GoSem.Claim
import GoSem.ClaimJoined
import GoSem.ClaimMapViews
import Derived.JoinedTies
import Derived.KernelRfl
namespace Go.Proofs.YtgpfabblmoffiabDoor
/- THE CELL 'sum', in the pinned program and in every row, IS THE sha256 OF THE DUMP (.gsa) THAT YtgpfabblmoffiabDoorProg.lean LOADS. Nothing in Lean hashes anything: it is a label: what it is worth is what the hold of that sum in a sandbox is worth. -/
noncomputable def Tryd.pinned : Pinned := { name := "ytgpfabblmoffiabdoor", sum := "d833615ba4947dec95b8a0fedeb323ffea6b6d05ba08df93172177b4e1c19f0a", checked := Tryd.checked }
namespace Rows
def none {H : Type} : Left H := { results := [], args := [] }

/- WHAT THE LISTED PACKAGE-LEVEL VARIABLES READ AS WHEN THE CALL BEGINS. Each datum BY PROGRAM (the guide's laid-datum.mjs) off the statement by which the dump's own 'gosem.cut.vars' lays the variable. In a bare row this is a premise. The card (YtgpfabblmoffiabDoorCards.lean) ties it to the program's text. -/
def laid_winnow_ledger_lead {H : Type} : DataW H := .agg [.agg [.lit (.int .i64 0), .lit (.int .i64 1), .lit (.int .i64 (-1)), .lit (.int .i64 1)], .agg [.lit (.int .i64 0), .lit (.int .i64 1), .lit (.int .i64 1), .lit (.int .i64 1)]]
def laid_winnow_ledger_after {H : Type} : DataW H := .agg [.agg [.lit (.int .i64 1), .lit (.int .i64 (-1)), .lit (.int .i64 1), .lit (.int .i64 (-1))], .agg [.lit (.int .i64 (-1)), .lit (.int .i64 3), .lit (.int .i64 (-1)), .lit (.int .i64 (-1))], .agg [.lit (.int .i64 (-1)), .lit (.int .i64 0), .lit (.int .i64 (-1)), .lit (.int .i64 (-1))], .agg [.lit (.int .i64 (-1)), .lit (.int .i64 2), .lit (.int .i64 (-1)), .lit (.int .i64 (-1))], .agg [.lit (.int .i64 (-1)), .lit (.int .i64 (-1)), .lit (.int .i64 (-1)), .lit (.int .i64 0)]]

/-- 'winnowlaw19.LedgerPaid': WHATEVER THE INPUT: true; the input reads as it did. -/
def ledgerPaidSpec : ChangeSpec := { name := "ledgerPaid", fn := fun _ => fun
  | [d1, d2, d3, d4] => { results := [.lit (.bool true)], args := [d1, d2, d3, d4] }
  | _ => none }
def ledgerPaidRow : OpenClaim := { program := "ytgpfabblmoffiabdoor", sum := "d833615ba4947dec95b8a0fedeb323ffea6b6d05ba08df93172177b4e1c19f0a", func := "winnow/winnowlaw19.LedgerPaid", spec := "ledgerPaid", unfollowed := true, recurses := true, named := ["winnow/ledger.lead", "winnow/ledger.after"], apart := false, laid := [("winnow/ledger.lead", laid_winnow_ledger_lead), ("winnow/ledger.after", laid_winnow_ledger_after)] }
def LedgerPaidSaid : Prop := ledgerPaidRow.holds Tryd.pinned (OpenSpec.ofChange ledgerPaidSpec)

/-- ITS FALSE NEIGHBOUR: 'it returns false'. Refute it at one input. -/
def ledgerPaidWrong : ChangeSpec := { name := "ledgerPaid", fn := fun _ => fun
  | [d1, d2, d3, d4] => { results := [.lit (.bool false)], args := [d1, d2, d3, d4] }
  | _ => none }
def LedgerPaidWrongFalsely : Prop := ledgerPaidRow.holds Tryd.pinned (OpenSpec.ofChange ledgerPaidWrong)

/-- 'winnowlaw19.LedgerEnds': WHATEVER THE INPUT: true; the input reads as it did. -/
def ledgerEndsSpec : ChangeSpec := { name := "ledgerEnds", fn := fun _ => fun
  | [d1, d2] => { results := [.lit (.bool true)], args := [d1, d2] }
  | _ => none }
def ledgerEndsRow : OpenClaim := { program := "ytgpfabblmoffiabdoor", sum := "d833615ba4947dec95b8a0fedeb323ffea6b6d05ba08df93172177b4e1c19f0a", func := "winnow/winnowlaw19.LedgerEnds", spec := "ledgerEnds", unfollowed := true, recurses := true, named := ["winnow/ledger.lead", "winnow/ledger.after"], apart := false, laid := [("winnow/ledger.lead", laid_winnow_ledger_lead), ("winnow/ledger.after", laid_winnow_ledger_after)] }
def LedgerEndsSaid : Prop := ledgerEndsRow.holds Tryd.pinned (OpenSpec.ofChange ledgerEndsSpec)

/-- ITS FALSE NEIGHBOUR: 'it returns false'. Refute it at one input. -/
def ledgerEndsWrong : ChangeSpec := { name := "ledgerEnds", fn := fun _ => fun
  | [d1, d2] => { results := [.lit (.bool false)], args := [d1, d2] }
  | _ => none }
def LedgerEndsWrongFalsely : Prop := ledgerEndsRow.holds Tryd.pinned (OpenSpec.ofChange ledgerEndsWrong)

/- THE SECOND FORM. 'bulk': how many values and letters a reading holds, each counted each time it is reached (what is shared counts as often as it is met; a slice's spare places count too). A statement '..UptoSaid' is the law's where the arguments, and the package variables that the reading takes, are together of bulk at most 1048576: NARROWER than '..Said'. Prove '..Said' where nothing that the law and all that it calls make is longer than what came in: it says more and counts as full. Else prove '..UptoSaid'. A law counts once. -/
mutual
def uptoBulk {H : Type} : DataW H → Nat
  | .lit (.string bytes) => bytes.length + 1
  | .lit _ => 1
  | .nil => 1
  | .ptr d => uptoBulk d + 1
  | .slice elems spare => uptoBulkAll elems + uptoBulkAll spare + 1
  | .agg parts => uptoBulkAll parts + 1
  | .iface _ d => uptoBulk d + 1
  | .map entries => uptoBulkEntries entries + 1
  | .held _ => 1
def uptoBulkAll {H : Type} : List (DataW H) → Nat
  | [] => 0
  | d :: r => uptoBulk d + uptoBulkAll r
def uptoBulkEntries {H : Type} : List (Lit × DataW H) → Nat
  | [] => 0
  | x :: r => uptoBulkEntry x + uptoBulkEntries r
def uptoBulkEntry {H : Type} : Lit × DataW H → Nat
  | (.string bytes, d) => bytes.length + uptoBulk d + 1
  | (_, d) => uptoBulk d + 1
 end
def uptoSmall : (H : Type) → List (DataW H) → Bool := fun _ ds => decide (uptoBulkAll ds ≤ 1048576)
def OpenSpec.upto (s : _root_.Go.ChangeSpec) : _root_.Go.OpenSpec := { _root_.Go.OpenSpec.ofChange s with cond := some uptoSmall }

/-- 'winnowlaw19.LedgerPaid', WHERE WHAT IT READS IS OF BULK AT MOST 1048576: true; the input reads as it did. -/
def ledgerPaidUptoRow : OpenClaim := { program := "ytgpfabblmoffiabdoor", sum := "d833615ba4947dec95b8a0fedeb323ffea6b6d05ba08df93172177b4e1c19f0a", func := "winnow/winnowlaw19.LedgerPaid", spec := "ledgerPaid", unfollowed := true, recurses := true, named := ["winnow/ledger.lead", "winnow/ledger.after"], apart := false, laid := [("winnow/ledger.lead", laid_winnow_ledger_lead), ("winnow/ledger.after", laid_winnow_ledger_after)], narrowed := true }
def LedgerPaidUptoSaid : Prop := ledgerPaidUptoRow.holds Tryd.pinned (OpenSpec.upto ledgerPaidSpec)

/-- 'winnowlaw19.LedgerEnds', WHERE WHAT IT READS IS OF BULK AT MOST 1048576: true; the input reads as it did. -/
def ledgerEndsUptoRow : OpenClaim := { program := "ytgpfabblmoffiabdoor", sum := "d833615ba4947dec95b8a0fedeb323ffea6b6d05ba08df93172177b4e1c19f0a", func := "winnow/winnowlaw19.LedgerEnds", spec := "ledgerEnds", unfollowed := true, recurses := true, named := ["winnow/ledger.lead", "winnow/ledger.after"], apart := false, laid := [("winnow/ledger.lead", laid_winnow_ledger_lead), ("winnow/ledger.after", laid_winnow_ledger_after)], narrowed := true }
def LedgerEndsUptoSaid : Prop := ledgerEndsUptoRow.holds Tryd.pinned (OpenSpec.upto ledgerEndsSpec)

end Rows
end Go.Proofs.YtgpfabblmoffiabDoor
