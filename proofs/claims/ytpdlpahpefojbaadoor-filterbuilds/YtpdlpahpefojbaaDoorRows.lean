/-
  NARROWER THAN 'FOR EVERY INPUT', by the rows' own cells (each row's printed sentence says how): FilterJoins: laid · FilterFew: laid · FilterBuilds: laid · FilterRound: laid · FilterNever: laid.
  DERIVED. THE GIVEN ROWS OF THIS SEAT. 5 by the template 'for every input the law returns true; each argument reads behind the call as it read before'; 0 by the template 'total and deterministic' (their statements: YtpdlpahpefojbaaDoorTotals.lean).
  GIVEN WITH THE SEED: the statements are not yours to turn. If you find one false, say at which input.
  Laid BY PROGRAM, IN A SANDBOX (cutbox-rows.mjs): the forced cells as the released guide's own fill.sh prints them over the translation 5e948e42779c0251… (all of the seat's roots in one cut). By AI agents, Wed Nov 11 2026. No macro, syntax, notation, axiom, sorry.
-/
import Derived.Test.YtpdlpahpefojbaaDoorChecked
import GoSem.Claim
import GoSem.ClaimJoined
import GoSem.ClaimMapViews
import Derived.JoinedTies
import Derived.KernelRfl
namespace Go.Proofs.YtpdlpahpefojbaaDoor
/- THE CELL 'sum', in the pinned program and in every row, IS THE sha256 OF THE DUMP (.gsa) THAT YtpdlpahpefojbaaDoorProg.lean LOADS. Nothing in Lean hashes anything: it is a label: what it is worth is what the hold of that sum in a sandbox is worth. -/
noncomputable def Tryd.pinned : Pinned := { name := "ytpdlpahpefojbaadoor", sum := "5e948e42779c0251aca8e60570b7db08a6f9392169a156fb7f80907e48e7056a", checked := Tryd.checked }
namespace Rows
def none {H : Type} : Left H := { results := [], args := [] }

/- WHAT THE LISTED PACKAGE-LEVEL VARIABLES READ AS WHEN THE CALL BEGINS. Each datum BY PROGRAM (the guide's laid-datum.mjs) off the statement by which the dump's own 'gosem.cut.vars' lays the variable. In a bare row this is a premise. The card (YtpdlpahpefojbaaDoorCards.lean) ties it to the program's text. -/
def laid_winnow_filter_kinds {H : Type} : DataW H := .agg [.agg [.lit (.bool false), .lit (.int .i64 0), .lit (.int .i64 0), .lit (.int .i64 0), .lit (.int .i64 0)], .agg [.lit (.bool true), .lit (.int .i64 0), .lit (.int .i64 0), .lit (.int .i64 0), .lit (.int .i64 0)], .agg [.lit (.bool false), .lit (.int .i64 1), .lit (.int .i64 8), .lit (.int .i64 1), .lit (.int .i64 4096)]]
def laid_winnow_filter_joins {H : Type} : DataW H := .agg [.agg [.lit (.int .i64 0), .lit (.int .i64 1), .lit (.int .i64 1)], .agg [.lit (.int .i64 0), .lit (.int .i64 0), .lit (.int .i64 0)], .agg [.lit (.int .i64 0), .lit (.int .i64 1), .lit (.int .i64 2)]]

/-- 'winnowlaw7.FilterJoins': WHATEVER THE INPUT: true; the input reads as it did. -/
def filterJoinsSpec : ChangeSpec := { name := "filterJoins", fn := fun _ => fun
  | [d1, d2] => { results := [.lit (.bool true)], args := [d1, d2] }
  | _ => none }
def filterJoinsRow : OpenClaim := { program := "ytpdlpahpefojbaadoor", sum := "5e948e42779c0251aca8e60570b7db08a6f9392169a156fb7f80907e48e7056a", func := "winnow/winnowlaw7.FilterJoins", spec := "filterJoins", named := ["winnow/filter.joins", "winnow/filter.kinds"], apart := false, laid := [("winnow/filter.kinds", laid_winnow_filter_kinds), ("winnow/filter.joins", laid_winnow_filter_joins)] }
def FilterJoinsSaid : Prop := filterJoinsRow.holds Tryd.pinned (OpenSpec.ofChange filterJoinsSpec)

/-- ITS FALSE NEIGHBOUR: 'it returns false'. Refute it at one input. -/
def filterJoinsWrong : ChangeSpec := { name := "filterJoins", fn := fun _ => fun
  | [d1, d2] => { results := [.lit (.bool false)], args := [d1, d2] }
  | _ => none }
def FilterJoinsWrongFalsely : Prop := filterJoinsRow.holds Tryd.pinned (OpenSpec.ofChange filterJoinsWrong)

/-- 'winnowlaw7.FilterFew': WHATEVER THE INPUT: true; the input reads as it did. -/
def filterFewSpec : ChangeSpec := { name := "filterFew", fn := fun _ => fun
  | [d1, d2, d3] => { results := [.lit (.bool true)], args := [d1, d2, d3] }
  | _ => none }
def filterFewRow : OpenClaim := { program := "ytpdlpahpefojbaadoor", sum := "5e948e42779c0251aca8e60570b7db08a6f9392169a156fb7f80907e48e7056a", func := "winnow/winnowlaw7.FilterFew", spec := "filterFew", unfollowed := true, recurses := true, named := ["winnow/filter.kinds", "winnow/filter.joins"], apart := false, laid := [("winnow/filter.kinds", laid_winnow_filter_kinds), ("winnow/filter.joins", laid_winnow_filter_joins)] }
def FilterFewSaid : Prop := filterFewRow.holds Tryd.pinned (OpenSpec.ofChange filterFewSpec)

/-- ITS FALSE NEIGHBOUR: 'it returns false'. Refute it at one input. -/
def filterFewWrong : ChangeSpec := { name := "filterFew", fn := fun _ => fun
  | [d1, d2, d3] => { results := [.lit (.bool false)], args := [d1, d2, d3] }
  | _ => none }
def FilterFewWrongFalsely : Prop := filterFewRow.holds Tryd.pinned (OpenSpec.ofChange filterFewWrong)

/-- 'winnowlaw7.FilterBuilds': WHATEVER THE INPUT: true; the input reads as it did. -/
def filterBuildsSpec : ChangeSpec := { name := "filterBuilds", fn := fun _ => fun
  | [d1, d2, d3] => { results := [.lit (.bool true)], args := [d1, d2, d3] }
  | _ => none }
def filterBuildsRow : OpenClaim := { program := "ytpdlpahpefojbaadoor", sum := "5e948e42779c0251aca8e60570b7db08a6f9392169a156fb7f80907e48e7056a", func := "winnow/winnowlaw7.FilterBuilds", spec := "filterBuilds", unfollowed := true, recurses := true, named := ["winnow/filter.kinds"], apart := false, laid := [("winnow/filter.kinds", laid_winnow_filter_kinds)] }
def FilterBuildsSaid : Prop := filterBuildsRow.holds Tryd.pinned (OpenSpec.ofChange filterBuildsSpec)

/-- ITS FALSE NEIGHBOUR: 'it returns false'. Refute it at one input. -/
def filterBuildsWrong : ChangeSpec := { name := "filterBuilds", fn := fun _ => fun
  | [d1, d2, d3] => { results := [.lit (.bool false)], args := [d1, d2, d3] }
  | _ => none }
def FilterBuildsWrongFalsely : Prop := filterBuildsRow.holds Tryd.pinned (OpenSpec.ofChange filterBuildsWrong)

/-- 'winnowlaw7.FilterRound': WHATEVER THE INPUT: true; the input reads as it did. -/
def filterRoundSpec : ChangeSpec := { name := "filterRound", fn := fun _ => fun
  | [d1, d2] => { results := [.lit (.bool true)], args := [d1, d2] }
  | _ => none }
def filterRoundRow : OpenClaim := { program := "ytpdlpahpefojbaadoor", sum := "5e948e42779c0251aca8e60570b7db08a6f9392169a156fb7f80907e48e7056a", func := "winnow/winnowlaw7.FilterRound", spec := "filterRound", unfollowed := true, recurses := true, named := ["winnow/filter.kinds"], apart := false, laid := [("winnow/filter.kinds", laid_winnow_filter_kinds)] }
def FilterRoundSaid : Prop := filterRoundRow.holds Tryd.pinned (OpenSpec.ofChange filterRoundSpec)

/-- ITS FALSE NEIGHBOUR: 'it returns false'. Refute it at one input. -/
def filterRoundWrong : ChangeSpec := { name := "filterRound", fn := fun _ => fun
  | [d1, d2] => { results := [.lit (.bool false)], args := [d1, d2] }
  | _ => none }
def FilterRoundWrongFalsely : Prop := filterRoundRow.holds Tryd.pinned (OpenSpec.ofChange filterRoundWrong)

/-- 'winnowlaw7.FilterNever': WHATEVER THE INPUT: true; the input reads as it did. -/
def filterNeverSpec : ChangeSpec := { name := "filterNever", fn := fun _ => fun
  | [d1, d2, d3, d4] => { results := [.lit (.bool true)], args := [d1, d2, d3, d4] }
  | _ => none }
def filterNeverRow : OpenClaim := { program := "ytpdlpahpefojbaadoor", sum := "5e948e42779c0251aca8e60570b7db08a6f9392169a156fb7f80907e48e7056a", func := "winnow/winnowlaw7.FilterNever", spec := "filterNever", unfollowed := true, recurses := true, named := ["winnow/filter.kinds", "winnow/filter.joins"], apart := false, laid := [("winnow/filter.kinds", laid_winnow_filter_kinds), ("winnow/filter.joins", laid_winnow_filter_joins)] }
def FilterNeverSaid : Prop := filterNeverRow.holds Tryd.pinned (OpenSpec.ofChange filterNeverSpec)

/-- ITS FALSE NEIGHBOUR: 'it returns false'. Refute it at one input. -/
def filterNeverWrong : ChangeSpec := { name := "filterNever", fn := fun _ => fun
  | [d1, d2, d3, d4] => { results := [.lit (.bool false)], args := [d1, d2, d3, d4] }
  | _ => none }
def FilterNeverWrongFalsely : Prop := filterNeverRow.holds Tryd.pinned (OpenSpec.ofChange filterNeverWrong)

/- THE SECOND FORM. 'bulk': how many values and letters a reading holds, each counted each time it is reached (what is shared counts as often as it is met; a slice's spare places count too). A statement '..UptoSaid' is the law's where the arguments, and the package variables that the reading takes, are together of bulk at most 1048576: NARROWER than '..Said'. Prove '..Said' where nothing that the law and all that it calls make is longer than what came in: it says more and counts as full. Else prove '..UptoSaid'. A law counts once. -/
mutual
def uptoBulk {H : Type} : DataW H → Nat
  | .lit (.string bytes) => bytes.length + 1
  | .lit _ => 1
  | .nil => 1
  | .ptr d => uptoBulk d + 1
  | .slice elems spare => uptoBulkAll elems + uptoBulkAll spare + 1
  | .agg parts => uptoBulkAll parts + 1
  | .iface _ d => uptoBulk d + 1
  | .map entries => uptoBulkEntries entries + 1
  | .held _ => 1
def uptoBulkAll {H : Type} : List (DataW H) → Nat
  | [] => 0
  | d :: r => uptoBulk d + uptoBulkAll r
def uptoBulkEntries {H : Type} : List (Lit × DataW H) → Nat
  | [] => 0
  | x :: r => uptoBulkEntry x + uptoBulkEntries r
def uptoBulkEntry {H : Type} : Lit × DataW H → Nat
  | (.string bytes, d) => bytes.length + uptoBulk d + 1
  | (_, d) => uptoBulk d + 1
 end
def uptoSmall : (H : Type) → List (DataW H) → Bool := fun _ ds => decide (uptoBulkAll ds ≤ 1048576)
def OpenSpec.upto (s : _root_.Go.ChangeSpec) : _root_.Go.OpenSpec := { _root_.Go.OpenSpec.ofChange s with cond := some uptoSmall }

/-- 'winnowlaw7.FilterJoins', WHERE WHAT IT READS IS OF BULK AT MOST 1048576: true; the input reads as it did. -/
def filterJoinsUptoRow : OpenClaim := { program := "ytpdlpahpefojbaadoor", sum := "5e948e42779c0251aca8e60570b7db08a6f9392169a156fb7f80907e48e7056a", func := "winnow/winnowlaw7.FilterJoins", spec := "filterJoins", named := ["winnow/filter.joins", "winnow/filter.kinds"], apart := false, laid := [("winnow/filter.kinds", laid_winnow_filter_kinds), ("winnow/filter.joins", laid_winnow_filter_joins)], narrowed := true }
def FilterJoinsUptoSaid : Prop := filterJoinsUptoRow.holds Tryd.pinned (OpenSpec.upto filterJoinsSpec)

/-- 'winnowlaw7.FilterFew', WHERE WHAT IT READS IS OF BULK AT MOST 1048576: true; the input reads as it did. -/
def filterFewUptoRow : OpenClaim := { program := "ytpdlpahpefojbaadoor", sum := "5e948e42779c0251aca8e60570b7db08a6f9392169a156fb7f80907e48e7056a", func := "winnow/winnowlaw7.FilterFew", spec := "filterFew", unfollowed := true, recurses := true, named := ["winnow/filter.kinds", "winnow/filter.joins"], apart := false, laid := [("winnow/filter.kinds", laid_winnow_filter_kinds), ("winnow/filter.joins", laid_winnow_filter_joins)], narrowed := true }
def FilterFewUptoSaid : Prop := filterFewUptoRow.holds Tryd.pinned (OpenSpec.upto filterFewSpec)

/-- 'winnowlaw7.FilterBuilds', WHERE WHAT IT READS IS OF BULK AT MOST 1048576: true; the input reads as it did. -/
def filterBuildsUptoRow : OpenClaim := { program := "ytpdlpahpefojbaadoor", sum := "5e948e42779c0251aca8e60570b7db08a6f9392169a156fb7f80907e48e7056a", func := "winnow/winnowlaw7.FilterBuilds", spec := "filterBuilds", unfollowed := true, recurses := true, named := ["winnow/filter.kinds"], apart := false, laid := [("winnow/filter.kinds", laid_winnow_filter_kinds)], narrowed := true }
def FilterBuildsUptoSaid : Prop := filterBuildsUptoRow.holds Tryd.pinned (OpenSpec.upto filterBuildsSpec)

/-- 'winnowlaw7.FilterRound', WHERE WHAT IT READS IS OF BULK AT MOST 1048576: true; the input reads as it did. -/
def filterRoundUptoRow : OpenClaim := { program := "ytpdlpahpefojbaadoor", sum := "5e948e42779c0251aca8e60570b7db08a6f9392169a156fb7f80907e48e7056a", func := "winnow/winnowlaw7.FilterRound", spec := "filterRound", unfollowed := true, recurses := true, named := ["winnow/filter.kinds"], apart := false, laid := [("winnow/filter.kinds", laid_winnow_filter_kinds)], narrowed := true }
def FilterRoundUptoSaid : Prop := filterRoundUptoRow.holds Tryd.pinned (OpenSpec.upto filterRoundSpec)

/-- 'winnowlaw7.FilterNever', WHERE WHAT IT READS IS OF BULK AT MOST 1048576: true; the input reads as it did. -/
def filterNeverUptoRow : OpenClaim := { program := "ytpdlpahpefojbaadoor", sum := "5e948e42779c0251aca8e60570b7db08a6f9392169a156fb7f80907e48e7056a", func := "winnow/winnowlaw7.FilterNever", spec := "filterNever", unfollowed := true, recurses := true, named := ["winnow/filter.kinds", "winnow/filter.joins"], apart := false, laid := [("winnow/filter.kinds", laid_winnow_filter_kinds), ("winnow/filter.joins", laid_winnow_filter_joins)], narrowed := true }
def FilterNeverUptoSaid : Prop := filterNeverUptoRow.holds Tryd.pinned (OpenSpec.upto filterNeverSpec)

end Rows
end Go.Proofs.YtpdlpahpefojbaaDoor
