/-
  No cell of these rows narrows 'for every input' (looked for: loops, veiled, ifaces, maps, wideKeys, modest, calm, conditions, laid).
  DERIVED. THE GIVEN ROWS OF THIS SEAT. 6 by the template 'for every input the law returns true; each argument reads behind the call as it read before'; 0 by the template 'total and deterministic' (their statements: YtjgogkbhneohnaaTotals.lean).
  GIVEN WITH THE SEED: the statements are not yours to turn. If you find one false, say at which input.
  Laid BY PROGRAM, IN A SANDBOX (cutbox-rows.mjs): the forced cells as the released guide's own fill.sh prints them over the translation 7e1648b15f6dff40… (all of the seat's roots in one cut). By AI agents, Wed Nov 11 2026. No macro, syntax, notation, axiom, sorry.
-/
import Derived.Test.YtjgogkbhneohnaaChecked
import GoSem.Claim
import GoSem.ClaimJoined
import GoSem.ClaimMapViews
import Derived.JoinedTies
import Derived.KernelRfl
namespace Go.Proofs.Ytjgogkbhneohnaa
/- THE CELL 'sum', in the pinned program and in every row, IS THE sha256 OF THE DUMP (.gsa) THAT YtjgogkbhneohnaaProg.lean LOADS. Nothing in Lean hashes anything: it is a label: what it is worth is what the hold of that sum in a sandbox is worth. -/
noncomputable def Try.pinned : Pinned := { name := "ytjgogkbhneohnaa", sum := "7e1648b15f6dff40de71915380b17ccc67c75fbf2e9641a5b6bad3307136fb94", checked := Try.checked }
namespace Rows
def none {H : Type} : Left H := { results := [], args := [] }

/-- 'winnowlaw2.NumsCursor': WHATEVER THE INPUT: true; the input reads as it did. -/
def numsCursorSpec : ChangeSpec := { name := "numsCursor", fn := fun _ => fun
  | [d1, d2] => { results := [.lit (.bool true)], args := [d1, d2] }
  | _ => none }
def numsCursorRow : OpenClaim := { program := "ytjgogkbhneohnaa", sum := "7e1648b15f6dff40de71915380b17ccc67c75fbf2e9641a5b6bad3307136fb94", func := "winnow/winnowlaw2.NumsCursor", spec := "numsCursor", unfollowed := true, recurses := true, apart := false }
def NumsCursorSaid : Prop := numsCursorRow.holds Try.pinned (OpenSpec.ofChange numsCursorSpec)

/-- ITS FALSE NEIGHBOUR: 'it returns false'. Refute it at one input. -/
def numsCursorWrong : ChangeSpec := { name := "numsCursor", fn := fun _ => fun
  | [d1, d2] => { results := [.lit (.bool false)], args := [d1, d2] }
  | _ => none }
def NumsCursorWrongFalsely : Prop := numsCursorRow.holds Try.pinned (OpenSpec.ofChange numsCursorWrong)

/-- 'winnowlaw3.LzTokens': WHATEVER THE INPUT: true; the input reads as it did. -/
def lzTokensSpec : ChangeSpec := { name := "lzTokens", fn := fun _ => fun
  | [d] => { results := [.lit (.bool true)], args := [d] }
  | _ => none }
def lzTokensRow : OpenClaim := { program := "ytjgogkbhneohnaa", sum := "7e1648b15f6dff40de71915380b17ccc67c75fbf2e9641a5b6bad3307136fb94", func := "winnow/winnowlaw3.LzTokens", spec := "lzTokens", apart := false }
def LzTokensSaid : Prop := lzTokensRow.holds Try.pinned (OpenSpec.ofChange lzTokensSpec)

/-- ITS FALSE NEIGHBOUR: 'it returns false'. Refute it at one input. -/
def lzTokensWrong : ChangeSpec := { name := "lzTokens", fn := fun _ => fun
  | [d] => { results := [.lit (.bool false)], args := [d] }
  | _ => none }
def LzTokensWrongFalsely : Prop := lzTokensRow.holds Try.pinned (OpenSpec.ofChange lzTokensWrong)

/-- 'winnowlaw3.LzEncodes': WHATEVER THE INPUT: true; the input reads as it did. -/
def lzEncodesSpec : ChangeSpec := { name := "lzEncodes", fn := fun _ => fun
  | [d] => { results := [.lit (.bool true)], args := [d] }
  | _ => none }
def lzEncodesRow : OpenClaim := { program := "ytjgogkbhneohnaa", sum := "7e1648b15f6dff40de71915380b17ccc67c75fbf2e9641a5b6bad3307136fb94", func := "winnow/winnowlaw3.LzEncodes", spec := "lzEncodes", apart := false }
def LzEncodesSaid : Prop := lzEncodesRow.holds Try.pinned (OpenSpec.ofChange lzEncodesSpec)

/-- ITS FALSE NEIGHBOUR: 'it returns false'. Refute it at one input. -/
def lzEncodesWrong : ChangeSpec := { name := "lzEncodes", fn := fun _ => fun
  | [d] => { results := [.lit (.bool false)], args := [d] }
  | _ => none }
def LzEncodesWrongFalsely : Prop := lzEncodesRow.holds Try.pinned (OpenSpec.ofChange lzEncodesWrong)

/-- 'winnowlaw3.LzDecodes': WHATEVER THE INPUT: true; the input reads as it did. -/
def lzDecodesSpec : ChangeSpec := { name := "lzDecodes", fn := fun _ => fun
  | [d1, d2] => { results := [.lit (.bool true)], args := [d1, d2] }
  | _ => none }
def lzDecodesRow : OpenClaim := { program := "ytjgogkbhneohnaa", sum := "7e1648b15f6dff40de71915380b17ccc67c75fbf2e9641a5b6bad3307136fb94", func := "winnow/winnowlaw3.LzDecodes", spec := "lzDecodes", unfollowed := true, recurses := true, apart := false }
def LzDecodesSaid : Prop := lzDecodesRow.holds Try.pinned (OpenSpec.ofChange lzDecodesSpec)

/-- ITS FALSE NEIGHBOUR: 'it returns false'. Refute it at one input. -/
def lzDecodesWrong : ChangeSpec := { name := "lzDecodes", fn := fun _ => fun
  | [d1, d2] => { results := [.lit (.bool false)], args := [d1, d2] }
  | _ => none }
def LzDecodesWrongFalsely : Prop := lzDecodesRow.holds Try.pinned (OpenSpec.ofChange lzDecodesWrong)

/-- 'winnowlaw4.HuffCodes': WHATEVER THE INPUT: true; the input reads as it did. -/
def huffCodesSpec : ChangeSpec := { name := "huffCodes", fn := fun _ => fun
  | [d] => { results := [.lit (.bool true)], args := [d] }
  | _ => none }
def huffCodesRow : OpenClaim := { program := "ytjgogkbhneohnaa", sum := "7e1648b15f6dff40de71915380b17ccc67c75fbf2e9641a5b6bad3307136fb94", func := "winnow/winnowlaw4.HuffCodes", spec := "huffCodes", apart := false }
def HuffCodesSaid : Prop := huffCodesRow.holds Try.pinned (OpenSpec.ofChange huffCodesSpec)

/-- ITS FALSE NEIGHBOUR: 'it returns false'. Refute it at one input. -/
def huffCodesWrong : ChangeSpec := { name := "huffCodes", fn := fun _ => fun
  | [d] => { results := [.lit (.bool false)], args := [d] }
  | _ => none }
def HuffCodesWrongFalsely : Prop := huffCodesRow.holds Try.pinned (OpenSpec.ofChange huffCodesWrong)

/-- 'winnowlaw4.HuffCosts': WHATEVER THE INPUT: true; the input reads as it did. -/
def huffCostsSpec : ChangeSpec := { name := "huffCosts", fn := fun _ => fun
  | [d1, d2] => { results := [.lit (.bool true)], args := [d1, d2] }
  | _ => none }
def huffCostsRow : OpenClaim := { program := "ytjgogkbhneohnaa", sum := "7e1648b15f6dff40de71915380b17ccc67c75fbf2e9641a5b6bad3307136fb94", func := "winnow/winnowlaw4.HuffCosts", spec := "huffCosts", apart := false }
def HuffCostsSaid : Prop := huffCostsRow.holds Try.pinned (OpenSpec.ofChange huffCostsSpec)

/-- ITS FALSE NEIGHBOUR: 'it returns false'. Refute it at one input. -/
def huffCostsWrong : ChangeSpec := { name := "huffCosts", fn := fun _ => fun
  | [d1, d2] => { results := [.lit (.bool false)], args := [d1, d2] }
  | _ => none }
def HuffCostsWrongFalsely : Prop := huffCostsRow.holds Try.pinned (OpenSpec.ofChange huffCostsWrong)

/- THE SECOND FORM. 'bulk': how many values and letters a reading holds, each counted each time it is reached (what is shared counts as often as it is met; a slice's spare places count too). A statement '..UptoSaid' is the law's where the arguments, and the package variables that the reading takes, are together of bulk at most 1048576: NARROWER than '..Said'. Prove '..Said' where nothing that the law and all that it calls make is longer than what came in: it says more and counts as full. Else prove '..UptoSaid'. A law counts once. -/
mutual
def uptoBulk {H : Type} : DataW H → Nat
  | .lit (.string bytes) => bytes.length + 1
  | .lit _ => 1
  | .nil => 1
  | .ptr d => uptoBulk d + 1
  | .slice elems spare => uptoBulkAll elems + uptoBulkAll spare + 1
  | .agg parts => uptoBulkAll parts + 1
  | .iface _ d => uptoBulk d + 1
  | .map entries => uptoBulkEntries entries + 1
  | .held _ => 1
def uptoBulkAll {H : Type} : List (DataW H) → Nat
  | [] => 0
  | d :: r => uptoBulk d + uptoBulkAll r
def uptoBulkEntries {H : Type} : List (Lit × DataW H) → Nat
  | [] => 0
  | x :: r => uptoBulkEntry x + uptoBulkEntries r
def uptoBulkEntry {H : Type} : Lit × DataW H → Nat
  | (.string bytes, d) => bytes.length + uptoBulk d + 1
  | (_, d) => uptoBulk d + 1
 end
def uptoSmall : (H : Type) → List (DataW H) → Bool := fun _ ds => decide (uptoBulkAll ds ≤ 1048576)
def OpenSpec.upto (s : _root_.Go.ChangeSpec) : _root_.Go.OpenSpec := { _root_.Go.OpenSpec.ofChange s with cond := some uptoSmall }

/-- 'winnowlaw2.NumsCursor', WHERE WHAT IT READS IS OF BULK AT MOST 1048576: true; the input reads as it did. -/
def numsCursorUptoRow : OpenClaim := { program := "ytjgogkbhneohnaa", sum := "7e1648b15f6dff40de71915380b17ccc67c75fbf2e9641a5b6bad3307136fb94", func := "winnow/winnowlaw2.NumsCursor", spec := "numsCursor", unfollowed := true, recurses := true, apart := false, narrowed := true }
def NumsCursorUptoSaid : Prop := numsCursorUptoRow.holds Try.pinned (OpenSpec.upto numsCursorSpec)

/-- 'winnowlaw3.LzTokens', WHERE WHAT IT READS IS OF BULK AT MOST 1048576: true; the input reads as it did. -/
def lzTokensUptoRow : OpenClaim := { program := "ytjgogkbhneohnaa", sum := "7e1648b15f6dff40de71915380b17ccc67c75fbf2e9641a5b6bad3307136fb94", func := "winnow/winnowlaw3.LzTokens", spec := "lzTokens", apart := false, narrowed := true }
def LzTokensUptoSaid : Prop := lzTokensUptoRow.holds Try.pinned (OpenSpec.upto lzTokensSpec)

/-- 'winnowlaw3.LzEncodes', WHERE WHAT IT READS IS OF BULK AT MOST 1048576: true; the input reads as it did. -/
def lzEncodesUptoRow : OpenClaim := { program := "ytjgogkbhneohnaa", sum := "7e1648b15f6dff40de71915380b17ccc67c75fbf2e9641a5b6bad3307136fb94", func := "winnow/winnowlaw3.LzEncodes", spec := "lzEncodes", apart := false, narrowed := true }
def LzEncodesUptoSaid : Prop := lzEncodesUptoRow.holds Try.pinned (OpenSpec.upto lzEncodesSpec)

/-- 'winnowlaw3.LzDecodes', WHERE WHAT IT READS IS OF BULK AT MOST 1048576: true; the input reads as it did. -/
def lzDecodesUptoRow : OpenClaim := { program := "ytjgogkbhneohnaa", sum := "7e1648b15f6dff40de71915380b17ccc67c75fbf2e9641a5b6bad3307136fb94", func := "winnow/winnowlaw3.LzDecodes", spec := "lzDecodes", unfollowed := true, recurses := true, apart := false, narrowed := true }
def LzDecodesUptoSaid : Prop := lzDecodesUptoRow.holds Try.pinned (OpenSpec.upto lzDecodesSpec)

/-- 'winnowlaw4.HuffCodes', WHERE WHAT IT READS IS OF BULK AT MOST 1048576: true; the input reads as it did. -/
def huffCodesUptoRow : OpenClaim := { program := "ytjgogkbhneohnaa", sum := "7e1648b15f6dff40de71915380b17ccc67c75fbf2e9641a5b6bad3307136fb94", func := "winnow/winnowlaw4.HuffCodes", spec := "huffCodes", apart := false, narrowed := true }
def HuffCodesUptoSaid : Prop := huffCodesUptoRow.holds Try.pinned (OpenSpec.upto huffCodesSpec)

/-- 'winnowlaw4.HuffCosts', WHERE WHAT IT READS IS OF BULK AT MOST 1048576: true; the input reads as it did. -/
def huffCostsUptoRow : OpenClaim := { program := "ytjgogkbhneohnaa", sum := "7e1648b15f6dff40de71915380b17ccc67c75fbf2e9641a5b6bad3307136fb94", func := "winnow/winnowlaw4.HuffCosts", spec := "huffCosts", apart := false, narrowed := true }
def HuffCostsUptoSaid : Prop := huffCostsUptoRow.holds Try.pinned (OpenSpec.upto huffCostsSpec)

end Rows
end Go.Proofs.Ytjgogkbhneohnaa
