/-
  No cell of these rows narrows 'for every input' (looked for: loops, veiled, ifaces, maps, wideKeys, modest, calm, conditions, laid).
  DERIVED. THE GIVEN ROWS OF THIS SEAT. 5 by the template 'for every input the law returns true; each argument reads behind the call as it read before'; 0 by the template 'total and deterministic' (their statements: YtclddadhddljgaaTotals.lean).
  GIVEN WITH THE SEED: the statements are not yours to turn. If you find one false, say at which input.
  Laid BY PROGRAM, IN A SANDBOX (cutbox-rows.mjs): the forced cells as the released guide's own fill.sh prints them over the translation 87ce53adc74ef0c7… (all of the seat's roots in one cut). By AI agents, Wed Nov 11 2026. No macro, syntax, notation, axiom, sorry.
-/
import Derived.Test.YtclddadhddljgaaChecked
import GoSem.Claim
import GoSem.ClaimJoined
import GoSem.ClaimMapViews
import Derived.JoinedTies
import Derived.KernelRfl
namespace Go.Proofs.Ytclddadhddljgaa
/- THE CELL 'sum', in the pinned program and in every row, IS THE sha256 OF THE DUMP (.gsa) THAT YtclddadhddljgaaProg.lean LOADS. Nothing in Lean hashes anything: it is a label: what it is worth is what the hold of that sum in a sandbox is worth. -/
noncomputable def Try.pinned : Pinned := { name := "ytclddadhddljgaa", sum := "87ce53adc74ef0c77a0c2215b0d4cda3e77243708da7d40b6cb3b80bb270f1c7", checked := Try.checked }
namespace Rows
def none {H : Type} : Left H := { results := [], args := [] }

/-- 'winnowlaw2.NumsOneToOne': WHATEVER THE INPUT: true; the input reads as it did. -/
def numsOneToOneSpec : ChangeSpec := { name := "numsOneToOne", fn := fun _ => fun
  | [d1, d2, d3] => { results := [.lit (.bool true)], args := [d1, d2, d3] }
  | _ => none }
def numsOneToOneRow : OpenClaim := { program := "ytclddadhddljgaa", sum := "87ce53adc74ef0c77a0c2215b0d4cda3e77243708da7d40b6cb3b80bb270f1c7", func := "winnow/winnowlaw2.NumsOneToOne", spec := "numsOneToOne", apart := false }
def NumsOneToOneSaid : Prop := numsOneToOneRow.holds Try.pinned (OpenSpec.ofChange numsOneToOneSpec)

/-- ITS FALSE NEIGHBOUR: 'it returns false'. Refute it at one input. -/
def numsOneToOneWrong : ChangeSpec := { name := "numsOneToOne", fn := fun _ => fun
  | [d1, d2, d3] => { results := [.lit (.bool false)], args := [d1, d2, d3] }
  | _ => none }
def NumsOneToOneWrongFalsely : Prop := numsOneToOneRow.holds Try.pinned (OpenSpec.ofChange numsOneToOneWrong)

/-- 'winnowlaw2.NumsPut': WHATEVER THE INPUT: true; the input reads as it did. -/
def numsPutSpec : ChangeSpec := { name := "numsPut", fn := fun _ => fun
  | [d1, d2] => { results := [.lit (.bool true)], args := [d1, d2] }
  | _ => none }
def numsPutRow : OpenClaim := { program := "ytclddadhddljgaa", sum := "87ce53adc74ef0c77a0c2215b0d4cda3e77243708da7d40b6cb3b80bb270f1c7", func := "winnow/winnowlaw2.NumsPut", spec := "numsPut", apart := false }
def NumsPutSaid : Prop := numsPutRow.holds Try.pinned (OpenSpec.ofChange numsPutSpec)

/-- ITS FALSE NEIGHBOUR: 'it returns false'. Refute it at one input. -/
def numsPutWrong : ChangeSpec := { name := "numsPut", fn := fun _ => fun
  | [d1, d2] => { results := [.lit (.bool false)], args := [d1, d2] }
  | _ => none }
def NumsPutWrongFalsely : Prop := numsPutRow.holds Try.pinned (OpenSpec.ofChange numsPutWrong)

/-- 'winnowlaw2.NumsGet': WHATEVER THE INPUT: true; the input reads as it did. -/
def numsGetSpec : ChangeSpec := { name := "numsGet", fn := fun _ => fun
  | [d] => { results := [.lit (.bool true)], args := [d] }
  | _ => none }
def numsGetRow : OpenClaim := { program := "ytclddadhddljgaa", sum := "87ce53adc74ef0c77a0c2215b0d4cda3e77243708da7d40b6cb3b80bb270f1c7", func := "winnow/winnowlaw2.NumsGet", spec := "numsGet", apart := false }
def NumsGetSaid : Prop := numsGetRow.holds Try.pinned (OpenSpec.ofChange numsGetSpec)

/-- ITS FALSE NEIGHBOUR: 'it returns false'. Refute it at one input. -/
def numsGetWrong : ChangeSpec := { name := "numsGet", fn := fun _ => fun
  | [d] => { results := [.lit (.bool false)], args := [d] }
  | _ => none }
def NumsGetWrongFalsely : Prop := numsGetRow.holds Try.pinned (OpenSpec.ofChange numsGetWrong)

/-- 'winnowlaw2.NumsOrder': WHATEVER THE INPUT: true; the input reads as it did. -/
def numsOrderSpec : ChangeSpec := { name := "numsOrder", fn := fun _ => fun
  | [d1, d2, d3] => { results := [.lit (.bool true)], args := [d1, d2, d3] }
  | _ => none }
def numsOrderRow : OpenClaim := { program := "ytclddadhddljgaa", sum := "87ce53adc74ef0c77a0c2215b0d4cda3e77243708da7d40b6cb3b80bb270f1c7", func := "winnow/winnowlaw2.NumsOrder", spec := "numsOrder", apart := false }
def NumsOrderSaid : Prop := numsOrderRow.holds Try.pinned (OpenSpec.ofChange numsOrderSpec)

/-- ITS FALSE NEIGHBOUR: 'it returns false'. Refute it at one input. -/
def numsOrderWrong : ChangeSpec := { name := "numsOrder", fn := fun _ => fun
  | [d1, d2, d3] => { results := [.lit (.bool false)], args := [d1, d2, d3] }
  | _ => none }
def NumsOrderWrongFalsely : Prop := numsOrderRow.holds Try.pinned (OpenSpec.ofChange numsOrderWrong)

/-- 'winnowlaw2.NumsWords': WHATEVER THE INPUT: true; the input reads as it did. -/
def numsWordsSpec : ChangeSpec := { name := "numsWords", fn := fun _ => fun
  | [d1, d2] => { results := [.lit (.bool true)], args := [d1, d2] }
  | _ => none }
def numsWordsRow : OpenClaim := { program := "ytclddadhddljgaa", sum := "87ce53adc74ef0c77a0c2215b0d4cda3e77243708da7d40b6cb3b80bb270f1c7", func := "winnow/winnowlaw2.NumsWords", spec := "numsWords", apart := false }
def NumsWordsSaid : Prop := numsWordsRow.holds Try.pinned (OpenSpec.ofChange numsWordsSpec)

/-- ITS FALSE NEIGHBOUR: 'it returns false'. Refute it at one input. -/
def numsWordsWrong : ChangeSpec := { name := "numsWords", fn := fun _ => fun
  | [d1, d2] => { results := [.lit (.bool false)], args := [d1, d2] }
  | _ => none }
def NumsWordsWrongFalsely : Prop := numsWordsRow.holds Try.pinned (OpenSpec.ofChange numsWordsWrong)

/- THE SECOND FORM. 'bulk': how many values and letters a reading holds, each counted each time it is reached (what is shared counts as often as it is met; a slice's spare places count too). A statement '..UptoSaid' is the law's where the arguments, and the package variables that the reading takes, are together of bulk at most 1048576: NARROWER than '..Said'. Prove '..Said' where nothing that the law and all that it calls make is longer than what came in: it says more and counts as full. Else prove '..UptoSaid'. A law counts once. -/
mutual
def uptoBulk {H : Type} : DataW H → Nat
  | .lit (.string bytes) => bytes.length + 1
  | .lit _ => 1
  | .nil => 1
  | .ptr d => uptoBulk d + 1
  | .slice elems spare => uptoBulkAll elems + uptoBulkAll spare + 1
  | .agg parts => uptoBulkAll parts + 1
  | .iface _ d => uptoBulk d + 1
  | .map entries => uptoBulkEntries entries + 1
  | .held _ => 1
def uptoBulkAll {H : Type} : List (DataW H) → Nat
  | [] => 0
  | d :: r => uptoBulk d + uptoBulkAll r
def uptoBulkEntries {H : Type} : List (Lit × DataW H) → Nat
  | [] => 0
  | x :: r => uptoBulkEntry x + uptoBulkEntries r
def uptoBulkEntry {H : Type} : Lit × DataW H → Nat
  | (.string bytes, d) => bytes.length + uptoBulk d + 1
  | (_, d) => uptoBulk d + 1
 end
def uptoSmall : (H : Type) → List (DataW H) → Bool := fun _ ds => decide (uptoBulkAll ds ≤ 1048576)
def OpenSpec.upto (s : _root_.Go.ChangeSpec) : _root_.Go.OpenSpec := { _root_.Go.OpenSpec.ofChange s with cond := some uptoSmall }

/-- 'winnowlaw2.NumsOneToOne', WHERE WHAT IT READS IS OF BULK AT MOST 1048576: true; the input reads as it did. -/
def numsOneToOneUptoRow : OpenClaim := { program := "ytclddadhddljgaa", sum := "87ce53adc74ef0c77a0c2215b0d4cda3e77243708da7d40b6cb3b80bb270f1c7", func := "winnow/winnowlaw2.NumsOneToOne", spec := "numsOneToOne", apart := false, narrowed := true }
def NumsOneToOneUptoSaid : Prop := numsOneToOneUptoRow.holds Try.pinned (OpenSpec.upto numsOneToOneSpec)

/-- 'winnowlaw2.NumsPut', WHERE WHAT IT READS IS OF BULK AT MOST 1048576: true; the input reads as it did. -/
def numsPutUptoRow : OpenClaim := { program := "ytclddadhddljgaa", sum := "87ce53adc74ef0c77a0c2215b0d4cda3e77243708da7d40b6cb3b80bb270f1c7", func := "winnow/winnowlaw2.NumsPut", spec := "numsPut", apart := false, narrowed := true }
def NumsPutUptoSaid : Prop := numsPutUptoRow.holds Try.pinned (OpenSpec.upto numsPutSpec)

/-- 'winnowlaw2.NumsGet', WHERE WHAT IT READS IS OF BULK AT MOST 1048576: true; the input reads as it did. -/
def numsGetUptoRow : OpenClaim := { program := "ytclddadhddljgaa", sum := "87ce53adc74ef0c77a0c2215b0d4cda3e77243708da7d40b6cb3b80bb270f1c7", func := "winnow/winnowlaw2.NumsGet", spec := "numsGet", apart := false, narrowed := true }
def NumsGetUptoSaid : Prop := numsGetUptoRow.holds Try.pinned (OpenSpec.upto numsGetSpec)

/-- 'winnowlaw2.NumsOrder', WHERE WHAT IT READS IS OF BULK AT MOST 1048576: true; the input reads as it did. -/
def numsOrderUptoRow : OpenClaim := { program := "ytclddadhddljgaa", sum := "87ce53adc74ef0c77a0c2215b0d4cda3e77243708da7d40b6cb3b80bb270f1c7", func := "winnow/winnowlaw2.NumsOrder", spec := "numsOrder", apart := false, narrowed := true }
def NumsOrderUptoSaid : Prop := numsOrderUptoRow.holds Try.pinned (OpenSpec.upto numsOrderSpec)

/-- 'winnowlaw2.NumsWords', WHERE WHAT IT READS IS OF BULK AT MOST 1048576: true; the input reads as it did. -/
def numsWordsUptoRow : OpenClaim := { program := "ytclddadhddljgaa", sum := "87ce53adc74ef0c77a0c2215b0d4cda3e77243708da7d40b6cb3b80bb270f1c7", func := "winnow/winnowlaw2.NumsWords", spec := "numsWords", apart := false, narrowed := true }
def NumsWordsUptoSaid : Prop := numsWordsUptoRow.holds Try.pinned (OpenSpec.upto numsWordsSpec)

end Rows
end Go.Proofs.Ytclddadhddljgaa
