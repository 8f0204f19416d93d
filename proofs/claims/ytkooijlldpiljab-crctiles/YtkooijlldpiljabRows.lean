/-
  No cell of these rows narrows 'for every input' (looked for: loops, veiled, ifaces, maps, wideKeys, modest, calm, conditions, laid).
  DERIVED. THE GIVEN ROWS OF THIS SEAT. 4 by the template 'for every input the law returns true; each argument reads behind the call as it read before'; 0 by the template 'total and deterministic' (their statements: YtkooijlldpiljabTotals.lean).
  GIVEN WITH THE SEED: the statements are not yours to turn. If you find one false, say at which input.
  Laid BY PROGRAM, IN A SANDBOX (cutbox-rows.mjs): the forced cells as the released guide's own fill.sh prints them over the translation a5d65a4ef36448b5… (all of the seat's roots in one cut). By AI agents, Wed Nov 11 2026. No macro, syntax, notation, axiom, sorry.
-/
import Derived.Test.YtkooijlldpiljabChecked
import GoSem.Claim
import GoSem.ClaimJoined
import GoSem.ClaimMapViews
import Derived.JoinedTies
import Derived.KernelRfl
namespace Go.Proofs.Ytkooijlldpiljab
/- THE CELL 'sum', in the pinned program and in every row, IS THE sha256 OF THE DUMP (.gsa) THAT YtkooijlldpiljabProg.lean LOADS. Nothing in Lean hashes anything: it is a label: what it is worth is what the hold of that sum in a sandbox is worth. -/
noncomputable def Try.pinned : Pinned := { name := "ytkooijlldpiljab", sum := "a5d65a4ef36448b52a60013f00717530bae34dccf1bcb2928b97b999786a96a0", checked := Try.checked }
namespace Rows
def none {H : Type} : Left H := { results := [], args := [] }

/-- 'winnowlaw1.CrcFar': WHATEVER THE INPUT: true; the input reads as it did. -/
def crcFarSpec : ChangeSpec := { name := "crcFar", fn := fun _ => fun
  | [d1, d2, d3, d4, d5] => { results := [.lit (.bool true)], args := [d1, d2, d3, d4, d5] }
  | _ => none }
def crcFarRow : OpenClaim := { program := "ytkooijlldpiljab", sum := "a5d65a4ef36448b52a60013f00717530bae34dccf1bcb2928b97b999786a96a0", func := "winnow/winnowlaw1.CrcFar", spec := "crcFar", apart := false }
def CrcFarSaid : Prop := crcFarRow.holds Try.pinned (OpenSpec.ofChange crcFarSpec)

/-- ITS FALSE NEIGHBOUR: 'it returns false'. Refute it at one input. -/
def crcFarWrong : ChangeSpec := { name := "crcFar", fn := fun _ => fun
  | [d1, d2, d3, d4, d5] => { results := [.lit (.bool false)], args := [d1, d2, d3, d4, d5] }
  | _ => none }
def CrcFarWrongFalsely : Prop := crcFarRow.holds Try.pinned (OpenSpec.ofChange crcFarWrong)

/-- 'winnowlaw1.CrcParts': WHATEVER THE INPUT: true; the input reads as it did. -/
def crcPartsSpec : ChangeSpec := { name := "crcParts", fn := fun _ => fun
  | [d1, d2, d3] => { results := [.lit (.bool true)], args := [d1, d2, d3] }
  | _ => none }
def crcPartsRow : OpenClaim := { program := "ytkooijlldpiljab", sum := "a5d65a4ef36448b52a60013f00717530bae34dccf1bcb2928b97b999786a96a0", func := "winnow/winnowlaw1.CrcParts", spec := "crcParts", apart := false }
def CrcPartsSaid : Prop := crcPartsRow.holds Try.pinned (OpenSpec.ofChange crcPartsSpec)

/-- ITS FALSE NEIGHBOUR: 'it returns false'. Refute it at one input. -/
def crcPartsWrong : ChangeSpec := { name := "crcParts", fn := fun _ => fun
  | [d1, d2, d3] => { results := [.lit (.bool false)], args := [d1, d2, d3] }
  | _ => none }
def CrcPartsWrongFalsely : Prop := crcPartsRow.holds Try.pinned (OpenSpec.ofChange crcPartsWrong)

/-- 'winnowlaw1.CrcTiles': WHATEVER THE INPUT: true; the input reads as it did. -/
def crcTilesSpec : ChangeSpec := { name := "crcTiles", fn := fun _ => fun
  | [d] => { results := [.lit (.bool true)], args := [d] }
  | _ => none }
def crcTilesRow : OpenClaim := { program := "ytkooijlldpiljab", sum := "a5d65a4ef36448b52a60013f00717530bae34dccf1bcb2928b97b999786a96a0", func := "winnow/winnowlaw1.CrcTiles", spec := "crcTiles", apart := false }
def CrcTilesSaid : Prop := crcTilesRow.holds Try.pinned (OpenSpec.ofChange crcTilesSpec)

/-- ITS FALSE NEIGHBOUR: 'it returns false'. Refute it at one input. -/
def crcTilesWrong : ChangeSpec := { name := "crcTiles", fn := fun _ => fun
  | [d] => { results := [.lit (.bool false)], args := [d] }
  | _ => none }
def CrcTilesWrongFalsely : Prop := crcTilesRow.holds Try.pinned (OpenSpec.ofChange crcTilesWrong)

/-- 'winnowlaw1.CrcRunning': WHATEVER THE INPUT: true; the input reads as it did. -/
def crcRunningSpec : ChangeSpec := { name := "crcRunning", fn := fun _ => fun
  | [d] => { results := [.lit (.bool true)], args := [d] }
  | _ => none }
def crcRunningRow : OpenClaim := { program := "ytkooijlldpiljab", sum := "a5d65a4ef36448b52a60013f00717530bae34dccf1bcb2928b97b999786a96a0", func := "winnow/winnowlaw1.CrcRunning", spec := "crcRunning", apart := false }
def CrcRunningSaid : Prop := crcRunningRow.holds Try.pinned (OpenSpec.ofChange crcRunningSpec)

/-- ITS FALSE NEIGHBOUR: 'it returns false'. Refute it at one input. -/
def crcRunningWrong : ChangeSpec := { name := "crcRunning", fn := fun _ => fun
  | [d] => { results := [.lit (.bool false)], args := [d] }
  | _ => none }
def CrcRunningWrongFalsely : Prop := crcRunningRow.holds Try.pinned (OpenSpec.ofChange crcRunningWrong)

/- THE SECOND FORM. 'bulk': how many values and letters a reading holds, each counted each time it is reached (what is shared counts as often as it is met; a slice's spare places count too). A statement '..UptoSaid' is the law's where the arguments, and the package variables that the reading takes, are together of bulk at most 1048576: NARROWER than '..Said'. Prove '..Said' where nothing that the law and all that it calls make is longer than what came in: it says more and counts as full. Else prove '..UptoSaid'. A law counts once. -/
mutual
def uptoBulk {H : Type} : DataW H → Nat
  | .lit (.string bytes) => bytes.length + 1
  | .lit _ => 1
  | .nil => 1
  | .ptr d => uptoBulk d + 1
  | .slice elems spare => uptoBulkAll elems + uptoBulkAll spare + 1
  | .agg parts => uptoBulkAll parts + 1
  | .iface _ d => uptoBulk d + 1
  | .map entries => uptoBulkEntries entries + 1
  | .held _ => 1
def uptoBulkAll {H : Type} : List (DataW H) → Nat
  | [] => 0
  | d :: r => uptoBulk d + uptoBulkAll r
def uptoBulkEntries {H : Type} : List (Lit × DataW H) → Nat
  | [] => 0
  | x :: r => uptoBulkEntry x + uptoBulkEntries r
def uptoBulkEntry {H : Type} : Lit × DataW H → Nat
  | (.string bytes, d) => bytes.length + uptoBulk d + 1
  | (_, d) => uptoBulk d + 1
 end
def uptoSmall : (H : Type) → List (DataW H) → Bool := fun _ ds => decide (uptoBulkAll ds ≤ 1048576)
def OpenSpec.upto (s : _root_.Go.ChangeSpec) : _root_.Go.OpenSpec := { _root_.Go.OpenSpec.ofChange s with cond := some uptoSmall }

/-- 'winnowlaw1.CrcFar', WHERE WHAT IT READS IS OF BULK AT MOST 1048576: true; the input reads as it did. -/
def crcFarUptoRow : OpenClaim := { program := "ytkooijlldpiljab", sum := "a5d65a4ef36448b52a60013f00717530bae34dccf1bcb2928b97b999786a96a0", func := "winnow/winnowlaw1.CrcFar", spec := "crcFar", apart := false, narrowed := true }
def CrcFarUptoSaid : Prop := crcFarUptoRow.holds Try.pinned (OpenSpec.upto crcFarSpec)

/-- 'winnowlaw1.CrcParts', WHERE WHAT IT READS IS OF BULK AT MOST 1048576: true; the input reads as it did. -/
def crcPartsUptoRow : OpenClaim := { program := "ytkooijlldpiljab", sum := "a5d65a4ef36448b52a60013f00717530bae34dccf1bcb2928b97b999786a96a0", func := "winnow/winnowlaw1.CrcParts", spec := "crcParts", apart := false, narrowed := true }
def CrcPartsUptoSaid : Prop := crcPartsUptoRow.holds Try.pinned (OpenSpec.upto crcPartsSpec)

/-- 'winnowlaw1.CrcTiles', WHERE WHAT IT READS IS OF BULK AT MOST 1048576: true; the input reads as it did. -/
def crcTilesUptoRow : OpenClaim := { program := "ytkooijlldpiljab", sum := "a5d65a4ef36448b52a60013f00717530bae34dccf1bcb2928b97b999786a96a0", func := "winnow/winnowlaw1.CrcTiles", spec := "crcTiles", apart := false, narrowed := true }
def CrcTilesUptoSaid : Prop := crcTilesUptoRow.holds Try.pinned (OpenSpec.upto crcTilesSpec)

/-- 'winnowlaw1.CrcRunning', WHERE WHAT IT READS IS OF BULK AT MOST 1048576: true; the input reads as it did. -/
def crcRunningUptoRow : OpenClaim := { program := "ytkooijlldpiljab", sum := "a5d65a4ef36448b52a60013f00717530bae34dccf1bcb2928b97b999786a96a0", func := "winnow/winnowlaw1.CrcRunning", spec := "crcRunning", apart := false, narrowed := true }
def CrcRunningUptoSaid : Prop := crcRunningUptoRow.holds Try.pinned (OpenSpec.upto crcRunningSpec)

end Rows
end Go.Proofs.Ytkooijlldpiljab
