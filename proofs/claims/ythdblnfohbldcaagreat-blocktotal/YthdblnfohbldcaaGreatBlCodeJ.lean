/-
  The codes of a block: the table, the plain code, what is too dense.
-/
import Derived.Test.YthdblnfohbldcaaGreatBlRawJ
import Derived.Test.YthdblnfohbldcaaGreatFaZerosJ
namespace Go.Proofs.YthdblnfohbldcaaGreat.Bl
open Go.ChangeShapes Go.WideShapes Go.ChangeAt Go.RowKit
open Go.Proofs.YthdblnfohbldcaaGreat.Base Go.Proofs.YthdblnfohbldcaaGreat.Nums
set_option linter.unusedVariables false
set_option maxRecDepth 100000 in
theorem dense_any (p n : Int) (w : World) (h0 : 0 ≤ p) (h1 : p ≤ 140737488355328) :
    Calls Tryz.prog 81 #[.int .i64 p, .int .i64 n] w fun e w' => e = .returned (.bool (decide (64 * p < n))) ∧ w' = w := by
  have hw : IntKind.i64.wrap (64 * p) = 64 * p := by rw [IntKind.wrap_i64]; omega
  go_enter Tryz.func81, Tryz.ntmps81
  go_wp2_with fail
  go_ret
  exact ⟨rfl, rfl⟩
set_option maxRecDepth 100000 in
theorem encRaw_any (a : Option Addr) (len cap : Nat) (bs : List (BitVec 8)) (w : World) (hr : Rd w a len bs) (hnil : a = none → len = 0 ∧ cap = 0) :
    Calls Tryz.prog 127 #[.slice a len cap] w fun e w' => ∃ v, e = .returned (.tuple #[v, .int .i64 0]) ∧ Own w' w.heap.size v bs ∧ Below w.heap.size w w' := by
  have HC := hide (Fa.cloneB_any a len cap bs w hr hnil)
  clear hr
  go_enter Tryz.func127, Tryz.ntmps127
  go_wp2_with (go_at_call 160; refine HC.out.mono ?_; rintro e w1 ⟨v, rfl, ho, hb⟩; have HO := hide ho; have HB := hide hb; clear ho hb)
  go_ret2
  exact ⟨_, rfl, HO.out, HB.out⟩
/-- A function as a value; the table. -/
def fnv (k : Nat) : Value := .func (Fn.func k) #[] #[]
def codesO : Obj := .cells #[fnv 127, fnv 128, fnv 14, fnv 12, fnv 15, fnv 13] 134
set_option maxRecDepth 100000 in
theorem codes_any (w : World) :
    Calls Tryz.prog 82 #[] w fun e w' => e = .returned (.slice (some ⟨w.heap.size, 0, none⟩) 3 3) ∧ w' = w.alloc codesO := by
  go_enter Tryz.func82, Tryz.ntmps82
  go_wp2_with fail
  go_ret
  exact ⟨rfl, rfl⟩
end Go.Proofs.YthdblnfohbldcaaGreat.Bl
