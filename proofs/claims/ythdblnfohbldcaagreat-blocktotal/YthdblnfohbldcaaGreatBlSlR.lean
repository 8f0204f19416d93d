/-
  A slice that reads as bytes, with its room.
-/
import Derived.Test.YthdblnfohbldcaaGreatBlOpen0
namespace Go.Proofs.YthdblnfohbldcaaGreat.Bl
open Go.ChangeShapes Go.WideShapes Go.ChangeAt Go.RowKit
open Go.Proofs.YthdblnfohbldcaaGreat.Base
set_option linter.unusedVariables false
def SlR (w : World) (a : Option Addr) (n c : Nat) (bs : List (BitVec 8)) : Prop := bs.length = n ∧ Rd w a n bs ∧ n ≤ c ∧ c ≤ 9223372036854775807 ∧ (a = none → n = 0 ∧ c = 0)
theorem SlR.below {w w' : World} {a : Option Addr} {n c : Nat} {bs : List (BitVec 8)} (h : SlR w a n c bs) (hb : Below w.heap.size w w') : SlR w' a n c bs := ⟨h.1, h.2.1.below hb, h.2.2⟩
theorem slr_own {w : World} {base : Nat} {v : Value} {bs : List (BitVec 8)} (h : Own w base v bs) (hl : bs.length ≤ 140737488355328) : ∃ a c, v = .slice a bs.length c ∧ SlR w a bs.length c bs := by
  obtain ⟨a, c, rfl⟩ := h.shape
  exact ⟨a, c, rfl, rfl, Got.rd h hl, own_le0 h, Own.room h, Got.nil h⟩
end Go.Proofs.YthdblnfohbldcaaGreat.Bl
