/-
  The cut of raw bytes: what a reader makes of them.
-/
import Derived.Test.YthdblnfohbldcaaGreatPaStrsJ
import Derived.Test.YthdblnfohbldcaaGreatLzC4J
namespace Go.Proofs.YthdblnfohbldcaaGreat.Bl
open Go.Proofs.YthdblnfohbldcaaGreat.Base Go.Proofs.YthdblnfohbldcaaGreat.Nums Go.Proofs.YthdblnfohbldcaaGreat.Curs
open Go.Proofs.YthdblnfohbldcaaGreat.Fa (St fixS)
set_option linter.unusedVariables false
/-- The two numbers at the end of raw bytes. -/
def tailS (bs : List (BitVec 8)) : St := some (bs.drop (bs.length - 8))
def ctR (bs : List (BitVec 8)) : Nat := (fixS (tailS bs) 4).1
def ctN (bs : List (BitVec 8)) : Nat := (fixS (fixS (tailS bs) 4).2 4).1
def cutA (bs : List (BitVec 8)) : Bool := decide ((fixS (fixS (tailS bs) 4).2 4).2 = some [] ∧ 1 ≤ ctR bs ∧ ctR bs ≤ 64 ∧ 1 ≤ ctN bs ∧ ctN bs ≤ bs.length)
def ctG (bs : List (BitVec 8)) : Nat := (ctN bs - 1) / ctR bs + 1
def cutB (bs : List (BitVec 8)) : Bool := cutA bs && decide (4 * ctG bs + 8 ≤ bs.length)
def ctE (bs : List (BitVec 8)) : Nat := bs.length - 8 - 4 * ctG bs
/-- So many words. -/
def tabS : Nat → St → List Int
  | 0, _ => []
  | m + 1, s => ((fixS s 4).1 : Int) :: tabS m (fixS s 4).2
def tabL : Nat → St → St
  | 0, s => s
  | m + 1, s => tabL m (fixS s 4).2
theorem tabL_snoc : ∀ m s, tabL (m + 1) s = (fixS (tabL m s) 4).2
  | 0, _ => rfl
  | m + 1, s => by show tabL (m + 1) (fixS s 4).2 = _; rw [tabL_snoc m]; rfl
theorem tabS_snoc : ∀ m s, tabS (m + 1) s = tabS m s ++ [((fixS (tabL m s) 4).1 : Int)]
  | 0, _ => rfl
  | m + 1, s => by
    show _ :: tabS (m + 1) (fixS s 4).2 = _
    rw [tabS_snoc m]
    rfl
theorem tabS_len : ∀ m s, (tabS m s).length = m
  | 0, _ => rfl
  | m + 1, s => by show (_ :: _).length = _; rw [List.length_cons, tabS_len m]
def ctP (bs : List (BitVec 8)) : List Int := tabS (ctG bs) (some (bs.drop (ctE bs))) ++ [(ctE bs : Int)]
def cutC (bs : List (BitVec 8)) : Bool := ((ctP bs).getD 0 0 == 0) && upI (ctP bs)
def cutOk (bs : List (BitVec 8)) : Bool := cutB bs && cutC bs
end Go.Proofs.YthdblnfohbldcaaGreat.Bl
