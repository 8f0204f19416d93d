/-
  The sum is linear: of three texts of one length, xor-ed.
-/
import Derived.Test.YtkooijlldpiljaaCrcMath
namespace Go.Proofs.Ytkooijlldpiljaa.Crc

def xor3 : List (BitVec 8) → List (BitVec 8) → List (BitVec 8) → List (BitVec 8)
  | a :: as, b :: bs, c :: cs => (a ^^^ b ^^^ c) :: xor3 as bs cs
  | _, _, _ => []
theorem xor_shuffle (a b c x y z : BitVec 32) : (a ^^^ b ^^^ c) ^^^ (x ^^^ y ^^^ z) = (a ^^^ x) ^^^ (b ^^^ y) ^^^ (c ^^^ z) := by
  apply BitVec.eq_of_getLsbD_eq
  intro i _
  simp only [BitVec.getLsbD_xor]
  cases a.getLsbD i <;> cases b.getLsbD i <;> cases c.getLsbD i <;> cases x.getLsbD i <;> cases y.getLsbD i <;> cases z.getLsbD i <;> rfl
theorem setWidth_xor3 (a b c : BitVec 8) : (a ^^^ b ^^^ c).setWidth 32 = a.setWidth 32 ^^^ b.setWidth 32 ^^^ c.setWidth 32 := by
  apply BitVec.eq_of_getLsbD_eq
  intro i hi
  simp only [BitVec.getLsbD_xor, BitVec.getLsbD_setWidth, hi, decide_true, Bool.true_and]
theorem run_xor3 (as bs cs : List (BitVec 8)) (h1 : as.length = bs.length) (h2 : as.length = cs.length) (x y z : BitVec 32) :
    run (x ^^^ y ^^^ z) (xor3 as bs cs) = run x as ^^^ run y bs ^^^ run z cs := by
  induction as generalizing bs cs x y z with
  | nil =>
    have hb : bs = [] := List.length_eq_zero_iff.1 h1.symm
    have hc : cs = [] := List.length_eq_zero_iff.1 h2.symm
    subst hb; subst hc; rfl
  | cons a as ih =>
    match bs, cs, h1, h2 with
    | b :: bs, c :: cs, h1, h2 =>
      show run (step (x ^^^ y ^^^ z) (a ^^^ b ^^^ c)) (xor3 as bs cs) = run (step x a) as ^^^ run (step y b) bs ^^^ run (step z c) cs
      rw [← ih bs cs (by simpa using h1) (by simpa using h2)]
      congr 1
      unfold step
      rw [setWidth_xor3, xor_shuffle, Mn_xor, Mn_xor]
theorem not_xor3 (x y z : BitVec 32) : ~~~ (x ^^^ y ^^^ z) = ~~~ x ^^^ ~~~ y ^^^ ~~~ z := by
  apply BitVec.eq_of_getLsbD_eq
  intro i hi
  simp only [BitVec.getLsbD_xor, BitVec.getLsbD_not, hi, decide_true, Bool.true_and]
  cases x.getLsbD i <;> cases y.getLsbD i <;> cases z.getLsbD i <;> rfl
theorem sum_xor3 (as bs cs : List (BitVec 8)) (h1 : as.length = bs.length) (h2 : as.length = cs.length) : sum (xor3 as bs cs) = sum as ^^^ sum bs ^^^ sum cs := by
  unfold sum extend
  rw [← not_xor3, ← run_xor3 as bs cs h1 h2, ← not_xor3]
  congr 2
theorem xor3_snoc (as bs cs : List (BitVec 8)) (a b c : BitVec 8) (h1 : as.length = bs.length) (h2 : as.length = cs.length) : xor3 (as ++ [a]) (bs ++ [b]) (cs ++ [c]) = xor3 as bs cs ++ [a ^^^ b ^^^ c] := by
  induction as generalizing bs cs with
  | nil =>
    have hb : bs = [] := List.length_eq_zero_iff.1 h1.symm
    have hc : cs = [] := List.length_eq_zero_iff.1 h2.symm
    subst hb; subst hc; rfl
  | cons x as ih =>
    match bs, cs, h1, h2 with
    | y :: bs, z :: cs, h1, h2 =>
      show _ :: xor3 (as ++ [a]) (bs ++ [b]) (cs ++ [c]) = _
      rw [ih bs cs (by simpa using h1) (by simpa using h2)]
      rfl
theorem length_xor3 (as bs cs : List (BitVec 8)) (h1 : as.length = bs.length) (h2 : as.length = cs.length) : (xor3 as bs cs).length = as.length := by
  induction as generalizing bs cs with
  | nil => rfl
  | cons x as ih =>
    match bs, cs, h1, h2 with
    | y :: bs, z :: cs, h1, h2 =>
      show (xor3 as bs cs).length + 1 = _
      rw [ih bs cs (by simpa using h1) (by simpa using h2)]
      rfl
end Go.Proofs.Ytkooijlldpiljaa.Crc
