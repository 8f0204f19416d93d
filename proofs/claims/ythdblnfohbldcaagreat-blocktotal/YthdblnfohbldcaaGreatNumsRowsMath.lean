/-
  What is written one behind the other is read one behind the other: said of lists.
-/
import Derived.Test.YthdblnfohbldcaaGreatNumsItems
namespace Go.Proofs.YthdblnfohbldcaaGreat.Curs
open Go.Proofs.YthdblnfohbldcaaGreat.Base Go.Proofs.YthdblnfohbldcaaGreat.Nums
set_option linter.unusedVariables false
theorem atMost_put (v : Nat) (rest : List (BitVec 8)) (most : Int) (hv : v < 9223372036854775808) (h : (v : Int) ≤ most) : atMost (put v ++ rest) most = (v, (put v).length, 0) := by
  unfold atMost
  rw [get_put v rest hv]
  rw [if_neg (by simp), if_neg (by show ¬ most < (v : Int); omega)]
theorem atMost_much (v : Nat) (rest : List (BitVec 8)) (most : Int) (hv : v < 9223372036854775808) (h : most < (v : Int)) : atMost (put v ++ rest) most = (0, 0, 23) := by
  unfold atMost
  rw [get_put v rest hv]
  rw [if_neg (by simp), if_pos (by show most < (v : Int); exact h)]
theorem fixAt_fixed (v n : Nat) (rest : List (BitVec 8)) (h1 : 1 ≤ n) (h8 : n ≤ 8) : fixAt (fixed v n ++ rest) (n : Int) = (v % 256 ^ n, n, 0) := by
  unfold fixAt
  rw [if_neg (by omega), if_neg (by rw [List.length_append, length_fixed]; omega), Int.toNat_natCast]
  have e : (fixed v n ++ rest).take n = fixed v n := by
    have h := List.take_left (l₁ := fixed v n) (l₂ := rest)
    rw [length_fixed] at h
    exact h
  rw [e, word_fixed v n h8]
theorem takeAt_app (bs rest : List (BitVec 8)) : takeAt (bs ++ rest) (bs.length : Int) = (bs.length, 0) := by
  unfold takeAt
  rw [if_neg (by omega), if_neg (by rw [List.length_append]; omega), Int.toNat_natCast]
theorem textAt_app (bs rest : List (BitVec 8)) (h : bs.length < 9223372036854775808) : textAt (put bs.length ++ (bs ++ rest)) (bs.length : Int) = ((put bs.length).length + bs.length, 0, bs) := by
  unfold textAt
  rw [atMost_put bs.length (bs ++ rest) _ h (by omega)]
  rw [if_neg (by simp), if_neg (by simp [List.length_append])]
  show (_, _, ((put bs.length ++ (bs ++ rest)).drop (put bs.length).length).take bs.length) = _
  rw [List.drop_left, List.take_left]
/-- A text as bytes. -/
def txtB (s : ByteArray) : List (BitVec 8) := s.data.toList.map UInt8.toBitVec
theorem str_txt (s : ByteArray) : str ((txtB s)) = s := by
  unfold str txtB
  obtain ⟨⟨l⟩⟩ := s
  have e : (l.map UInt8.toBitVec).map UInt8.ofBitVec = l := by
    induction l with
    | nil => rfl
    | cons x xs ih => rw [List.map_cons, List.map_cons, ih]
  show ByteArray.mk ((l.map UInt8.toBitVec).map UInt8.ofBitVec).toArray = _
  rw [e]
end Go.Proofs.YthdblnfohbldcaaGreat.Curs
