/-
  The program's cursor: Text.
-/
import Derived.Test.YthdblnfohbldcaaGreatNumsCur2
import Derived.Laws.IdiomStrings
namespace Go.Proofs.YthdblnfohbldcaaGreat.Curs
open Go.ChangeShapes Go.WideShapes Go.ChangeAt Go.RowKit
open Go.Proofs.YthdblnfohbldcaaGreat.Base Go.Proofs.YthdblnfohbldcaaGreat.Nums
set_option linter.unusedVariables false
/-- Bytes as a text. -/
def str (bs : List (BitVec 8)) : ByteArray := ⟨(bs.map UInt8.ofBitVec).toArray⟩
/-- A text at the head: how many bytes are taken, the error, the text's bytes. -/
def textAt (L : List (BitVec 8)) (most : Int) : Nat × Nat × List (BitVec 8) :=
  if (atMost L most).2.2 ≠ 0 then (0, (atMost L most).2.2, []) else if L.length - (atMost L most).2.1 < (atMost L most).1 then (0, 20, []) else ((atMost L most).2.1 + (atMost L most).1, 0, (L.drop (atMost L most).2.1).take (atMost L most).1)
theorem conv_str {w : World} {x : Addr} {n c : Nat} {bs : List (BitVec 8)} (hr : Rd w (some x) n bs) : (convert 24 9 (.slice (some x) n c)).run Tryz.prog w = .ok (.string (str bs)) w := by
  have h := run_convert_bytes_back (P := Tryz.prog) w 24 9 5 x c (bs.map UInt8.ofBitVec) Tryz.underlying24 Tryz.underlying5 Tryz.underlying9 (fun j hj => by
    have hj' : j < bs.length := by simpa using hj
    have h1 := hr.cellsAt x rfl j _ (getD_vals bs j hj')
    rw [h1, List.getD_eq_getElem?_getD, List.getElem?_eq_getElem hj']
    simp)
  rw [List.length_map, hr.1] at h
  exact h
theorem add_at {x : Addr} (h : x.spot = none) (n : Nat) : x.add n = ⟨x.block, x.off + n, none⟩ := by
  obtain ⟨b, off, sp⟩ := x
  simp only at h
  subst h
  unfold Addr.add
  split
  · rename_i h; have h0 : n = 0 := by simpa using h
    subst h0; rfl
  · rfl
theorem rd_part {w : World} {x : Addr} {n gn gv : Nat} {L : List (BitVec 8)} (h : Rd w (some x) n L) (hs : x.spot = none) (hsum : gn + gv ≤ n) : Rd w (some (x.add gn)) gv ((L.drop gn).take gv) := by
  rw [add_at hs]
  obtain ⟨b, off, sp⟩ := x
  simp only at hs
  subst hs
  exact (h.from gn (by omega)).cut gv (by omega)
theorem atMost_ok (L : List (BitVec 8)) (most : Int) (h : (atMost L most).2.2 = 0) : (atMost L most).1 ≤ 9223372036854775807 ∧ (atMost L most).2.1 ≤ L.length := by
  refine ⟨?_, atMost_len L most⟩
  unfold atMost
  split
  · simp
  · split
    · simp
    · exact get_fst L
theorem textAt_len (L : List (BitVec 8)) (most : Int) : (textAt L most).1 ≤ L.length := by
  have := atMost_len L most
  unfold textAt
  split
  · simp
  · split
    · simp
    · show _ + _ ≤ _; omega
end Go.Proofs.YthdblnfohbldcaaGreat.Curs
