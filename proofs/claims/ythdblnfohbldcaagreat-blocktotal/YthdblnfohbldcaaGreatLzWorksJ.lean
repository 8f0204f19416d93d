/-
  The statements' own example of a text, and when two lists of bytes are the same.
-/
import Derived.Test.YthdblnfohbldcaaGreatLzE4J
import Derived.Test.YthdblnfohbldcaaGreatLzC5J
import Derived.Test.YthdblnfohbldcaaGreatBlModJ
import Derived.Laws.IdiomStrings
namespace Go.Proofs.YthdblnfohbldcaaGreat.Lz
set_option linter.unusedVariables false
open Go.ChangeShapes Go.WideShapes Go.ChangeAt Go.RowKit
open Go.Proofs.YthdblnfohbldcaaGreat.Base Go.Proofs.YthdblnfohbldcaaGreat.Nums
/-- Bytes as a text. -/
def str (bs : List (BitVec 8)) : ByteArray := ⟨(bs.map UInt8.ofBitVec).toArray⟩
theorem conv_str {w : World} {x : Addr} {n c : Nat} {bs : List (BitVec 8)} (hr : Rd w (some x) n bs) : (convert 24 9 (.slice (some x) n c)).run Tryz.prog w = .ok (.string (str bs)) w := by
  have h := run_convert_bytes_back (P := Tryz.prog) w 24 9 5 x c (bs.map UInt8.ofBitVec) Tryz.underlying24 Tryz.underlying5 Tryz.underlying9 (fun j hj => by
    have hj' : j < bs.length := by simpa using hj
    have h1 := hr.cellsAt x rfl j _ (getD_vals bs j hj')
    rw [h1, List.getD_eq_getElem?_getD, List.getElem?_eq_getElem hj']
    simp)
  rw [List.length_map, hr.1] at h
  exact h
/-- What is encoded is decoded. -/
theorem enc_read (x : Txt) (hx : x.length ≤ 65536) : read (bytesOf (ownFrom x 0 0)) 0 x.length = (ownFrom x 0 0, 0) ∧ expand [] (ownFrom x 0 0) = x := by
  obtain ⟨h1, h2⟩ := own_good x hx x.length 0 0 (by omega) (Nat.le_refl _) (Nat.zero_le _)
  exact ⟨read_good _ 0 x.length (Nat.zero_le _) hx h1, h2⟩
theorem enc_dec (x : Txt) (hx : x.length ≤ 65536) : decoded (bytesOf (ownFrom x 0 0)) (x.length : Int) = (x, 0) := by
  obtain ⟨h1, h2⟩ := enc_read x hx
  unfold decoded
  rw [if_neg (by omega), Int.toNat_natCast, h1]
  simp only [if_true, h2]
def x16 : Txt := [97, 98, 99, 100, 97, 98, 99, 100, 97, 98, 99, 100, 97, 98, 99, 100]
theorem best16 : best x16 0 = (0, 0) ∧ best x16 1 = (0, 0) ∧ best x16 2 = (0, 0) ∧ best x16 3 = (0, 0) := by
  refine ⟨?_, ?_, ?_, ?_⟩ <;> decide +kernel
theorem run16 : runFrom x16 0 4 12 4 = 12 := by
  iterate 8 rw [runFrom_go _ _ _ _ _ (by decide) (by decide)]
  exact runFrom_stop _ _ _ _ _ (by decide)
theorem best16' : best x16 4 = (4, 12) := by
  have h0 : best x16 4 = search x16 4 12 4 0 (0, 0) := rfl
  have h1 : search x16 4 12 4 0 (0, 0) = search x16 4 12 1 0 (0, 0) := by
    simp only [search]
    rw [if_neg (by decide), if_neg (by decide), if_neg (by decide), if_neg (by decide), if_neg (by decide), if_neg (by decide)]
  rw [h0, h1]
  simp only [search]
  rw [if_neg (by decide), if_pos (by decide)]
  unfold better
  rw [run16, if_pos ⟨by decide, by unfold pays; rw [put_small _ (by decide)]; decide⟩]
theorem own16 : ownFrom x16 0 0 = [⟨[97, 98, 99, 100], 4, 12⟩] := by
  rw [own_skip _ _ _ (by decide) (by rw [best16.1]; decide), own_skip _ _ _ (by decide) (by rw [best16.2.1]; decide), own_skip _ _ _ (by decide) (by rw [best16.2.2.1]; decide), own_skip _ _ _ (by decide) (by rw [best16.2.2.2]; decide),
    own_match _ _ _ (by decide) (by rw [best16']; decide), best16', own_end _ _ _ (by decide)]
  rfl
theorem len16 : (bytesOf (ownFrom x16 0 0)).length = 7 := by
  rw [own16, bytesOf_cons, putTok_match _ (by decide)]
  simp only
  rw [put_small _ (by decide), put_small _ (by decide), put_small _ (by decide)]
  rfl
end Go.Proofs.YthdblnfohbldcaaGreat.Lz
