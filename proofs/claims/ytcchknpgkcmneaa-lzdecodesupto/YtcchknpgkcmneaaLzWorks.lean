/-
  The statements' own example of a text, and when two lists of bytes are the same.
-/
import Derived.Test.YtcchknpgkcmneaaLzE4
import Derived.Test.YtcchknpgkcmneaaLzC5
import Derived.Test.YtcchknpgkcmneaaLzSame
import Derived.Laws.IdiomStrings
namespace Go.Proofs.Ytcchknpgkcmneaa.Lz
set_option linter.unusedVariables false
open Go.ChangeShapes Go.WideShapes Go.ChangeAt Go.RowKit
open Go.Proofs.Ytcchknpgkcmneaa.Base Go.Proofs.Ytcchknpgkcmneaa.Nums
/-- Bytes as a text. -/
def str (bs : List (BitVec 8)) : ByteArray := ⟨(bs.map UInt8.ofBitVec).toArray⟩
theorem conv_str {w : World} {x : Addr} {n c : Nat} {bs : List (BitVec 8)} (hr : Rd w (some x) n bs) : (convert 22 9 (.slice (some x) n c)).run Try.prog w = .ok (.string (str bs)) w := by
  have h := run_convert_bytes_back (P := Try.prog) w 22 9 5 x c (bs.map UInt8.ofBitVec) Try.underlying22 Try.underlying5 Try.underlying9 (fun j hj => by
    have hj' : j < bs.length := by simpa using hj
    have h1 := hr.cellsAt x rfl j _ (getD_vals bs j hj')
    rw [h1, List.getD_eq_getElem?_getD, List.getElem?_eq_getElem hj']
    simp)
  rw [List.length_map, hr.1] at h
  exact h
/-- What is encoded is decoded. -/
theorem enc_read (x : Txt) (hx : x.length ≤ 65536) : read (bytesOf (ownFrom x 0 0)) 0 x.length = (ownFrom x 0 0, 0) ∧ expand [] (ownFrom x 0 0) = x := by
  obtain ⟨h1, h2⟩ := own_good x hx x.length 0 0 (by omega) (Nat.le_refl _) (Nat.zero_le _)
  exact ⟨read_good _ 0 x.length (Nat.zero_le _) hx h1, h2⟩
theorem enc_dec (x : Txt) (hx : x.length ≤ 65536) : decoded (bytesOf (ownFrom x 0 0)) (x.length : Int) = (x, 0) := by
  obtain ⟨h1, h2⟩ := enc_read x hx
  unfold decoded
  rw [if_neg (by omega), Int.toNat_natCast, h1]
  simp only [if_true, h2]
def x16 : Txt := [97, 98, 99, 100, 97, 98, 99, 100, 97, 98, 99, 100, 97, 98, 99, 100]
theorem best16 : best x16 0 = (0, 0) ∧ best x16 1 = (0, 0) ∧ best x16 2 = (0, 0) ∧ best x16 3 = (0, 0) := by
  refine ⟨?_, ?_, ?_, ?_⟩ <;> decide +kernel
theorem run16 : runFrom x16 0 4 12 4 = 12 := by
  iterate 8 rw [runFrom_go _ _ _ _ _ (by decide) (by decide)]
  exact runFrom_stop _ _ _ _ _ (by decide)
theorem best16' : best x16 4 = (4, 12) := by
  have h0 : best x16 4 = search x16 4 12 4 0 (0, 0) := rfl
  have h1 : search x16 4 12 4 0 (0, 0) = search x16 4 12 1 0 (0, 0) := by
    simp only [search]
    rw [if_neg (by decide), if_neg (by decide), if_neg (by decide), if_neg (by decide), if_neg (by decide), if_neg (by decide)]
  rw [h0, h1]
  simp only [search]
  rw [if_neg (by decide), if_pos (by decide)]
  unfold better
  rw [run16, if_pos ⟨by decide, by unfold pays; rw [put_small _ (by decide)]; decide⟩]
theorem own16 : ownFrom x16 0 0 = [⟨[97, 98, 99, 100], 4, 12⟩] := by
  rw [own_skip _ _ _ (by decide) (by rw [best16.1]; decide), own_skip _ _ _ (by decide) (by rw [best16.2.1]; decide), own_skip _ _ _ (by decide) (by rw [best16.2.2.1]; decide), own_skip _ _ _ (by decide) (by rw [best16.2.2.2]; decide),
    own_match _ _ _ (by decide) (by rw [best16']; decide), best16', own_end _ _ _ (by decide)]
  rfl
theorem len16 : (bytesOf (ownFrom x16 0 0)).length = 7 := by
  rw [own16, bytesOf_cons, putTok_match _ (by decide)]
  simp only
  rw [put_small _ (by decide), put_small _ (by decide), put_small _ (by decide)]
  rfl
set_option maxHeartbeats 1000000 in
set_option maxRecDepth 100000 in
theorem works_any (w : World) : Calls Try.prog 18 #[] w fun e w' => e = .returned (.bool true) ∧ Below w.heap.size w w' := by
  have kc := fun (w : World) (C : Array Value) (n c : Nat) => Lib.run_convert_bytes_const (P := Try.prog) w 22 5 C n c Try.underlying22 Try.underlying5
  go_enter Try.func18, Try.ntmps18
  go_wp2_with fail
  have HB0 : Hid (Below w.heap.size w (w.alloc (.cells (vals x16).toArray 5 (16, 17)))) := (Below.refl _ _).alloc (Nat.le_refl _) _
  refine (encode_any _ 16 16 x16 _ (rd_new w x16 (16, 17) (by decide)) (by decide) (by decide) (by decide) (fun h => by cases h)).mono ?_
  rintro e w1 ⟨v1, rfl, ho1, hb1⟩
  obtain ⟨a1, n1, c1, rfl, HN1⟩ := own_named ho1
  have hn1 : n1 = 7 := by rw [HN1.out, len16]
  subst hn1
  have HB1 := hide (below_trans HB0.out hb1)
  have HO1 := hide ho1
  have hc1 := (Got.cap ho1).1
  have hr1 := ho1.room
  clear hb1 ho1 HB0 kc
  have HD : Hid (decoded (bytesOf (ownFrom x16 0 0)) 16 = (x16, 0)) := enc_dec x16 (by decide)
  go_wp2_with fail
  refine (decode_any a1 7 c1 _ 16 w1 (Got.rd HO1.out (by rw [len16]; decide)) hc1 hr1).mono ?_
  rintro e w2 ⟨v2, rfl, ho2, hb2⟩
  rw [HD.out] at ho2 ⊢
  simp only at ho2 ⊢
  have HB2 := hide (below_trans HB1.out hb2)
  obtain ⟨g2, c2, rfl⟩ : ∃ g c, v2 = .slice (some ⟨g, 0, none⟩) 16 c := own_shape (n := 15) ho2
  have hconv := conv_str (c := c2) (ho2.rd (by decide))
  have hstr : str x16 = ⟨#[97, 98, 99, 100, 97, 98, 99, 100, 97, 98, 99, 100, 97, 98, 99, 100]⟩ := by decide +kernel
  rw [hstr] at hconv
  clear hb2 ho2 HB1 hstr
  go_wp2_with fail
  go_ret
  exact ⟨ret_bool (by first | rfl | decide | decide +kernel), HB2.out⟩
end Go.Proofs.Ytcchknpgkcmneaa.Lz
