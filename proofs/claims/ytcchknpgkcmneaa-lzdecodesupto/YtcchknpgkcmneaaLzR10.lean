/-
  The document's own answer: the number that stands at a place of bytes.
-/
import Derived.Test.YtcchknpgkcmneaaLzC3
import Derived.Test.YtcchknpgkcmneaaNumsRefG
namespace Go.Proofs.Ytcchknpgkcmneaa.Lz
open Go.ChangeShapes Go.WideShapes Go.ChangeAt Go.RowKit
open Go.Proofs.Ytcchknpgkcmneaa.Base Go.Proofs.Ytcchknpgkcmneaa.Nums
set_option linter.unusedVariables false
def refNum (bs : List (BitVec 8)) (p : Nat) : Int × Nat := if (get (bs.drop p)).2.2 ≠ 0 ∨ 65536 < (get (bs.drop p)).1 then (-1, p) else ((get (bs.drop p)).1, p + (get (bs.drop p)).2.1)
theorem rd_behind {w : World} {b off len p : Nat} {la : Addr} {bs : List (BitVec 8)} (hr : Rd w (some ⟨b, off, none⟩) len bs) (h : p ≤ len) (hl : p < len → la = ⟨b, off + p, none⟩) : Rd w (some la) (len - p) (bs.drop p) := by
  have := rd_sub (la := la) hr (p := p) (c := len - p) (by omega) (fun h => hl (by omega))
  rwa [List.take_of_length_le (by rw [List.length_drop, hr.1]; exact Nat.le_refl _)] at this
theorem ret_num {t : Int × Nat} {x : Int} {y : Nat} {a b : Int} (h : t = (x, y)) (ha : a = x) (hb : b = (y : Int)) :
    Ending.returned (.tuple #[.int .i64 a, .int .i64 b]) = .returned (.tuple #[.int .i64 t.1, .int .i64 (t.2 : Nat)]) := by
  subst h ha hb; rfl
set_option maxHeartbeats 1000000 in
set_option maxRecDepth 100000 in
theorem refNumber_some (b off len cap p : Nat) (bs : List (BitVec 8)) (w : World) (hr : Rd w (some ⟨b, off, none⟩) len bs) (hcap : len ≤ cap) (hm : cap ≤ 9223372036854775807) (hp : p ≤ len) (hg : (get (bs.drop p)).2.1 ≤ 9) :
    Calls Try.prog 68 #[.slice (some ⟨b, off, none⟩) len cap, .int .i64 (p : Int)] w fun e w' => e = .returned (.tuple #[.int .i64 (refNum bs p).1, .int .i64 ((refNum bs p).2 : Nat)]) ∧ Below w.heap.size w w' := by
  obtain ⟨la, hsl, hla, _, _⟩ := slice_l b off len cap p hp hcap
  have HC := hide (refGet_any (some la) (len - p) (cap - p) (bs.drop p) w (rd_behind hr hp hla))
  have HD : Hid (refNum bs p = if (get (bs.drop p)).2.2 ≠ 0 ∨ 65536 < (get (bs.drop p)).1 then ((-1 : Int), p) else (((get (bs.drop p)).1 : Int), p + (get (bs.drop p)).2.1)) := rfl
  have hl2 := hr.2.1
  have hpi : (p : Int) ≤ 140737488355328 := by omega
  obtain ⟨n2, hn2⟩ : ∃ n2, len - p = n2 := ⟨_, rfl⟩
  obtain ⟨c2, hc2⟩ : ∃ c2, cap - p = c2 := ⟨_, rfl⟩
  rw [hn2, hc2] at hsl HC
  generalize get (bs.drop p) = G at HD HC hg
  obtain ⟨gv, gn, ge⟩ := G
  simp only at HD HC hg
  clear hr hla hn2 hc2
  go_enter Try.func68, Try.ntmps68
  go_wp2_with fail
  refine HC.out.mono ?_
  rintro e w1 ⟨rfl, hb⟩
  have HB := hide hb
  clear hb HC hsl
  by_cases he : ge = 0
  · subst he
    by_cases hv : 65536 < gv
    · have HE : Hid (refNum bs p = (-1, p)) := by
        have := HD.out; rw [if_pos (.inr hv)] at this; exact this
      have hvi : (65536 : Int) < (gv : Int) := by omega
      go_wp2_with fail
      go_ret2
      exact ⟨ret_num HE.out rfl rfl, HB.out⟩
    · have HE : Hid (refNum bs p = ((gv : Int), p + gn)) := by
        have := HD.out; rw [if_neg (by omega)] at this; exact this
      have hvi : ¬ (65536 : Int) < (gv : Int) := by omega
      have hgi : (gn : Int) ≤ 9 := by omega
      go_wp2_with fail
      go_ret2
      exact ⟨ret_num HE.out rfl (by first | rfl | omega), HB.out⟩
  · have HE : Hid (refNum bs p = (-1, p)) := by
      have := HD.out; rw [if_pos (.inl he)] at this; exact this
    have hb : ((ge : Int) != 0) = true := by rw [bne_iff_ne]; omega
    go_wp2_with fail
    go_ret2
    exact ⟨ret_num HE.out rfl rfl, HB.out⟩
end Go.Proofs.Ytcchknpgkcmneaa.Lz
