/-
  The statements' helpers: whether bytes, and the marks behind them, stand as they did.
-/
import Derived.Test.YtcchknpgkcmneaaLzK1
import Derived.Test.YtcchknpgkcmneaaLzSame
import Derived.Test.YtcchknpgkcmneaaLzC6
namespace Go.Proofs.Ytcchknpgkcmneaa.Lz
open Go.ChangeShapes Go.WideShapes Go.ChangeAt Go.RowKit
open Go.Proofs.Ytcchknpgkcmneaa.Base Go.Proofs.Ytcchknpgkcmneaa.Nums
set_option linter.unusedVariables false
theorem rd_mark {w : World} {b off len : Nat} {bs : List (BitVec 8)} (h : Rd w (some ⟨b, off, none⟩) (len + 4) (bs ++ marks)) (k : Nat) (hk : k < 4) : w.cell? ⟨b, off + (len + k), none⟩ = some (.int .u8 ((marks.getD k 0).toNat : Int)) := by
  obtain ⟨b', off', e, _, hc⟩ := h.2.2 (by omega)
  cases e
  have hl : bs.length = len := by have := h.1; rw [List.length_append] at this; have h2 : marks.length = 4 := rfl; omega
  rw [hc (len + k) (by omega), List.getD_eq_getElem?_getD, List.getElem?_append_right (by omega), show len + k - bs.length = k by omega, ← List.getD_eq_getElem?_getD]
theorem rd_front {w : World} {a : Option Addr} {len : Nat} {bs : List (BitVec 8)} (h : Rd w a (len + 4) (bs ++ marks)) : Rd w a len bs := by
  have hl : bs.length = len := by have := h.1; rw [List.length_append] at this; have h2 : marks.length = 4 := rfl; omega
  have := h.cut len (by omega)
  rw [List.take_append_of_le_length (by omega), List.take_of_length_le (by omega)] at this
  exact this
set_option maxHeartbeats 1000000 in
set_option maxRecDepth 100000 in
theorem kept_any (g off len c : Nat) (a : Option Addr) (cap : Nat) (bs : List (BitVec 8)) (w : World) (hx : Rd w (some ⟨g, off, none⟩) (len + 4) (bs ++ marks)) (hc : len + 4 ≤ c) (hr : Rd w a len bs) (hl : len ≤ 140737488351232) :
    Calls Try.prog 32 #[.slice (some ⟨g, off, none⟩) len c, .slice a len cap] w fun e w' => e = .returned (.bool true) ∧ Below w.heap.size w w' := by
  have HS := hide (sameBytes_eq (some ⟨g, off, none⟩) a len c len cap bs w (rd_front hx) hr)
  have HX := hide hx
  have hli : (len : Int) ≤ 140737488351232 := by omega
  have hci : (len : Int) + 4 ≤ (c : Int) := by omega
  clear hx hr
  go_enter Try.func32, Try.ntmps32
  go_wp2_with fail
  refine HS.out.mono ?_
  rintro e w1 ⟨rfl, hb⟩
  have HB := hide hb
  have m0 := rd_mark (HX.out.below hb) 0 (by omega)
  have m1 := rd_mark (HX.out.below hb) 1 (by omega)
  have m2 := rd_mark (HX.out.below hb) 2 (by omega)
  have m3 := rd_mark (HX.out.below hb) 3 (by omega)
  have e0 : (((marks.getD 0 0).toNat : Nat) : Int) = 165 := by decide
  have e1 : (((marks.getD 1 0).toNat : Nat) : Int) = 90 := by decide
  have e2 : (((marks.getD 2 0).toNat : Nat) : Int) = 167 := by decide
  have e3 : (((marks.getD 3 0).toNat : Nat) : Int) = 91 := by decide
  rw [e0, Nat.add_zero] at m0
  rw [e1] at m1
  rw [e2] at m2
  rw [e3] at m3
  clear e0 e1 e2 e3 hb HS
  go_wp2_with fail
  go_ret
  exact ⟨by first | rfl | trivial, HB.out⟩
end Go.Proofs.Ytcchknpgkcmneaa.Lz
