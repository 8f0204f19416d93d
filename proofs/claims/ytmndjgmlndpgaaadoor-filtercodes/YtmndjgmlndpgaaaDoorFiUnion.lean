/-
  union: the bits of two filters.
-/
import Derived.Test.YtmndjgmlndpgaaaDoorFiClone
import Derived.Laws.BitsAllLaws
namespace Go.Proofs.YtmndjgmlndpgaaaDoor.Filt
open Go.ChangeShapes Go.WideShapes Go.ChangeAt Go.RowKit
open Go.Proofs.YtmndjgmlndpgaaaDoor.Base
set_option linter.unusedVariables false
theorem trio (A : Bool) (H : Int) (va : Value) (B : Bool) (G : Int) (vb : Value) (w : World) : ∃ w0 u0 w1 ga gb r, w.alloc (.cells #[.bool A, .int .i64 H, va] 24) = w0 ∧ w0.alloc (.cells #[.bool B, .int .i64 G, vb] 24) = u0 ∧ u0.alloc (.cells #[.bool false, .int .i64 0, .slice none 0 0] 24) = w1 ∧
    w.heap.size = ga ∧ w0.heap.size = gb ∧ u0.heap.size = r ∧ Hid (ga < gb ∧ gb < r) ∧ Hid (FB w1 ga A H va) ∧ Hid (FB w1 gb B G vb) ∧ Hid (FB w1 r false 0 (.slice none 0 0)) ∧ Hid (Below w.heap.size w w1) := by
  obtain ⟨w0, e0⟩ : ∃ w0, w.alloc (.cells #[.bool A, .int .i64 H, va] 24) = w0 := ⟨_, rfl⟩
  obtain ⟨u0, e1⟩ : ∃ u0, w0.alloc (.cells #[.bool B, .int .i64 G, vb] 24) = u0 := ⟨_, rfl⟩
  obtain ⟨w1, e2⟩ : ∃ w1, u0.alloc (.cells #[.bool false, .int .i64 0, .slice none 0 0] 24) = w1 := ⟨_, rfl⟩
  have b0 : Below w.heap.size w w0 := by rw [← e0]; exact (Below.refl _ _).alloc (Nat.le_refl _) _
  have b1 : Below w0.heap.size w0 u0 := by rw [← e1]; exact (Below.refl _ _).alloc (Nat.le_refl _) _
  have b2 : Below u0.heap.size u0 w1 := by rw [← e2]; exact (Below.refl _ _).alloc (Nat.le_refl _) _
  have F0 : FB w0 w.heap.size A H va := by rw [← e0]; exact FB.new _ _ _ _
  have F1 : FB u0 w0.heap.size B G vb := by rw [← e1]; exact FB.new _ _ _ _
  have F2 : FB w1 u0.heap.size false 0 (.slice none 0 0) := by rw [← e2]; exact FB.new _ _ _ _
  have F01 := F0.below b1
  exact ⟨w0, u0, w1, _, _, _, e0, e1, e2, rfl, rfl, rfl, ⟨F0.lt, F1.lt⟩, F01.below b2, F1.below b2, F2, (b0.trans (b1.mono b0.size)).trans (b2.mono (Nat.le_trans b0.size b1.size))⟩
/-- The bits of both. -/
def orZip (xs ys : List (BitVec 8)) : List (BitVec 8) := List.zipWith (fun x y => x ||| y) xs ys
def orTo (xs ys : List (BitVec 8)) (k : Nat) : List (BitVec 8) := orZip (xs.take k) (ys.take k) ++ xs.drop k
theorem orZip_len (xs ys : List (BitVec 8)) (h : xs.length = ys.length) : (orZip xs ys).length = xs.length := by simp [orZip]; omega
theorem orTo_zero (xs ys : List (BitVec 8)) : orTo xs ys 0 = xs := by simp [orTo, orZip]
theorem orTo_all (xs ys : List (BitVec 8)) (h : xs.length = ys.length) : orTo xs ys xs.length = orZip xs ys := by
  unfold orTo
  rw [List.take_of_length_le (Nat.le_refl _), List.take_of_length_le (by omega), List.drop_of_length_le (Nat.le_refl _), List.append_nil]
theorem orTo_len (xs ys : List (BitVec 8)) (h : xs.length = ys.length) (k : Nat) (hk : k ≤ xs.length) : (orTo xs ys k).length = xs.length := by
  simp [orTo, orZip]; omega
theorem orTo_get (xs ys : List (BitVec 8)) (h : xs.length = ys.length) (k : Nat) (hk : k < xs.length) : (orTo xs ys k).getD k 0 = xs.getD k 0 := by
  have hl : (orZip (xs.take k) (ys.take k)).length = k := by simp [orZip]; omega
  unfold orTo
  rw [List.getD_eq_getElem?_getD, List.getElem?_append_right (by omega), hl, Nat.sub_self, List.getElem?_drop, Nat.add_zero, ← List.getD_eq_getElem?_getD]
theorem orTo_next (xs ys : List (BitVec 8)) (h : xs.length = ys.length) (k : Nat) (hk : k < xs.length) : (orTo xs ys k).set k (xs.getD k 0 ||| ys.getD k 0) = orTo xs ys (k + 1) := by
  have hl : (orZip (xs.take k) (ys.take k)).length = k := by simp [orZip]; omega
  unfold orTo
  rw [List.set_append_right _ _ (by omega), hl, Nat.sub_self, List.drop_eq_getElem_cons hk, List.set_cons_zero, getD_take xs k hk, getD_take ys k (by omega)]
  unfold orZip
  rw [List.zipWith_append (by simp; omega)]
  simp
theorem or8 (x y : BitVec 8) : bits .or .u8 (x.toNat : Int) (y.toNat : Int) = ((x ||| y).toNat : Int) := by
  rw [u8_or_nat _ _ (lt8 x) (lt8 y), BitVec.toNat_or]
theorem own_some {w : World} {base n c : Nat} {a : Option Addr} {bs : List (BitVec 8)} (h : Own w base (.slice a n c) bs) (hn : 0 < n) : ∃ g, a = some ⟨g, 0, none⟩ := by
  rcases h.2 with ⟨h1, h2⟩ | ⟨g, c', cur, h1, _⟩
  · simp only [Value.slice.injEq] at h1; omega
  · simp only [Value.slice.injEq] at h1; exact ⟨g, h1.1⟩
end Go.Proofs.YtmndjgmlndpgaaaDoor.Filt
