/-
  Join and the document's Join by their answers' letters; what an own slice's block is not.
-/
import Derived.Test.YtmndjgmlndpgaaaDoorFiKept
namespace Go.Proofs.YtmndjgmlndpgaaaDoor.Filt
open Go.ChangeShapes Go.WideShapes Go.ChangeAt Go.RowKit
open Go.Proofs.YtmndjgmlndpgaaaDoor.Base
set_option linter.unusedVariables false
theorem joined_len (a b : Fw) (M : Nat) (h1 : a.data.length ≤ M) (h2 : b.data.length ≤ M) : (joined a b).1.data.length ≤ M := by
  unfold joined
  split
  · simp [zeroF]
  · split
    · simp
    · split
      · exact h2
      · split
        · exact h1
        · split
          · simp [zeroF]
          · simp only [orZip, List.length_zipWith]; omega
theorem fb_ne_own {w : World} {base g : Nat} {v : Value} {xs : List (BitVec 8)} {A : Bool} {H : Int} {u : Value} (hf : FB w g A H u) (h : Own w base v xs) : v.ownBlock ≠ some g := by
  intro e
  rcases h.2 with ⟨h1, _⟩ | ⟨g', c', cur, h1, _, h3, _⟩
  · rw [h1] at e; cases e
  · rw [h1] at e
    have := blk_eq e
    subst this
    rw [hf] at h3
    simp only [Option.some.injEq, Obj.cells.injEq] at h3
    exact absurd h3.2.1 (by decide)
/-- The first bytes of what was handed in with marks. -/
theorem given_rd {w : World} {base g len : Nat} {xs : List (BitVec 8)} (ho : Own w base (.slice (some ⟨g, 0, none⟩) (len + 64) (len + 64)) (xs ++ marks8)) (hl : xs.length = len) (hm : len ≤ 140737488351232) : Rd w (some ⟨g, 0, none⟩) len xs := by
  have h := (ho.cut len (by omega)).rd (by rw [List.length_take, List.length_append, marks8_len, hl]; omega)
  rw [List.take_append_of_le_length (by rw [hl]; exact Nat.le_refl _), List.take_of_length_le (by rw [hl]; exact Nat.le_refl _)] at h
  exact h
/-- A local variable is laid behind a call: what was below is as it was, and there it lies. -/
theorem laid_new {w0 w : World} (hb : Below w0.heap.size w0 w) (A : Bool) (H : Int) (v : Value) : ∃ w' p, w.alloc (.cells #[.bool A, .int .i64 H, v] 24) = w' ∧ w.heap.size = p ∧ Hid (FB w' p A H v) ∧ Hid (Below w.heap.size w w') ∧ Hid (Below w0.heap.size w0 w') := by
  have b1 : Below w.heap.size w (w.alloc (.cells #[.bool A, .int .i64 H, v] 24)) := (Below.refl _ _).alloc (Nat.le_refl _) _
  exact ⟨_, _, rfl, rfl, FB.new _ _ _ _, b1, hb.trans (b1.mono hb.size)⟩
theorem same_below {w0 w w' : World} (h : Below w0.heap.size w0 w) (hb : Below w.heap.size w w') : Below w0.heap.size w0 w' := h.trans (hb.mono h.size)
theorem zb1d {w w' : World} (h : Below ((w.alloc (.cells #[.bool false, .int .i64 0, .slice none 0 0] 24)).drew).heap.size ((w.alloc (.cells #[.bool false, .int .i64 0, .slice none 0 0] 24)).drew) w') : FB w' (w.heap.size) false 0 (.slice none 0 0) := FB.below (w := (w.alloc (.cells #[.bool false, .int .i64 0, .slice none 0 0] 24)).drew) (show FB (w.alloc (.cells #[.bool false, .int .i64 0, .slice none 0 0] 24)) w.heap.size false 0 (.slice none 0 0) from FB.new _ _ _ _) h
theorem zb2ad {w w' : World} (h : Below (((w.alloc (.cells #[.bool false, .int .i64 0, .slice none 0 0] 24)).alloc (.cells #[.bool false, .int .i64 0, .slice none 0 0] 24)).drew).heap.size (((w.alloc (.cells #[.bool false, .int .i64 0, .slice none 0 0] 24)).alloc (.cells #[.bool false, .int .i64 0, .slice none 0 0] 24)).drew) w') : FB w' (w.heap.size) false 0 (.slice none 0 0) := FB.below (w := ((w.alloc (.cells #[.bool false, .int .i64 0, .slice none 0 0] 24)).alloc (.cells #[.bool false, .int .i64 0, .slice none 0 0] 24)).drew) (show FB ((w.alloc (.cells #[.bool false, .int .i64 0, .slice none 0 0] 24)).alloc (.cells #[.bool false, .int .i64 0, .slice none 0 0] 24)) w.heap.size false 0 (.slice none 0 0) from (FB.new w false 0 (.slice none 0 0)).below ((Below.refl _ _).alloc (Nat.le_refl _) _)) h
theorem zb2bd {w w' : World} (h : Below (((w.alloc (.cells #[.bool false, .int .i64 0, .slice none 0 0] 24)).alloc (.cells #[.bool false, .int .i64 0, .slice none 0 0] 24)).drew).heap.size (((w.alloc (.cells #[.bool false, .int .i64 0, .slice none 0 0] 24)).alloc (.cells #[.bool false, .int .i64 0, .slice none 0 0] 24)).drew) w') : FB w' (w.heap.size + 1) false 0 (.slice none 0 0) := FB.below (w := ((w.alloc (.cells #[.bool false, .int .i64 0, .slice none 0 0] 24)).alloc (.cells #[.bool false, .int .i64 0, .slice none 0 0] 24)).drew) (show FB ((w.alloc (.cells #[.bool false, .int .i64 0, .slice none 0 0] 24)).alloc (.cells #[.bool false, .int .i64 0, .slice none 0 0] 24)) (w.heap.size + 1) false 0 (.slice none 0 0) from by have h := FB.new (w.alloc (.cells #[.bool false, .int .i64 0, .slice none 0 0] 24)) false 0 (.slice none 0 0); rw [show (w.alloc (.cells #[.bool false, .int .i64 0, .slice none 0 0] 24)).heap.size = w.heap.size + 1 by simp] at h; exact h) h
theorem zb1 {w w' : World} (h : Below ((w.alloc (.cells #[.bool false, .int .i64 0, .slice none 0 0] 24))).heap.size ((w.alloc (.cells #[.bool false, .int .i64 0, .slice none 0 0] 24))) w') : FB w' (w.heap.size) false 0 (.slice none 0 0) := FB.below (w := (w.alloc (.cells #[.bool false, .int .i64 0, .slice none 0 0] 24))) (show FB (w.alloc (.cells #[.bool false, .int .i64 0, .slice none 0 0] 24)) w.heap.size false 0 (.slice none 0 0) from FB.new _ _ _ _) h
theorem zb2a {w w' : World} (h : Below (((w.alloc (.cells #[.bool false, .int .i64 0, .slice none 0 0] 24)).alloc (.cells #[.bool false, .int .i64 0, .slice none 0 0] 24))).heap.size (((w.alloc (.cells #[.bool false, .int .i64 0, .slice none 0 0] 24)).alloc (.cells #[.bool false, .int .i64 0, .slice none 0 0] 24))) w') : FB w' (w.heap.size) false 0 (.slice none 0 0) := FB.below (w := ((w.alloc (.cells #[.bool false, .int .i64 0, .slice none 0 0] 24)).alloc (.cells #[.bool false, .int .i64 0, .slice none 0 0] 24))) (show FB ((w.alloc (.cells #[.bool false, .int .i64 0, .slice none 0 0] 24)).alloc (.cells #[.bool false, .int .i64 0, .slice none 0 0] 24)) w.heap.size false 0 (.slice none 0 0) from (FB.new w false 0 (.slice none 0 0)).below ((Below.refl _ _).alloc (Nat.le_refl _) _)) h
theorem zb2b {w w' : World} (h : Below (((w.alloc (.cells #[.bool false, .int .i64 0, .slice none 0 0] 24)).alloc (.cells #[.bool false, .int .i64 0, .slice none 0 0] 24))).heap.size (((w.alloc (.cells #[.bool false, .int .i64 0, .slice none 0 0] 24)).alloc (.cells #[.bool false, .int .i64 0, .slice none 0 0] 24))) w') : FB w' (w.heap.size + 1) false 0 (.slice none 0 0) := FB.below (w := ((w.alloc (.cells #[.bool false, .int .i64 0, .slice none 0 0] 24)).alloc (.cells #[.bool false, .int .i64 0, .slice none 0 0] 24))) (show FB ((w.alloc (.cells #[.bool false, .int .i64 0, .slice none 0 0] 24)).alloc (.cells #[.bool false, .int .i64 0, .slice none 0 0] 24)) (w.heap.size + 1) false 0 (.slice none 0 0) from by have h := FB.new (w.alloc (.cells #[.bool false, .int .i64 0, .slice none 0 0] 24)) false 0 (.slice none 0 0); rw [show (w.alloc (.cells #[.bool false, .int .i64 0, .slice none 0 0] 24)).heap.size = w.heap.size + 1 by simp] at h; exact h) h
theorem al1 {w W : World} {o : Obj} (h : Below w.heap.size w W) : Below w.heap.size w (W.alloc o) := h.alloc h.size _
theorem of_al1 {w w' : World} {o : Obj} (h : Below (w.alloc o).heap.size (w.alloc o) w') : Below w.heap.size w w' := by
  have b1 : Below w.heap.size w (w.alloc o) := (Below.refl _ _).alloc (Nat.le_refl _) _
  exact b1.trans (h.mono b1.size)
theorem fb_s_same {Y : World} {p : Nat} {A0 : Bool} {H0 : Int} {v0 : Value} {A : Bool} {H : Int} {v : Value} (h : FB Y p A0 H0 v0) : FB (((Y.setCell ⟨p, 0, none⟩ (.bool A)).setCell ⟨p, 1, none⟩ (.int .i64 H)).setCell ⟨p, 2, none⟩ v) p A H v := h.set3 A H v
theorem fb_s_other {Y : World} {p q : Nat} {A : Bool} {H : Int} {v a b c : Value} (h : FB Y p A H v) (hne : q ≠ p) : FB (((Y.setCell ⟨q, 0, none⟩ a).setCell ⟨q, 1, none⟩ b).setCell ⟨q, 2, none⟩ c) p A H v := h.grown (grown3 Y q a b c) (fun e => hne (Option.some.inj e))
theorem fb_a_old {Y : World} {p : Nat} {A : Bool} {H : Int} {v : Value} {o : Obj} (h : FB Y p A H v) : FB (Y.alloc o) p A H v := h.below ((Below.refl _ _).alloc (Nat.le_refl _) _)
theorem fb_new1 {Y : World} {A : Bool} {H : Int} {v : Value} {o : Obj} : FB ((Y.alloc o).alloc (.cells #[.bool A, .int .i64 H, v] 24)) (Y.heap.size + 1) A H v := by
  have h := FB.new (Y.alloc o) A H v
  rw [show (Y.alloc o).heap.size = Y.heap.size + 1 by simp] at h
  exact h
theorem own_s {Y : World} {base i n c q : Nat} {xs : List (BitVec 8)} {x y z : Value} (h : Own Y base (.slice (some ⟨i, 0, none⟩) n c) xs) (hne : i ≠ q) : Own (((Y.setCell ⟨q, 0, none⟩ x).setCell ⟨q, 1, none⟩ y).setCell ⟨q, 2, none⟩ z) base (.slice (some ⟨i, 0, none⟩) n c) xs := h.other (grown3 Y q x y z) hne
theorem own_a {Y : World} {base : Nat} {v : Value} {xs : List (BitVec 8)} {o : Obj} (h : Own Y base v xs) : Own (Y.alloc o) base v xs := h.below ((Below.refl _ _).alloc (Nat.le_refl _) _)
theorem bel_s {w Y : World} {q : Nat} {x y z : Value} (h : Below w.heap.size w Y) (hq : w.heap.size ≤ q) : Below w.heap.size w (((Y.setCell ⟨q, 0, none⟩ x).setCell ⟨q, 1, none⟩ y).setCell ⟨q, 2, none⟩ z) := below3 h hq x y z
end Go.Proofs.YtmndjgmlndpgaaaDoor.Filt
