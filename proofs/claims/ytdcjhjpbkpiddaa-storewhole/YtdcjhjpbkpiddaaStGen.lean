/-
  A blob in whatever state: whether it is closed, publishing, a stop, more bytes.
-/
import Derived.Test.YtdcjhjpbkpiddaaStHead
namespace Go.Proofs.Ytdcjhjpbkpiddaa.St
open Go.ChangeShapes Go.WideShapes Go.ChangeAt Go.RowKit Go.MuLone
open Go.Proofs.Ytdcjhjpbkpiddaa.Base
set_option linter.unusedVariables false
set_option maxHeartbeats 1000000
/-- Why nothing more is done with a blob; 0: it is open. -/
def closedOf (st : Int) (sd : Bool) : Int := if st = 2 then 54 else if sd = true then 55 else 0
theorem closed_any (b : Nat) (v : Value) (st sp : Int) (sd : Bool) (w : World) (h : BAt w b v st sp sd) :
    Calls Try.prog 38 #[.pointer (some ⟨b, 0, none⟩)] w fun e w' => e = .returned (.int .i64 (closedOf st sd)) ∧ w' = w := by
  obtain ⟨c0, c1, c2, c3⟩ := h.cells
  clear h
  by_cases h2 : st = 2
  · subst h2
    have e : closedOf 2 sd = 54 := rfl
    rw [e]
    go_enter Try.func38, Try.ntmps38
    go_wp2_with fail
    go_ret
    exact ⟨rfl, rfl⟩
  · have hb : (st == 2) = false := by rw [beq_eq_false_iff_ne]; exact h2
    cases sd with
    | true =>
      have e : closedOf st true = 55 := by unfold closedOf; rw [if_neg h2]; rfl
      rw [e]
      go_enter Try.func38, Try.ntmps38
      go_wp2_with fail
      go_ret
      exact ⟨rfl, rfl⟩
    | false =>
      have e : closedOf st false = 0 := by unfold closedOf; rw [if_neg h2]; rfl
      rw [e]
      go_enter Try.func38, Try.ntmps38
      go_wp2_with fail
      go_ret
      exact ⟨rfl, rfl⟩
theorem publish_closed (b : Nat) (v : Value) (st sp : Int) (sd : Bool) (w : World) (h : BAt w b v st sp sd) (hc : closedOf st sd ≠ 0) :
    Calls Try.prog 26 #[.pointer (some ⟨b, 0, none⟩)] w fun e w' => e = .returned (.int .i64 (closedOf st sd)) ∧ w' = w := by
  have HC := hide (closed_any b v st sp sd w h)
  obtain ⟨r, hr⟩ : ∃ r, closedOf st sd = r := ⟨_, rfl⟩
  rw [hr] at HC hc ⊢
  have hq : (r != 0) = true := by rw [bne_iff_ne]; exact hc
  clear h hr hc
  go_enter Try.func26, Try.ntmps26
  go_wp2_with (go_at_call 38; refine HC.out.mono ?_; rintro e w' ⟨rfl, rfl⟩)
  go_ret
  exact ⟨rfl, rfl⟩
theorem publish_stop (b : Nat) (v : Value) (sp : Int) (w : World) (h : BAt w b v 1 sp false) (hs : sp ≠ -1) :
    Calls Try.prog 26 #[.pointer (some ⟨b, 0, none⟩)] w fun e w' => e = .returned (.int .i64 55) ∧ w' = w.setCell ⟨b, 3, none⟩ (.bool true) := by
  obtain ⟨c0, c1, c2, c3⟩ := h.cells
  have HC := hide (closed_open b _ sp w h)
  have f3 := h.frozen 3
  have hq : (sp != -1) = true := by rw [bne_iff_ne]; exact hs
  clear h hs
  go_enter Try.func26, Try.ntmps26
  go_wp2_with (go_at_call 38; refine HC.out.mono ?_; rintro e w' ⟨rfl, rfl⟩)
  go_ret
  exact ⟨rfl, rfl⟩
theorem stopAt_closed (b : Nat) (v : Value) (st sp : Int) (sd : Bool) (n : Int) (w : World) (h : BAt w b v st sp sd) (hc : closedOf st sd ≠ 0) :
    Calls Try.prog 23 #[.pointer (some ⟨b, 0, none⟩), .int .i64 n] w fun e w' => e = .returned (.int .i64 (closedOf st sd)) ∧ w' = w := by
  have HC := hide (closed_any b v st sp sd w h)
  obtain ⟨r, hr⟩ : ∃ r, closedOf st sd = r := ⟨_, rfl⟩
  rw [hr] at HC hc ⊢
  have hq : (r != 0) = true := by rw [bne_iff_ne]; exact hc
  clear h hr hc
  go_enter Try.func23, Try.ntmps23
  go_wp2_with (go_at_call 38; refine HC.out.mono ?_; rintro e w' ⟨rfl, rfl⟩)
  go_ret
  exact ⟨rfl, rfl⟩
theorem stopAt_open (b : Nat) (v : Value) (sp n m : Int) (w : World) (h : BAt w b v 1 sp false) (hm : m = max n 0) :
    Calls Try.prog 23 #[.pointer (some ⟨b, 0, none⟩), .int .i64 n] w fun e w' => e = .returned (.int .i64 0) ∧ BAt w' b v 1 m false ∧ w.grownBy w' (some b) := by
  obtain ⟨c0, c1, c2, c3⟩ := h.cells
  have HC := hide (closed_open b _ sp w h)
  have f2 := h.frozen 2
  have HF : Hid (BAt (w.setCell ⟨b, 2, none⟩ (.int .i64 m)) b v 1 m false) := by show BAt _ _ _ _ _ _; unfold BAt; rw [heap_setCell_same _ _ _ _ _ _ h]; rfl
  clear h
  by_cases hn : n < 0
  · have e : m = 0 := by omega
    subst e
    have h1 : max n 0 = 0 := by omega
    have h2 : (if n ≤ 0 then (0 : Int) else n) = 0 := by rw [if_pos (by omega)]
    clear hm
    go_enter Try.func23, Try.ntmps23
    go_wp2_with (go_at_call 38; refine HC.out.mono ?_; rintro e w' ⟨rfl, rfl⟩)
    go_ret
    exact ⟨rfl, HF.out, grown_cell (World.grownBy.refl _ _) _ _⟩
  · have e : m = n := by omega
    subst e
    have h1 : max m 0 = m := by omega
    clear hm
    go_enter Try.func23, Try.ntmps23
    go_wp2_with (go_at_call 38; refine HC.out.mono ?_; rintro e w' ⟨rfl, rfl⟩)
    go_ret
    exact ⟨rfl, HF.out, grown_cell (World.grownBy.refl _ _) _ _⟩
end Go.Proofs.Ytdcjhjpbkpiddaa.St
