/-
  The walk of the statement StoreNone.
-/
import Derived.Test.YtndodbfhigejfacSnTold3
namespace Go.Proofs.Ytndodbfhigejfac.Sn
open Go.ChangeShapes Go.WideShapes Go.ChangeAt Go.RowKit
open Go.Proofs.Ytndodbfhigejfac.Base
set_option linter.unusedVariables false
theorem told_any (g base : Nat) (op : Int) (nm : ByteArray) (n k : Int) (a : Option Addr) (len cap : Nat) (bs : List (BitVec 8)) (m : Int) (w : World) (hk : KW w g base (.slice none 0 0) (.slice none 0 0) (.slice none 0 0) (.slice none 0 0)) (hr : Rd w a len bs) (hl : len ≤ 140737488351232) :
    Calls Try.prog 17 #[.pointer (some ⟨g, 0, none⟩), .agg #[.int .i64 op, .string nm, .int .i64 n, .int .i64 k, .slice a len cap, .int .u32 m]] w fun e w' => e = .returned (.bool true) ∧ Left w g w' := by
  by_cases h : op < 0 ∨ 10 < op
  · exact toldx g base op nm n k a len cap bs m w hk hr hl h
  obtain ⟨o, rfl⟩ : ∃ o : Nat, op = (o : Int) := ⟨op.toNat, by omega⟩
  have ho : o ≤ 10 := by omega
  match o, ho with
  | 0, _ => exact told0 g base nm n k a len cap bs m w hk hr hl
  | 1, _ => exact told1 g base nm n k a len cap bs m w hk hr hl
  | 2, _ => exact told2 g base nm n k a len cap bs m w hk hr hl
  | 3, _ => exact told3 g base nm n k a len cap bs m w hk hr hl
  | 4, _ => exact told4 g base nm n k a len cap bs m w hk hr hl
  | 5, _ => exact told5 g base nm n k a len cap bs m w hk hr hl
  | 6, _ => exact told6 g base nm n k a len cap bs m w hk hr hl
  | 7, _ => exact told7 g base nm n k a len cap bs m w hk hr hl
  | 8, _ => exact told8 g base nm n k a len cap bs m w hk hr hl
  | 9, _ =>
    by_cases h1 : 1000000 < n
    · by_cases h2 : n < 536870912
      · exact told9a g base nm n k a len cap bs m w hk hr hl h1 h2
      · exact told9c g base nm n k a len cap bs m w hk hr hl h1 h2
    · exact told9b g base nm n k a len cap bs m w hk hr hl h1
  | 10, _ => exact told10 g base nm n k a len cap bs m w hk hr hl
set_option maxHeartbeats 2000000 in
set_option maxRecDepth 100000 in
theorem walk (op : Int) (nm : ByteArray) (n k : Int) (a : Option Addr) (len cap : Nat) (bs : List (BitVec 8)) (m : Int) (w : World) (hr : Rd w a len bs) (hl : len ≤ 140737488351232) :
    Calls Try.prog 4 #[.agg #[.int .i64 op, .string nm, .int .i64 n, .int .i64 k, .slice a len cap, .int .u32 m]] w fun e w' => e = .returned (.bool true) ∧ Below w.heap.size w w' := by
  have HR := hide hr
  clear hr
  obtain ⟨w1, hw1⟩ : ∃ w1, w.alloc (.cells #[.int .i64 op, .string nm, .int .i64 n, .int .i64 k, .slice a len cap, .int .u32 m] 49) = w1 := ⟨_, rfl⟩
  have HSB1 : Hid (SB w1 w.heap.size op nm n k (.slice a len cap) m) := by rw [← hw1]; exact heap_alloc_new _ _
  have HB1 : Hid (Below w.heap.size w w1) := by rw [← hw1]; exact (Below.refl _ _).alloc (Nat.le_refl _) _
  obtain ⟨w2, hw2⟩ : ∃ w2, w1.alloc (.cells #[.pointer none, .pointer none, .slice none 0 0, .slice none 0 0, .slice none 0 0, .slice none 0 0] 55) = w2 := ⟨_, rfl⟩
  have HB2 : Hid (Below w1.heap.size w1 w2) := by rw [← hw2]; exact (Below.refl _ _).alloc (Nat.le_refl _) _
  have HS2 : Hid (w2.heap.size = w1.heap.size + 1) := by show _ = _; rw [← hw2]; simp
  have HK2 : Hid (KW w2 w1.heap.size (w1.heap.size + 1) (.slice none 0 0) (.slice none 0 0) (.slice none 0 0) (.slice none 0 0)) := ⟨by rw [← hw2]; exact heap_alloc_new _ _, by omega, by rw [HS2.out]; omega⟩
  have HSB2 := hide (HSB1.out.below HB2.out)
  obtain ⟨q0, q1, q2, q3, q4, q5⟩ := HSB2.out.cells
  have HBB := hide (below_trans HB1.out HB2.out)
  have HT := hide (told_any w1.heap.size (w1.heap.size + 1) op nm n k a len cap bs m w2 HK2.out (HR.out.below HBB.out) hl)
  have HS1 : Hid (w.heap.size ≤ w1.heap.size) := HB1.out.size
  go_enter Try.func4, Try.ntmps4
  go_wp2_with fail
  refine HT.out.mono ?_
  rintro e w3 ⟨rfl, k0, k1, k2⟩
  have HB3 : Hid (Below w.heap.size w w3) := HBB.out.trans (k2.mono HS1.out)
  have HK1 := hide k1
  clear k1 k2
  go_wp2_with (first
    | (go_at_call 16; refine (list_nil _ _).mono ?_; rintro e w4 ⟨rfl, rfl⟩)
    | (go_at_call 18; refine (meter_nil _).mono ?_; rintro e w5 ⟨rfl, hb5⟩; have HB5 := hide hb5; clear hb5))
  go_ret
  exact ⟨rfl, below_trans HB3.out HB5.out⟩
end Go.Proofs.Ytndodbfhigejfac.Sn
