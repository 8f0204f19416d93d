/-
  One step on nil stores: both answer the same (the rest of the steps).
-/
import Derived.Test.YtndodbfhigejfacSnTold
namespace Go.Proofs.Ytndodbfhigejfac.Sn
open Go.ChangeShapes Go.WideShapes Go.ChangeAt Go.RowKit
open Go.Proofs.Ytndodbfhigejfac.Base
set_option linter.unusedVariables false
theorem SB.set2 {w : World} {x : Nat} {op : Int} {nm : ByteArray} {n k : Int} {d : Value} {m : Int} (h : SB w x op nm n k d m) (n' : Int) : SB (w.setCell ⟨x, 2, none⟩ (.int .i64 n')) x op nm n' k d m := by
  unfold SB
  rw [heap_setCell_same _ _ _ _ _ _ h]; rfl
theorem two_nil (w : World) (base : Nat) (T : TypeId) : Two w base T (.slice none 0 0) (.slice none 0 0) 0 := ⟨⟨_, rowV_none _ _ _⟩, ⟨_, rowV_none _ _ _⟩, fun i e => by cases e⟩
theorem left_kw {w w' : World} {g base : Nat} {c2 c3 c4 c5 : Value} (hk : KW w' g base c2 c3 c4 c5) (hb : Below g w w') : Left w g w' :=
  ⟨hk.cells.1, by have h1 := hk.2.1; have h2 := hk.2.2; omega, hb⟩
set_option maxHeartbeats 2000000 in
set_option maxRecDepth 100000 in
theorem toldx (g base : Nat) (op : Int) (nm : ByteArray) (n k : Int) (a : Option Addr) (len cap : Nat) (bs : List (BitVec 8)) (m : Int) (w : World) (hk : KW w g base (.slice none 0 0) (.slice none 0 0) (.slice none 0 0) (.slice none 0 0)) (hr : Rd w a len bs) (hl : len ≤ 140737488351232) (hop : op < 0 ∨ 10 < op) :
    Calls Try.prog 17 #[.pointer (some ⟨g, 0, none⟩), .agg #[.int .i64 op, .string nm, .int .i64 n, .int .i64 k, .slice a len cap, .int .u32 m]] w fun e w' => e = .returned (.bool true) ∧ Left w g w' := by
  have HK := hide hk
  have HGL : Hid (g < w.heap.size) := by have h1 := hk.2.1; have h2 := hk.2.2; show _ < _; omega
  clear hk hr
  have o0 : (op == 0) = false := by rw [beq_eq_false_iff_ne]; omega
  have o1 : (op == 1) = false := by rw [beq_eq_false_iff_ne]; omega
  have o2 : (op == 2) = false := by rw [beq_eq_false_iff_ne]; omega
  have o3 : (op == 3) = false := by rw [beq_eq_false_iff_ne]; omega
  have o4 : (op == 4) = false := by rw [beq_eq_false_iff_ne]; omega
  have o5 : (op == 5) = false := by rw [beq_eq_false_iff_ne]; omega
  have o6 : (op == 6) = false := by rw [beq_eq_false_iff_ne]; omega
  have o7 : (op == 7) = false := by rw [beq_eq_false_iff_ne]; omega
  have o8 : (op == 8) = false := by rw [beq_eq_false_iff_ne]; omega
  have o9 : (op == 9) = false := by rw [beq_eq_false_iff_ne]; omega
  have o10 : (op == 10) = false := by rw [beq_eq_false_iff_ne]; omega
  clear hop
  obtain ⟨w1, hw1⟩ : ∃ w1, w.alloc (.cells #[.int .i64 op, .string nm, .int .i64 n, .int .i64 k, .slice a len cap, .int .u32 m] 49) = w1 := ⟨_, rfl⟩
  have HB1 : Hid (Below w.heap.size w w1) := by rw [← hw1]; exact (Below.refl _ _).alloc (Nat.le_refl _) _
  have HSB : Hid (SB w1 w.heap.size op nm n k (.slice a len cap) m) := by rw [← hw1]; exact heap_alloc_new _ _
  obtain ⟨q0, q1, q2, q3, q4, q5⟩ := HSB.out.cells
  go_enter Try.func17, Try.ntmps17
  go_wp2_with fail
  go_ret
  exact ⟨rfl, left_of HK.out (Below.refl _ _) HB1.out⟩
set_option maxHeartbeats 2000000 in
set_option maxRecDepth 100000 in
theorem told10 (g base : Nat) (nm : ByteArray) (n k : Int) (a : Option Addr) (len cap : Nat) (bs : List (BitVec 8)) (m : Int) (w : World) (hk : KW w g base (.slice none 0 0) (.slice none 0 0) (.slice none 0 0) (.slice none 0 0)) (hr : Rd w a len bs) (hl : len ≤ 140737488351232) :
    Calls Try.prog 17 #[.pointer (some ⟨g, 0, none⟩), .agg #[.int .i64 10, .string nm, .int .i64 n, .int .i64 k, .slice a len cap, .int .u32 m]] w fun e w' => e = .returned (.bool true) ∧ Left w g w' := by
  have HK := hide hk
  have HR := hide hr
  have HGL : Hid (g < w.heap.size) := by have h1 := hk.2.1; have h2 := hk.2.2; show _ < _; omega
  clear hk hr
  obtain ⟨x, hx⟩ : ∃ x, w.heap.size = x := ⟨_, rfl⟩
  have HX := hide hx
  obtain ⟨w1, hw1⟩ : ∃ w1, w.alloc (.cells #[.int .i64 10, .string nm, .int .i64 n, .int .i64 k, .slice a len cap, .int .u32 m] 49) = w1 := ⟨_, rfl⟩
  have HSB : Hid (SB w1 x 10 nm n k (.slice a len cap) m) := by rw [← hw1, ← hx]; exact heap_alloc_new _ _
  have HB1 : Hid (Below w.heap.size w w1) := by rw [← hw1]; exact (Below.refl _ _).alloc (Nat.le_refl _) _
  have HK1 := hide (HK.out.grown (below_grown HB1.out) (by simp))
  have HBG : Hid (Below g w w1) := HB1.out.mono (by have := HGL.out; omega)
  have HXS : Hid (x < w1.heap.size) := HSB.out.lt
  have HGS : Hid (g < w1.heap.size) := by have h1 := HGL.out; have h2 := HXS.out; show _ < _; rw [HX.out] at h1; omega
  obtain ⟨q0, q1, q2, q3, q4, q5⟩ := HSB.out.cells
  obtain ⟨k0, k1, k2, k3, k4, k5⟩ := HK1.out.cells
  go_enter Try.func17, Try.ntmps17
  go_wp2_with fail
  go_region_held (fun V => V.cell? ⟨g, 0, none⟩ = some (.pointer none) ∧ V.cell? ⟨g, 1, none⟩ = some (.pointer none)) (go_keep) (first
    | (go_at_call 18; refine (meter_nil _).mono ?_; rintro e w6 ⟨rfl, hbx⟩; have hbb := below_trans ((Below.refl w1.heap.size w1).drew) hbx; have HB6 := hide hbb; have w6g0 : w6.cell? ⟨g, 0, none⟩ = some (.pointer none) := (hbb.cell (p := ⟨g, 0, none⟩) HGS.out).trans k0; have w6g1 : w6.cell? ⟨g, 1, none⟩ = some (.pointer none) := (hbb.cell (p := ⟨g, 1, none⟩) HGS.out).trans k1; clear hbx hbb)
    | (go_at_call 54; refine (refMeter_nil _).mono ?_; rintro e w7 ⟨rfl, hby⟩; have HB7 := hide (below_trans HB6.out hby); have w7g0 : w7.cell? ⟨g, 0, none⟩ = some (.pointer none) := (HB7.out.cell (p := ⟨g, 0, none⟩) HGS.out).trans k0; have w7g1 : w7.cell? ⟨g, 1, none⟩ = some (.pointer none) := (HB7.out.cell (p := ⟨g, 1, none⟩) HGS.out).trans k1; clear hby))
  go_wp2_with fail
  go_ret
  exact ⟨rfl, by first | exact left_of HK1.out HBG.out HB7.out | exact left_of HK1.out HBG.out (below_trans HB7.out ((Below.refl _ _).drew)) | exact left_of HK1.out HBG.out (below_trans HB7.out (below_drewN' _ _ _))⟩
set_option maxHeartbeats 2000000 in
set_option maxRecDepth 100000 in
theorem told9a (g base : Nat) (nm : ByteArray) (n k : Int) (a : Option Addr) (len cap : Nat) (bs : List (BitVec 8)) (m : Int) (w : World) (hk : KW w g base (.slice none 0 0) (.slice none 0 0) (.slice none 0 0) (.slice none 0 0)) (hr : Rd w a len bs) (hl : len ≤ 140737488351232) (hN1 : 1000000 < n) (hN2 : n < 536870912) :
    Calls Try.prog 17 #[.pointer (some ⟨g, 0, none⟩), .agg #[.int .i64 9, .string nm, .int .i64 n, .int .i64 k, .slice a len cap, .int .u32 m]] w fun e w' => e = .returned (.bool true) ∧ Left w g w' := by
  have HK := hide hk
  have HR := hide hr
  have HGL : Hid (g < w.heap.size) := by have h1 := hk.2.1; have h2 := hk.2.2; show _ < _; omega
  clear hk hr
  obtain ⟨x, hx⟩ : ∃ x, w.heap.size = x := ⟨_, rfl⟩
  have HX := hide hx
  obtain ⟨w1, hw1⟩ : ∃ w1, w.alloc (.cells #[.int .i64 9, .string nm, .int .i64 n, .int .i64 k, .slice a len cap, .int .u32 m] 49) = w1 := ⟨_, rfl⟩
  have HSB : Hid (SB w1 x 9 nm n k (.slice a len cap) m) := by rw [← hw1, ← hx]; exact heap_alloc_new _ _
  have HB1 : Hid (Below w.heap.size w w1) := by rw [← hw1]; exact (Below.refl _ _).alloc (Nat.le_refl _) _
  have HK1 := hide (HK.out.grown (below_grown HB1.out) (by simp))
  have HBG : Hid (Below g w w1) := HB1.out.mono (by have := HGL.out; omega)
  have HXS : Hid (x < w1.heap.size) := HSB.out.lt
  have HGS : Hid (g < w1.heap.size) := by have h1 := HGL.out; have h2 := HXS.out; show _ < _; rw [HX.out] at h1; omega
  obtain ⟨q0, q1, q2, q3, q4, q5⟩ := HSB.out.cells
  obtain ⟨k0, k1, k2, k3, k4, k5⟩ := HK1.out.cells
  have fx : w1.frozen? ⟨x, 2, none⟩ = false := frozen_of_row _ _ _ _ _ HSB.out
  have HGX : Hid (g < x) := by have h1 := HGL.out; rw [HX.out] at h1; exact h1
  obtain ⟨w2, hw2⟩ : ∃ w2, w1.setCell ⟨x, 2, none⟩ (.int .i64 1000000) = w2 := ⟨_, rfl⟩
  have HSB2 : Hid (SB w2 x 9 nm 1000000 k (.slice a len cap) m) := by rw [← hw2]; exact HSB.out.set2 _
  have HG12 : Hid (w1.grownBy w2 (some x)) := by rw [← hw2]; exact grown_cell (World.grownBy.refl _ _) _ _
  have HK2 := hide (HK1.out.grown HG12.out (fun e => by have := Option.some.inj e; have := HGX.out; omega))
  have HBG2 : Hid (Below g w w2) := by rw [← hw2]; exact HBG.out.setCell (show g ≤ x by have := HGX.out; omega) _
  have HXS2 : Hid (x < w2.heap.size) := HSB2.out.lt
  have HGS2 : Hid (g < w2.heap.size) := by have h1 := HGX.out; have h2 := HXS2.out; show _ < _; omega
  obtain ⟨Q0, Q1, Q2, Q3, Q4, Q5⟩ := HSB2.out.cells
  obtain ⟨K0, K1, K2, K3, K4, K5⟩ := HK2.out.cells
  go_enter Try.func17, Try.ntmps17
  go_wp2_with fail
  go_region_held (fun V => V.cell? ⟨g, 0, none⟩ = some (.pointer none) ∧ V.cell? ⟨g, 1, none⟩ = some (.pointer none) ∧ V.cell? ⟨x, 1, none⟩ = some (.string nm) ∧ V.cell? ⟨x, 2, none⟩ = some (.int .i64 1000000)) (go_keep) (first
    | (go_at_call 52; refine (resize_nil _ _ _).mono ?_; rintro e w6 ⟨rfl, hbx⟩; have hbb := below_trans ((Below.refl w2.heap.size w2).drew) hbx; have HB6 := hide hbb; have w6g0 : w6.cell? ⟨g, 0, none⟩ = some (.pointer none) := (hbb.cell (p := ⟨g, 0, none⟩) HGS2.out).trans K0; have w6g1 : w6.cell? ⟨g, 1, none⟩ = some (.pointer none) := (hbb.cell (p := ⟨g, 1, none⟩) HGS2.out).trans K1; have w6x1 : w6.cell? ⟨x, 1, none⟩ = some (.string nm) := (hbb.cell (p := ⟨x, 1, none⟩) HXS2.out).trans Q1; have w6x2 : w6.cell? ⟨x, 2, none⟩ = some (.int .i64 1000000) := (hbb.cell (p := ⟨x, 2, none⟩) HXS2.out).trans Q2; clear hbx hbb)
    | (go_at_call 53; refine (refResize_nil _ _ _).mono ?_; rintro e w7 ⟨rfl, rfl⟩))
  go_wp2_with fail
  go_ret
  exact ⟨rfl, by first | exact left_of HK2.out HBG2.out HB6.out | exact left_of HK2.out HBG2.out (below_trans HB6.out ((Below.refl _ _).drew)) | exact left_of HK2.out HBG2.out (below_trans HB6.out (below_drewN' _ _ _))⟩
set_option maxHeartbeats 2000000 in
set_option maxRecDepth 100000 in
theorem told9b (g base : Nat) (nm : ByteArray) (n k : Int) (a : Option Addr) (len cap : Nat) (bs : List (BitVec 8)) (m : Int) (w : World) (hk : KW w g base (.slice none 0 0) (.slice none 0 0) (.slice none 0 0) (.slice none 0 0)) (hr : Rd w a len bs) (hl : len ≤ 140737488351232) (hN1 : ¬ 1000000 < n) :
    Calls Try.prog 17 #[.pointer (some ⟨g, 0, none⟩), .agg #[.int .i64 9, .string nm, .int .i64 n, .int .i64 k, .slice a len cap, .int .u32 m]] w fun e w' => e = .returned (.bool true) ∧ Left w g w' := by
  have HK := hide hk
  have HR := hide hr
  have HGL : Hid (g < w.heap.size) := by have h1 := hk.2.1; have h2 := hk.2.2; show _ < _; omega
  clear hk hr
  obtain ⟨x, hx⟩ : ∃ x, w.heap.size = x := ⟨_, rfl⟩
  have HX := hide hx
  obtain ⟨w1, hw1⟩ : ∃ w1, w.alloc (.cells #[.int .i64 9, .string nm, .int .i64 n, .int .i64 k, .slice a len cap, .int .u32 m] 49) = w1 := ⟨_, rfl⟩
  have HSB : Hid (SB w1 x 9 nm n k (.slice a len cap) m) := by rw [← hw1, ← hx]; exact heap_alloc_new _ _
  have HB1 : Hid (Below w.heap.size w w1) := by rw [← hw1]; exact (Below.refl _ _).alloc (Nat.le_refl _) _
  have HK1 := hide (HK.out.grown (below_grown HB1.out) (by simp))
  have HBG : Hid (Below g w w1) := HB1.out.mono (by have := HGL.out; omega)
  have HXS : Hid (x < w1.heap.size) := HSB.out.lt
  have HGS : Hid (g < w1.heap.size) := by have h1 := HGL.out; have h2 := HXS.out; show _ < _; rw [HX.out] at h1; omega
  obtain ⟨q0, q1, q2, q3, q4, q5⟩ := HSB.out.cells
  obtain ⟨k0, k1, k2, k3, k4, k5⟩ := HK1.out.cells
  go_enter Try.func17, Try.ntmps17
  go_wp2_with fail
  go_region_held (fun V => V.cell? ⟨g, 0, none⟩ = some (.pointer none) ∧ V.cell? ⟨g, 1, none⟩ = some (.pointer none) ∧ V.cell? ⟨x, 1, none⟩ = some (.string nm) ∧ V.cell? ⟨x, 2, none⟩ = some (.int .i64 n)) (go_keep) (first
    | (go_at_call 52; refine (resize_nil _ _ _).mono ?_; rintro e w6 ⟨rfl, hbx⟩; have hbb := below_trans ((Below.refl w1.heap.size w1).drew) hbx; have HB6 := hide hbb; have w6g0 : w6.cell? ⟨g, 0, none⟩ = some (.pointer none) := (hbb.cell (p := ⟨g, 0, none⟩) HGS.out).trans k0; have w6g1 : w6.cell? ⟨g, 1, none⟩ = some (.pointer none) := (hbb.cell (p := ⟨g, 1, none⟩) HGS.out).trans k1; have w6x1 : w6.cell? ⟨x, 1, none⟩ = some (.string nm) := (hbb.cell (p := ⟨x, 1, none⟩) HXS.out).trans q1; have w6x2 : w6.cell? ⟨x, 2, none⟩ = some (.int .i64 n) := (hbb.cell (p := ⟨x, 2, none⟩) HXS.out).trans q2; clear hbx hbb)
    | (go_at_call 53; refine (refResize_nil _ _ _).mono ?_; rintro e w7 ⟨rfl, rfl⟩))
  go_wp2_with fail
  go_ret
  exact ⟨rfl, by first | exact left_of HK1.out HBG.out HB6.out | exact left_of HK1.out HBG.out (below_trans HB6.out ((Below.refl _ _).drew)) | exact left_of HK1.out HBG.out (below_trans HB6.out (below_drewN' _ _ _))⟩
set_option maxHeartbeats 2000000 in
set_option maxRecDepth 100000 in
theorem told9c (g base : Nat) (nm : ByteArray) (n k : Int) (a : Option Addr) (len cap : Nat) (bs : List (BitVec 8)) (m : Int) (w : World) (hk : KW w g base (.slice none 0 0) (.slice none 0 0) (.slice none 0 0) (.slice none 0 0)) (hr : Rd w a len bs) (hl : len ≤ 140737488351232) (hN1 : 1000000 < n) (hN2 : ¬ n < 536870912) :
    Calls Try.prog 17 #[.pointer (some ⟨g, 0, none⟩), .agg #[.int .i64 9, .string nm, .int .i64 n, .int .i64 k, .slice a len cap, .int .u32 m]] w fun e w' => e = .returned (.bool true) ∧ Left w g w' := by
  have HK := hide hk
  have HR := hide hr
  have HGL : Hid (g < w.heap.size) := by have h1 := hk.2.1; have h2 := hk.2.2; show _ < _; omega
  clear hk hr
  obtain ⟨x, hx⟩ : ∃ x, w.heap.size = x := ⟨_, rfl⟩
  have HX := hide hx
  obtain ⟨w1, hw1⟩ : ∃ w1, w.alloc (.cells #[.int .i64 9, .string nm, .int .i64 n, .int .i64 k, .slice a len cap, .int .u32 m] 49) = w1 := ⟨_, rfl⟩
  have HSB : Hid (SB w1 x 9 nm n k (.slice a len cap) m) := by rw [← hw1, ← hx]; exact heap_alloc_new _ _
  have HB1 : Hid (Below w.heap.size w w1) := by rw [← hw1]; exact (Below.refl _ _).alloc (Nat.le_refl _) _
  have HK1 := hide (HK.out.grown (below_grown HB1.out) (by simp))
  have HBG : Hid (Below g w w1) := HB1.out.mono (by have := HGL.out; omega)
  have HXS : Hid (x < w1.heap.size) := HSB.out.lt
  have HGS : Hid (g < w1.heap.size) := by have h1 := HGL.out; have h2 := HXS.out; show _ < _; rw [HX.out] at h1; omega
  obtain ⟨q0, q1, q2, q3, q4, q5⟩ := HSB.out.cells
  obtain ⟨k0, k1, k2, k3, k4, k5⟩ := HK1.out.cells
  go_enter Try.func17, Try.ntmps17
  go_wp2_with fail
  go_region_held (fun V => V.cell? ⟨g, 0, none⟩ = some (.pointer none) ∧ V.cell? ⟨g, 1, none⟩ = some (.pointer none) ∧ V.cell? ⟨x, 1, none⟩ = some (.string nm) ∧ V.cell? ⟨x, 2, none⟩ = some (.int .i64 n)) (go_keep) (first
    | (go_at_call 52; refine (resize_nil _ _ _).mono ?_; rintro e w6 ⟨rfl, hbx⟩; have hbb := below_trans ((Below.refl w1.heap.size w1).drew) hbx; have HB6 := hide hbb; have w6g0 : w6.cell? ⟨g, 0, none⟩ = some (.pointer none) := (hbb.cell (p := ⟨g, 0, none⟩) HGS.out).trans k0; have w6g1 : w6.cell? ⟨g, 1, none⟩ = some (.pointer none) := (hbb.cell (p := ⟨g, 1, none⟩) HGS.out).trans k1; have w6x1 : w6.cell? ⟨x, 1, none⟩ = some (.string nm) := (hbb.cell (p := ⟨x, 1, none⟩) HXS.out).trans q1; have w6x2 : w6.cell? ⟨x, 2, none⟩ = some (.int .i64 n) := (hbb.cell (p := ⟨x, 2, none⟩) HXS.out).trans q2; clear hbx hbb)
    | (go_at_call 53; refine (refResize_nil _ _ _).mono ?_; rintro e w7 ⟨rfl, rfl⟩))
  go_wp2_with fail
  go_ret
  exact ⟨rfl, by first | exact left_of HK1.out HBG.out HB6.out | exact left_of HK1.out HBG.out (below_trans HB6.out ((Below.refl _ _).drew)) | exact left_of HK1.out HBG.out (below_trans HB6.out (below_drewN' _ _ _))⟩
end Go.Proofs.Ytndodbfhigejfac.Sn
