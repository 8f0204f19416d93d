/-
  One step on nil stores: both answer the same.
-/
import Derived.Test.YtndodbfhigejfacSnApp
import Derived.Laws.StructEq
namespace Go.Proofs.Ytndodbfhigejfac.Sn
open Go.ChangeShapes Go.WideShapes Go.ChangeAt Go.RowKit
open Go.Proofs.Ytndodbfhigejfac.Base
set_option linter.unusedVariables false
theorem same_nil (w : World) : Calls Try.prog 15 #[.slice none 0 0, .slice none 0 0] w fun e w' => e = .returned (.bool true) ∧ w' = w := by
  go_enter Try.func15, Try.ntmps15
  go_wp2_with fail
  go_loop [5] (fun i => i = .int .i64 0) (fun _ => 0)
  case atStart => exact rfl
  case round =>
    obtain rfl := hrel
    go_wp2_with fail
    go_ret
    exact ⟨rfl, rfl⟩
theorem sameList_nil (w : World) : Calls Try.prog 47 #[.slice none 0 0, .slice none 0 0] w fun e w' => e = .returned (.bool true) ∧ w' = w := by
  go_enter Try.func47, Try.ntmps47
  go_wp2_with fail
  go_loop [5] (fun i => i = .int .i64 0) (fun _ => 0)
  case atStart => exact rfl
  case round =>
    obtain rfl := hrel
    go_wp2_with fail
    go_ret
    exact ⟨rfl, rfl⟩
/-- What a step leaves: a world of nil stores still, and nothing below it has turned. -/
def Left (w : World) (g : Nat) (w' : World) : Prop := w'.cell? ⟨g, 0, none⟩ = some (.pointer none) ∧ g < w'.heap.size ∧ Below g w w'
theorem left_of {w w1 w' : World} {g base : Nat} {c2 c3 c4 c5 : Value} (hk : KW w1 g base c2 c3 c4 c5) (hb : Below g w w1) (h : Below w1.heap.size w1 w') : Left w g w' := by
  have hg : g < w1.heap.size := by have h1 := hk.2.1; have h2 := hk.2.2; omega
  exact ⟨by rw [h.cell (p := ⟨g, 0, none⟩) hg]; exact hk.cells.1, Nat.lt_of_lt_of_le hg h.size, hb.trans (h.mono (by omega))⟩
theorem create_nil' (s : ByteArray) (w : World) : Calls Try.prog 6 #[.pointer none, .string s] w fun e w' => e = .returned (.int .i64 1) ∧ Below w.heap.size w w' :=
  (create_nil s w).mono fun e w' h => ⟨h.1, by rw [h.2]; exact Below.refl _ _⟩
theorem list_nil' (s : ByteArray) (w : World) : Calls Try.prog 16 #[.pointer none, .string s] w fun e w' => e = .returned (.slice none 0 0) ∧ Below w.heap.size w w' :=
  (list_nil s w).mono fun e w' h => ⟨h.1, by rw [h.2]; exact Below.refl _ _⟩
set_option maxHeartbeats 2000000 in
set_option maxRecDepth 100000 in
theorem told0 (g base : Nat) (nm : ByteArray) (n k : Int) (a : Option Addr) (len cap : Nat) (bs : List (BitVec 8)) (m : Int) (w : World) (hk : KW w g base (.slice none 0 0) (.slice none 0 0) (.slice none 0 0) (.slice none 0 0)) (hr : Rd w a len bs) (hl : len ≤ 140737488351232) :
    Calls Try.prog 17 #[.pointer (some ⟨g, 0, none⟩), .agg #[.int .i64 0, .string nm, .int .i64 n, .int .i64 k, .slice a len cap, .int .u32 m]] w fun e w' => e = .returned (.bool true) ∧ Left w g w' := by
  have HK := hide hk
  have HR := hide hr
  have HGL : Hid (g < w.heap.size) := by have h1 := hk.2.1; have h2 := hk.2.2; show _ < _; omega
  clear hk hr
  obtain ⟨x, hx⟩ : ∃ x, w.heap.size = x := ⟨_, rfl⟩
  have HX := hide hx
  obtain ⟨w1, hw1⟩ : ∃ w1, w.alloc (.cells #[.int .i64 0, .string nm, .int .i64 n, .int .i64 k, .slice a len cap, .int .u32 m] 49) = w1 := ⟨_, rfl⟩
  have HSB : Hid (SB w1 x 0 nm n k (.slice a len cap) m) := by rw [← hw1, ← hx]; exact heap_alloc_new _ _
  have HB1 : Hid (Below w.heap.size w w1) := by rw [← hw1]; exact (Below.refl _ _).alloc (Nat.le_refl _) _
  have HK1 := hide (HK.out.grown (below_grown HB1.out) (by simp))
  have HBG : Hid (Below g w w1) := HB1.out.mono (by have := HGL.out; omega)
  have HXS : Hid (x < w1.heap.size) := HSB.out.lt
  have HGS : Hid (g < w1.heap.size) := by have h1 := HGL.out; have h2 := HXS.out; show _ < _; rw [HX.out] at h1; omega
  obtain ⟨q0, q1, q2, q3, q4, q5⟩ := HSB.out.cells
  obtain ⟨k0, k1, k2, k3, k4, k5⟩ := HK1.out.cells
  go_enter Try.func17, Try.ntmps17
  go_wp2_with fail
  go_region_held (fun V => V.cell? ⟨g, 0, none⟩ = some (.pointer none) ∧ V.cell? ⟨g, 1, none⟩ = some (.pointer none) ∧ V.cell? ⟨x, 1, none⟩ = some (.string nm)) (go_keep) (first
    | (go_at_call 6; refine (create_nil' _ _).mono ?_; rintro e w6 ⟨rfl, hbx⟩; have hbb := below_trans ((Below.refl w1.heap.size w1).drew) hbx; have HB6 := hide hbb; have w6g0 : w6.cell? ⟨g, 0, none⟩ = some (.pointer none) := (hbb.cell (p := ⟨g, 0, none⟩) HGS.out).trans k0; have w6g1 : w6.cell? ⟨g, 1, none⟩ = some (.pointer none) := (hbb.cell (p := ⟨g, 1, none⟩) HGS.out).trans k1; have w6x1 : w6.cell? ⟨x, 1, none⟩ = some (.string nm) := (hbb.cell (p := ⟨x, 1, none⟩) HXS.out).trans q1; clear hbx hbb)
    | (go_at_call 37; refine (refCreate_nil _ _).mono ?_; rintro e w7 ⟨rfl, rfl⟩))
  go_wp2_with fail
  go_ret
  exact ⟨rfl, by first | exact left_of HK1.out HBG.out HB6.out | exact left_of HK1.out HBG.out (below_trans HB6.out ((Below.refl _ _).drew)) | exact left_of HK1.out HBG.out (below_trans HB6.out (below_drewN' _ _ _))⟩
set_option maxHeartbeats 2000000 in
set_option maxRecDepth 100000 in
theorem told1 (g base : Nat) (nm : ByteArray) (n k : Int) (a : Option Addr) (len cap : Nat) (bs : List (BitVec 8)) (m : Int) (w : World) (hk : KW w g base (.slice none 0 0) (.slice none 0 0) (.slice none 0 0) (.slice none 0 0)) (hr : Rd w a len bs) (hl : len ≤ 140737488351232) :
    Calls Try.prog 17 #[.pointer (some ⟨g, 0, none⟩), .agg #[.int .i64 1, .string nm, .int .i64 n, .int .i64 k, .slice a len cap, .int .u32 m]] w fun e w' => e = .returned (.bool true) ∧ Left w g w' := by
  have HK := hide hk
  have HR := hide hr
  have HGL : Hid (g < w.heap.size) := by have h1 := hk.2.1; have h2 := hk.2.2; show _ < _; omega
  clear hk hr
  obtain ⟨x, hx⟩ : ∃ x, w.heap.size = x := ⟨_, rfl⟩
  have HX := hide hx
  obtain ⟨w1, hw1⟩ : ∃ w1, w.alloc (.cells #[.int .i64 1, .string nm, .int .i64 n, .int .i64 k, .slice a len cap, .int .u32 m] 49) = w1 := ⟨_, rfl⟩
  have HSB : Hid (SB w1 x 1 nm n k (.slice a len cap) m) := by rw [← hw1, ← hx]; exact heap_alloc_new _ _
  have HB1 : Hid (Below w.heap.size w w1) := by rw [← hw1]; exact (Below.refl _ _).alloc (Nat.le_refl _) _
  have HK1 := hide (HK.out.grown (below_grown HB1.out) (by simp))
  have HBG : Hid (Below g w w1) := HB1.out.mono (by have := HGL.out; omega)
  have HXS : Hid (x < w1.heap.size) := HSB.out.lt
  have HGS : Hid (g < w1.heap.size) := by have h1 := HGL.out; have h2 := HXS.out; show _ < _; rw [HX.out] at h1; omega
  obtain ⟨q0, q1, q2, q3, q4, q5⟩ := HSB.out.cells
  obtain ⟨k0, k1, k2, k3, k4, k5⟩ := HK1.out.cells
  go_enter Try.func17, Try.ntmps17
  go_wp2_with fail
  refine (appended_any g base _ _ _ _ 1 nm n k a len cap bs m w1 HK1.out (HR.out.below HB1.out) hl).mono ?_
  rintro e w6 ⟨rfl, hb6⟩
  have HB6 := hide hb6
  clear hb6
  go_wp2_with fail
  go_ret
  exact ⟨rfl, left_of HK1.out HBG.out HB6.out⟩
set_option maxHeartbeats 2000000 in
set_option maxRecDepth 100000 in
theorem told2 (g base : Nat) (nm : ByteArray) (n k : Int) (a : Option Addr) (len cap : Nat) (bs : List (BitVec 8)) (m : Int) (w : World) (hk : KW w g base (.slice none 0 0) (.slice none 0 0) (.slice none 0 0) (.slice none 0 0)) (hr : Rd w a len bs) (hl : len ≤ 140737488351232) :
    Calls Try.prog 17 #[.pointer (some ⟨g, 0, none⟩), .agg #[.int .i64 2, .string nm, .int .i64 n, .int .i64 k, .slice a len cap, .int .u32 m]] w fun e w' => e = .returned (.bool true) ∧ Left w g w' := by
  have HK := hide hk
  have HR := hide hr
  have HGL : Hid (g < w.heap.size) := by have h1 := hk.2.1; have h2 := hk.2.2; show _ < _; omega
  clear hk hr
  obtain ⟨x, hx⟩ : ∃ x, w.heap.size = x := ⟨_, rfl⟩
  have HX := hide hx
  obtain ⟨w1, hw1⟩ : ∃ w1, w.alloc (.cells #[.int .i64 2, .string nm, .int .i64 n, .int .i64 k, .slice a len cap, .int .u32 m] 49) = w1 := ⟨_, rfl⟩
  have HSB : Hid (SB w1 x 2 nm n k (.slice a len cap) m) := by rw [← hw1, ← hx]; exact heap_alloc_new _ _
  have HB1 : Hid (Below w.heap.size w w1) := by rw [← hw1]; exact (Below.refl _ _).alloc (Nat.le_refl _) _
  have HK1 := hide (HK.out.grown (below_grown HB1.out) (by simp))
  have HBG : Hid (Below g w w1) := HB1.out.mono (by have := HGL.out; omega)
  have HXS : Hid (x < w1.heap.size) := HSB.out.lt
  have HGS : Hid (g < w1.heap.size) := by have h1 := HGL.out; have h2 := HXS.out; show _ < _; rw [HX.out] at h1; omega
  obtain ⟨q0, q1, q2, q3, q4, q5⟩ := HSB.out.cells
  obtain ⟨k0, k1, k2, k3, k4, k5⟩ := HK1.out.cells
  go_enter Try.func17, Try.ntmps17
  go_wp2_with fail
  go_region_held (fun V => V.cell? ⟨g, 0, none⟩ = some (.pointer none) ∧ V.cell? ⟨g, 1, none⟩ = some (.pointer none) ∧ V.cell? ⟨x, 1, none⟩ = some (.string nm)) (go_keep) (first
    | (go_at_call 13; refine (publish_nil _ _).mono ?_; rintro e w6 ⟨rfl, hbx⟩; have hbb := below_trans ((Below.refl w1.heap.size w1).drew) hbx; have HB6 := hide hbb; have w6g0 : w6.cell? ⟨g, 0, none⟩ = some (.pointer none) := (hbb.cell (p := ⟨g, 0, none⟩) HGS.out).trans k0; have w6g1 : w6.cell? ⟨g, 1, none⟩ = some (.pointer none) := (hbb.cell (p := ⟨g, 1, none⟩) HGS.out).trans k1; have w6x1 : w6.cell? ⟨x, 1, none⟩ = some (.string nm) := (hbb.cell (p := ⟨x, 1, none⟩) HXS.out).trans q1; clear hbx hbb)
    | (go_at_call 39; refine (refPublish_nil _ _).mono ?_; rintro e w7 ⟨rfl, rfl⟩))
  go_wp2_with fail
  go_ret
  exact ⟨rfl, by first | exact left_of HK1.out HBG.out HB6.out | exact left_of HK1.out HBG.out (below_trans HB6.out ((Below.refl _ _).drew)) | exact left_of HK1.out HBG.out (below_trans HB6.out (below_drewN' _ _ _))⟩
set_option maxHeartbeats 2000000 in
set_option maxRecDepth 100000 in
theorem told4 (g base : Nat) (nm : ByteArray) (n k : Int) (a : Option Addr) (len cap : Nat) (bs : List (BitVec 8)) (m : Int) (w : World) (hk : KW w g base (.slice none 0 0) (.slice none 0 0) (.slice none 0 0) (.slice none 0 0)) (hr : Rd w a len bs) (hl : len ≤ 140737488351232) :
    Calls Try.prog 17 #[.pointer (some ⟨g, 0, none⟩), .agg #[.int .i64 4, .string nm, .int .i64 n, .int .i64 k, .slice a len cap, .int .u32 m]] w fun e w' => e = .returned (.bool true) ∧ Left w g w' := by
  have HK := hide hk
  have HR := hide hr
  have HGL : Hid (g < w.heap.size) := by have h1 := hk.2.1; have h2 := hk.2.2; show _ < _; omega
  clear hk hr
  obtain ⟨x, hx⟩ : ∃ x, w.heap.size = x := ⟨_, rfl⟩
  have HX := hide hx
  obtain ⟨w1, hw1⟩ : ∃ w1, w.alloc (.cells #[.int .i64 4, .string nm, .int .i64 n, .int .i64 k, .slice a len cap, .int .u32 m] 49) = w1 := ⟨_, rfl⟩
  have HSB : Hid (SB w1 x 4 nm n k (.slice a len cap) m) := by rw [← hw1, ← hx]; exact heap_alloc_new _ _
  have HB1 : Hid (Below w.heap.size w w1) := by rw [← hw1]; exact (Below.refl _ _).alloc (Nat.le_refl _) _
  have HK1 := hide (HK.out.grown (below_grown HB1.out) (by simp))
  have HBG : Hid (Below g w w1) := HB1.out.mono (by have := HGL.out; omega)
  have HXS : Hid (x < w1.heap.size) := HSB.out.lt
  have HGS : Hid (g < w1.heap.size) := by have h1 := HGL.out; have h2 := HXS.out; show _ < _; rw [HX.out] at h1; omega
  obtain ⟨q0, q1, q2, q3, q4, q5⟩ := HSB.out.cells
  obtain ⟨k0, k1, k2, k3, k4, k5⟩ := HK1.out.cells
  go_enter Try.func17, Try.ntmps17
  go_wp2_with fail
  go_region_held (fun V => V.cell? ⟨g, 0, none⟩ = some (.pointer none) ∧ V.cell? ⟨x, 1, none⟩ = some (.string nm)) (go_keep) (first
    | (go_at_call 42; refine (size_nil _ _).mono ?_; rintro e w6 ⟨rfl, hbx⟩; have hbb := below_trans ((Below.refl w1.heap.size w1).drew) hbx; have HB6 := hide hbb; have w6g0 : w6.cell? ⟨g, 0, none⟩ = some (.pointer none) := (hbb.cell (p := ⟨g, 0, none⟩) HGS.out).trans k0; have w6g1 : w6.cell? ⟨g, 1, none⟩ = some (.pointer none) := (hbb.cell (p := ⟨g, 1, none⟩) HGS.out).trans k1; have w6x1 : w6.cell? ⟨x, 1, none⟩ = some (.string nm) := (hbb.cell (p := ⟨x, 1, none⟩) HXS.out).trans q1; clear hbx hbb))
  all_goals
    go_wp2_with fail
    go_quiet ((go_at_call 43; exact Calls.quiet_of_same (refSize_nil _ _)))
    go_wp2_with fail
    go_ret
    exact ⟨rfl, by first | exact left_of HK1.out HBG.out HB6.out | exact left_of HK1.out HBG.out (below_trans HB6.out ((Below.refl _ _).drew)) | exact left_of HK1.out HBG.out (below_trans HB6.out (below_drewN' _ _ _))⟩
set_option maxHeartbeats 2000000 in
set_option maxRecDepth 100000 in
theorem told5 (g base : Nat) (nm : ByteArray) (n k : Int) (a : Option Addr) (len cap : Nat) (bs : List (BitVec 8)) (m : Int) (w : World) (hk : KW w g base (.slice none 0 0) (.slice none 0 0) (.slice none 0 0) (.slice none 0 0)) (hr : Rd w a len bs) (hl : len ≤ 140737488351232) :
    Calls Try.prog 17 #[.pointer (some ⟨g, 0, none⟩), .agg #[.int .i64 5, .string nm, .int .i64 n, .int .i64 k, .slice a len cap, .int .u32 m]] w fun e w' => e = .returned (.bool true) ∧ Left w g w' := by
  have HK := hide hk
  have HR := hide hr
  have HGL : Hid (g < w.heap.size) := by have h1 := hk.2.1; have h2 := hk.2.2; show _ < _; omega
  clear hk hr
  obtain ⟨x, hx⟩ : ∃ x, w.heap.size = x := ⟨_, rfl⟩
  have HX := hide hx
  obtain ⟨w1, hw1⟩ : ∃ w1, w.alloc (.cells #[.int .i64 5, .string nm, .int .i64 n, .int .i64 k, .slice a len cap, .int .u32 m] 49) = w1 := ⟨_, rfl⟩
  have HSB : Hid (SB w1 x 5 nm n k (.slice a len cap) m) := by rw [← hw1, ← hx]; exact heap_alloc_new _ _
  have HB1 : Hid (Below w.heap.size w w1) := by rw [← hw1]; exact (Below.refl _ _).alloc (Nat.le_refl _) _
  have HK1 := hide (HK.out.grown (below_grown HB1.out) (by simp))
  have HBG : Hid (Below g w w1) := HB1.out.mono (by have := HGL.out; omega)
  have HXS : Hid (x < w1.heap.size) := HSB.out.lt
  have HGS : Hid (g < w1.heap.size) := by have h1 := HGL.out; have h2 := HXS.out; show _ < _; rw [HX.out] at h1; omega
  obtain ⟨q0, q1, q2, q3, q4, q5⟩ := HSB.out.cells
  obtain ⟨k0, k1, k2, k3, k4, k5⟩ := HK1.out.cells
  go_enter Try.func17, Try.ntmps17
  go_wp2_with fail
  go_region_held (fun V => V.cell? ⟨g, 0, none⟩ = some (.pointer none) ∧ V.cell? ⟨g, 1, none⟩ = some (.pointer none) ∧ V.cell? ⟨x, 1, none⟩ = some (.string nm)) (go_keep) (first
    | (go_at_call 44; refine (delete_nil _ _).mono ?_; rintro e w6 ⟨rfl, hbx⟩; have hbb := below_trans ((Below.refl w1.heap.size w1).drew) hbx; have HB6 := hide hbb; have w6g0 : w6.cell? ⟨g, 0, none⟩ = some (.pointer none) := (hbb.cell (p := ⟨g, 0, none⟩) HGS.out).trans k0; have w6g1 : w6.cell? ⟨g, 1, none⟩ = some (.pointer none) := (hbb.cell (p := ⟨g, 1, none⟩) HGS.out).trans k1; have w6x1 : w6.cell? ⟨x, 1, none⟩ = some (.string nm) := (hbb.cell (p := ⟨x, 1, none⟩) HXS.out).trans q1; clear hbx hbb)
    | (go_at_call 45; refine (refDelete_nil _ _).mono ?_; rintro e w7 ⟨rfl, rfl⟩))
  go_wp2_with fail
  go_ret
  exact ⟨rfl, by first | exact left_of HK1.out HBG.out HB6.out | exact left_of HK1.out HBG.out (below_trans HB6.out ((Below.refl _ _).drew)) | exact left_of HK1.out HBG.out (below_trans HB6.out (below_drewN' _ _ _))⟩
set_option maxHeartbeats 2000000 in
set_option maxRecDepth 100000 in
theorem told7 (g base : Nat) (nm : ByteArray) (n k : Int) (a : Option Addr) (len cap : Nat) (bs : List (BitVec 8)) (m : Int) (w : World) (hk : KW w g base (.slice none 0 0) (.slice none 0 0) (.slice none 0 0) (.slice none 0 0)) (hr : Rd w a len bs) (hl : len ≤ 140737488351232) :
    Calls Try.prog 17 #[.pointer (some ⟨g, 0, none⟩), .agg #[.int .i64 7, .string nm, .int .i64 n, .int .i64 k, .slice a len cap, .int .u32 m]] w fun e w' => e = .returned (.bool true) ∧ Left w g w' := by
  have HK := hide hk
  have HR := hide hr
  have HGL : Hid (g < w.heap.size) := by have h1 := hk.2.1; have h2 := hk.2.2; show _ < _; omega
  clear hk hr
  obtain ⟨x, hx⟩ : ∃ x, w.heap.size = x := ⟨_, rfl⟩
  have HX := hide hx
  obtain ⟨w1, hw1⟩ : ∃ w1, w.alloc (.cells #[.int .i64 7, .string nm, .int .i64 n, .int .i64 k, .slice a len cap, .int .u32 m] 49) = w1 := ⟨_, rfl⟩
  have HSB : Hid (SB w1 x 7 nm n k (.slice a len cap) m) := by rw [← hw1, ← hx]; exact heap_alloc_new _ _
  have HB1 : Hid (Below w.heap.size w w1) := by rw [← hw1]; exact (Below.refl _ _).alloc (Nat.le_refl _) _
  have HK1 := hide (HK.out.grown (below_grown HB1.out) (by simp))
  have HBG : Hid (Below g w w1) := HB1.out.mono (by have := HGL.out; omega)
  have HXS : Hid (x < w1.heap.size) := HSB.out.lt
  have HGS : Hid (g < w1.heap.size) := by have h1 := HGL.out; have h2 := HXS.out; show _ < _; rw [HX.out] at h1; omega
  obtain ⟨q0, q1, q2, q3, q4, q5⟩ := HSB.out.cells
  obtain ⟨k0, k1, k2, k3, k4, k5⟩ := HK1.out.cells
  go_enter Try.func17, Try.ntmps17
  go_wp2_with fail
  go_region_held (fun V => V.cell? ⟨g, 0, none⟩ = some (.pointer none) ∧ V.cell? ⟨g, 1, none⟩ = some (.pointer none) ∧ V.cell? ⟨x, 1, none⟩ = some (.string nm) ∧ V.cell? ⟨x, 2, none⟩ = some (.int .i64 n)) (go_keep) (first
    | (go_at_call 10; refine (stopat_nil _ _ _).mono ?_; rintro e w6 ⟨rfl, hbx⟩; have hbb := below_trans ((Below.refl w1.heap.size w1).drew) hbx; have HB6 := hide hbb; have w6g0 : w6.cell? ⟨g, 0, none⟩ = some (.pointer none) := (hbb.cell (p := ⟨g, 0, none⟩) HGS.out).trans k0; have w6g1 : w6.cell? ⟨g, 1, none⟩ = some (.pointer none) := (hbb.cell (p := ⟨g, 1, none⟩) HGS.out).trans k1; have w6x1 : w6.cell? ⟨x, 1, none⟩ = some (.string nm) := (hbb.cell (p := ⟨x, 1, none⟩) HXS.out).trans q1; have w6x2 : w6.cell? ⟨x, 2, none⟩ = some (.int .i64 n) := (hbb.cell (p := ⟨x, 2, none⟩) HXS.out).trans q2; clear hbx hbb)
    | (go_at_call 49; refine (refStopAt_nil _ _ _).mono ?_; rintro e w7 ⟨rfl, rfl⟩))
  go_wp2_with fail
  go_ret
  exact ⟨rfl, by first | exact left_of HK1.out HBG.out HB6.out | exact left_of HK1.out HBG.out (below_trans HB6.out ((Below.refl _ _).drew)) | exact left_of HK1.out HBG.out (below_trans HB6.out (below_drewN' _ _ _))⟩
set_option maxHeartbeats 2000000 in
set_option maxRecDepth 100000 in
theorem told8 (g base : Nat) (nm : ByteArray) (n k : Int) (a : Option Addr) (len cap : Nat) (bs : List (BitVec 8)) (m : Int) (w : World) (hk : KW w g base (.slice none 0 0) (.slice none 0 0) (.slice none 0 0) (.slice none 0 0)) (hr : Rd w a len bs) (hl : len ≤ 140737488351232) :
    Calls Try.prog 17 #[.pointer (some ⟨g, 0, none⟩), .agg #[.int .i64 8, .string nm, .int .i64 n, .int .i64 k, .slice a len cap, .int .u32 m]] w fun e w' => e = .returned (.bool true) ∧ Left w g w' := by
  have HK := hide hk
  have HR := hide hr
  have HGL : Hid (g < w.heap.size) := by have h1 := hk.2.1; have h2 := hk.2.2; show _ < _; omega
  clear hk hr
  obtain ⟨x, hx⟩ : ∃ x, w.heap.size = x := ⟨_, rfl⟩
  have HX := hide hx
  obtain ⟨w1, hw1⟩ : ∃ w1, w.alloc (.cells #[.int .i64 8, .string nm, .int .i64 n, .int .i64 k, .slice a len cap, .int .u32 m] 49) = w1 := ⟨_, rfl⟩
  have HSB : Hid (SB w1 x 8 nm n k (.slice a len cap) m) := by rw [← hw1, ← hx]; exact heap_alloc_new _ _
  have HB1 : Hid (Below w.heap.size w w1) := by rw [← hw1]; exact (Below.refl _ _).alloc (Nat.le_refl _) _
  have HK1 := hide (HK.out.grown (below_grown HB1.out) (by simp))
  have HBG : Hid (Below g w w1) := HB1.out.mono (by have := HGL.out; omega)
  have HXS : Hid (x < w1.heap.size) := HSB.out.lt
  have HGS : Hid (g < w1.heap.size) := by have h1 := HGL.out; have h2 := HXS.out; show _ < _; rw [HX.out] at h1; omega
  obtain ⟨q0, q1, q2, q3, q4, q5⟩ := HSB.out.cells
  obtain ⟨k0, k1, k2, k3, k4, k5⟩ := HK1.out.cells
  go_enter Try.func17, Try.ntmps17
  go_wp2_with fail
  go_region_held (fun V => V.cell? ⟨g, 0, none⟩ = some (.pointer none) ∧ V.cell? ⟨g, 1, none⟩ = some (.pointer none) ∧ V.cell? ⟨x, 1, none⟩ = some (.string nm) ∧ V.cell? ⟨x, 2, none⟩ = some (.int .i64 n) ∧ V.cell? ⟨x, 5, none⟩ = some (.int .u32 m)) (go_keep) (first
    | (go_at_call 50; refine (flip_nil _ _ _ _).mono ?_; rintro e w6 ⟨rfl, hbx⟩; have hbb := below_trans ((Below.refl w1.heap.size w1).drew) hbx; have HB6 := hide hbb; have w6g0 : w6.cell? ⟨g, 0, none⟩ = some (.pointer none) := (hbb.cell (p := ⟨g, 0, none⟩) HGS.out).trans k0; have w6g1 : w6.cell? ⟨g, 1, none⟩ = some (.pointer none) := (hbb.cell (p := ⟨g, 1, none⟩) HGS.out).trans k1; have w6x1 : w6.cell? ⟨x, 1, none⟩ = some (.string nm) := (hbb.cell (p := ⟨x, 1, none⟩) HXS.out).trans q1; have w6x2 : w6.cell? ⟨x, 2, none⟩ = some (.int .i64 n) := (hbb.cell (p := ⟨x, 2, none⟩) HXS.out).trans q2; have w6x5 : w6.cell? ⟨x, 5, none⟩ = some (.int .u32 m) := (hbb.cell (p := ⟨x, 5, none⟩) HXS.out).trans q5; clear hbx hbb)
    | (go_at_call 51; refine (refFlip_nil _ _ _ _).mono ?_; rintro e w7 ⟨rfl, rfl⟩))
  go_wp2_with fail
  go_ret
  exact ⟨rfl, by first | exact left_of HK1.out HBG.out HB6.out | exact left_of HK1.out HBG.out (below_trans HB6.out ((Below.refl _ _).drew)) | exact left_of HK1.out HBG.out (below_trans HB6.out (below_drewN' _ _ _))⟩
end Go.Proofs.Ytndodbfhigejfac.Sn
