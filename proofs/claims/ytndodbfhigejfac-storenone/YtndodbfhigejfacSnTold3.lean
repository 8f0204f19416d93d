/-
  One step on nil stores: both answer the same (lists and readings).
-/
import Derived.Test.YtndodbfhigejfacSnTold2
namespace Go.Proofs.Ytndodbfhigejfac.Sn
open Go.ChangeShapes Go.WideShapes Go.ChangeAt Go.RowKit
open Go.Proofs.Ytndodbfhigejfac.Base
set_option linter.unusedVariables false
set_option maxHeartbeats 2000000 in
set_option maxRecDepth 100000 in
theorem told6 (g base : Nat) (nm : ByteArray) (n k : Int) (a : Option Addr) (len cap : Nat) (bs : List (BitVec 8)) (m : Int) (w : World) (hk : KW w g base (.slice none 0 0) (.slice none 0 0) (.slice none 0 0) (.slice none 0 0)) (hr : Rd w a len bs) (hl : len ≤ 140737488351232) :
    Calls Try.prog 17 #[.pointer (some ⟨g, 0, none⟩), .agg #[.int .i64 6, .string nm, .int .i64 n, .int .i64 k, .slice a len cap, .int .u32 m]] w fun e w' => e = .returned (.bool true) ∧ Left w g w' := by
  have HK := hide hk
  have HR := hide hr
  have HGL : Hid (g < w.heap.size) := by have h1 := hk.2.1; have h2 := hk.2.2; show _ < _; omega
  clear hk hr
  obtain ⟨x, hx⟩ : ∃ x, w.heap.size = x := ⟨_, rfl⟩
  have HX := hide hx
  obtain ⟨w1, hw1⟩ : ∃ w1, w.alloc (.cells #[.int .i64 6, .string nm, .int .i64 n, .int .i64 k, .slice a len cap, .int .u32 m] 49) = w1 := ⟨_, rfl⟩
  have HSB : Hid (SB w1 x 6 nm n k (.slice a len cap) m) := by rw [← hw1, ← hx]; exact heap_alloc_new _ _
  have HB1 : Hid (Below w.heap.size w w1) := by rw [← hw1]; exact (Below.refl _ _).alloc (Nat.le_refl _) _
  have HK1 := hide (HK.out.grown (below_grown HB1.out) (by simp))
  have HBG : Hid (Below g w w1) := HB1.out.mono (by have := HGL.out; omega)
  have HXS : Hid (x < w1.heap.size) := HSB.out.lt
  have HGS : Hid (g < w1.heap.size) := by have h1 := HGL.out; have h2 := HXS.out; show _ < _; rw [HX.out] at h1; omega
  obtain ⟨q0, q1, q2, q3, q4, q5⟩ := HSB.out.cells
  obtain ⟨k0, k1, k2, k3, k4, k5⟩ := HK1.out.cells
  go_enter Try.func17, Try.ntmps17
  go_wp2_with fail
  go_quiet ((go_at_call 16; exact Calls.quiet_of_same (list_nil _ _)))
  obtain ⟨w8, hw8⟩ : ∃ v, w1.drewN nq = v := ⟨_, rfl⟩
  have B1 : Hid (Below w1.heap.size w1 w8) := by rw [← hw8]; exact below_drewN' _ _ _
  have K1 := hide (HK1.out.grown (below_grown B1.out) (by simp))
  have S1 := hide (HSB.out.below B1.out)
  have G1 : Hid (Below g w w8) := HBG.out.trans (B1.out.mono (by have h1 := HK1.out.2.1; have h2 := HK1.out.2.2; omega))
  obtain ⟨u10, u11, u12, u13, u14, u15⟩ := S1.out.cells
  obtain ⟨v10, v11, v12, v13, v14, v15⟩ := K1.out.cells
  rw [hw8]
  clear hw8
  clear q0 q1 q2 q3 q4 q5 k0 k1 k2 k3 k4 k5 B1
  go_wp2_with fail
  go_quiet ((go_at_call 16; exact Calls.quiet_of_same (list_nil _ _)))
  obtain ⟨w9, hw9⟩ : ∃ v, w8.drewN nq = v := ⟨_, rfl⟩
  have B2 : Hid (Below w8.heap.size w8 w9) := by rw [← hw9]; exact below_drewN' _ _ _
  have K2 := hide (K1.out.grown (below_grown B2.out) (by simp))
  have S2 := hide (S1.out.below B2.out)
  have G2 : Hid (Below g w w9) := G1.out.trans (B2.out.mono (by have h1 := K1.out.2.1; have h2 := K1.out.2.2; omega))
  obtain ⟨u20, u21, u22, u23, u24, u25⟩ := S2.out.cells
  obtain ⟨v20, v21, v22, v23, v24, v25⟩ := K2.out.cells
  rw [hw9]
  clear hw9
  clear u10 u11 u12 u13 u14 u15 v10 v11 v12 v13 v14 v15 B2
  go_wp2_with fail
  go_quiet ((go_at_call 46; exact Calls.quiet_of_same (refList_nil _ _)))
  obtain ⟨w10, hw10⟩ : ∃ v, w9.drewN nq = v := ⟨_, rfl⟩
  have B3 : Hid (Below w9.heap.size w9 w10) := by rw [← hw10]; exact below_drewN' _ _ _
  have K3 := hide (K2.out.grown (below_grown B3.out) (by simp))
  have S3 := hide (S2.out.below B3.out)
  have G3 : Hid (Below g w w10) := G2.out.trans (B3.out.mono (by have h1 := K2.out.2.1; have h2 := K2.out.2.2; omega))
  obtain ⟨u30, u31, u32, u33, u34, u35⟩ := S3.out.cells
  obtain ⟨v30, v31, v32, v33, v34, v35⟩ := K3.out.cells
  rw [hw10]
  clear hw10
  clear u20 u21 u22 u23 u24 u25 v20 v21 v22 v23 v24 v25 B3 u30 u31 u32 u33 u34 u35 v30 v31 v32 v33 v34 v35
  have HKB := hide (keepList_any g base 0 _ _ _ _ w10 K3.out (two_nil _ _ _) (by omega))
  go_wp2_with (first
    | (go_at_call 47; refine (sameList_nil _).mono ?_; rintro e w11 ⟨rfl, rfl⟩)
    | (go_at_call 48; refine HKB.out.mono ?_; rintro e w12 ⟨d3, d5, rfl, hk12, ht12, hb12⟩; have HK12 := hide hk12; have HBG12 := hide (G3.out.trans hb12); have HKC := hide (keepList_any g base 1 _ _ _ _ w12 hk12 ht12 (by omega)); clear hk12 ht12 hb12)
    | (go_at_call 48; refine HKC.out.mono ?_; rintro e w13 ⟨e3, e5, rfl, hk13, ht13, hb13⟩; have HK13 := hide hk13; have HBG13 := hide (HBG12.out.trans hb13); clear hk13 ht13 hb13))
  go_ret
  exact ⟨rfl, left_kw HK13.out HBG13.out⟩
set_option maxHeartbeats 2000000 in
set_option maxRecDepth 100000 in
theorem told3 (g base : Nat) (nm : ByteArray) (n k : Int) (a : Option Addr) (len cap : Nat) (bs : List (BitVec 8)) (m : Int) (w : World) (hk : KW w g base (.slice none 0 0) (.slice none 0 0) (.slice none 0 0) (.slice none 0 0)) (hr : Rd w a len bs) (hl : len ≤ 140737488351232) :
    Calls Try.prog 17 #[.pointer (some ⟨g, 0, none⟩), .agg #[.int .i64 3, .string nm, .int .i64 n, .int .i64 k, .slice a len cap, .int .u32 m]] w fun e w' => e = .returned (.bool true) ∧ Left w g w' := by
  have HK := hide hk
  have HR := hide hr
  have HGL : Hid (g < w.heap.size) := by have h1 := hk.2.1; have h2 := hk.2.2; show _ < _; omega
  clear hk hr
  obtain ⟨x, hx⟩ : ∃ x, w.heap.size = x := ⟨_, rfl⟩
  have HX := hide hx
  obtain ⟨w1, hw1⟩ : ∃ w1, w.alloc (.cells #[.int .i64 3, .string nm, .int .i64 n, .int .i64 k, .slice a len cap, .int .u32 m] 49) = w1 := ⟨_, rfl⟩
  have HSB : Hid (SB w1 x 3 nm n k (.slice a len cap) m) := by rw [← hw1, ← hx]; exact heap_alloc_new _ _
  have HB1 : Hid (Below w.heap.size w w1) := by rw [← hw1]; exact (Below.refl _ _).alloc (Nat.le_refl _) _
  have HK1 := hide (HK.out.grown (below_grown HB1.out) (by simp))
  have HBG : Hid (Below g w w1) := HB1.out.mono (by have := HGL.out; omega)
  have HXS : Hid (x < w1.heap.size) := HSB.out.lt
  have HGS : Hid (g < w1.heap.size) := by have h1 := HGL.out; have h2 := HXS.out; show _ < _; rw [HX.out] at h1; omega
  obtain ⟨q0, q1, q2, q3, q4, q5⟩ := HSB.out.cells
  obtain ⟨k0, k1, k2, k3, k4, k5⟩ := HK1.out.cells
  go_enter Try.func17, Try.ntmps17
  go_wp2_with fail
  go_region_held (fun V => V.cell? ⟨g, 0, none⟩ = some (.pointer none) ∧ V.cell? ⟨x, 1, none⟩ = some (.string nm) ∧ V.cell? ⟨x, 2, none⟩ = some (.int .i64 n) ∧ V.cell? ⟨x, 3, none⟩ = some (.int .i64 k)) (go_keep) (first
    | (go_at_call 14; refine (read_nil _ _ _ _).mono ?_; rintro e w6 ⟨rfl, hbx⟩; have hbb := below_trans ((Below.refl w1.heap.size w1).drew) hbx; have HB6 := hide hbb; have w6g0 : w6.cell? ⟨g, 0, none⟩ = some (.pointer none) := (hbb.cell (p := ⟨g, 0, none⟩) HGS.out).trans k0; have w6g1 : w6.cell? ⟨g, 1, none⟩ = some (.pointer none) := (hbb.cell (p := ⟨g, 1, none⟩) HGS.out).trans k1; have w6x1 : w6.cell? ⟨x, 1, none⟩ = some (.string nm) := (hbb.cell (p := ⟨x, 1, none⟩) HXS.out).trans q1; have w6x2 : w6.cell? ⟨x, 2, none⟩ = some (.int .i64 n) := (hbb.cell (p := ⟨x, 2, none⟩) HXS.out).trans q2; have w6x3 : w6.cell? ⟨x, 3, none⟩ = some (.int .i64 k) := (hbb.cell (p := ⟨x, 3, none⟩) HXS.out).trans q3; clear hbx hbb))
  all_goals
    go_wp2_with fail
    go_quiet ((go_at_call 40; exact Calls.quiet_of_same (refRead_nil _ _ _ _)))
    obtain ⟨w8, hw8⟩ : ∃ w8, w6.drewN nq = w8 := ⟨_, rfl⟩
    have HB8 : Hid (Below w1.heap.size w1 w8) := by rw [← hw8]; exact below_trans HB6.out (below_drewN' _ _ _)
    have HK8 := hide (HK1.out.grown (below_grown HB8.out) (by simp))
    have HS8 := hide (HSB.out.below HB8.out)
    have HBG8 : Hid (Below g w w8) := HBG.out.trans (HB8.out.mono (by have := HGS.out; omega))
    have HXS8 : Hid (x < w8.heap.size) := HS8.out.lt
    have HGS8 : Hid (g < w8.heap.size) := Nat.lt_of_lt_of_le HGS.out HB8.out.size
    obtain ⟨Q0, Q1, Q2, Q3, Q4, Q5⟩ := HS8.out.cells
    obtain ⟨K0, K1, K2, K3, K4, K5⟩ := HK8.out.cells
    rw [hw8]
    clear hw8 w6g0 w6g1 w6x1 w6x2 w6x3 HB6 HB8 HK1 HSB HBG HXS HGS q0 q1 q2 q3 q4 q5 k0 k1 k2 k3 k4 k5
    go_wp2_with fail
    go_region_held (fun V => V.cell? ⟨g, 0, none⟩ = some (.pointer none) ∧ V.cell? ⟨x, 1, none⟩ = some (.string nm) ∧ V.cell? ⟨x, 2, none⟩ = some (.int .i64 n) ∧ V.cell? ⟨x, 3, none⟩ = some (.int .i64 k)) (go_keep) (first
      | (go_at_call 14; refine (read_nil _ _ _ _).mono ?_; rintro e w9 ⟨rfl, hbx⟩; have hbb := below_trans ((Below.refl w8.heap.size w8).drew) hbx; have HB9 := hide hbb; have w9g0 : w9.cell? ⟨g, 0, none⟩ = some (.pointer none) := (hbb.cell (p := ⟨g, 0, none⟩) HGS8.out).trans K0; have w9g1 : w9.cell? ⟨g, 1, none⟩ = some (.pointer none) := (hbb.cell (p := ⟨g, 1, none⟩) HGS8.out).trans K1; have w9x1 : w9.cell? ⟨x, 1, none⟩ = some (.string nm) := (hbb.cell (p := ⟨x, 1, none⟩) HXS8.out).trans Q1; have w9x2 : w9.cell? ⟨x, 2, none⟩ = some (.int .i64 n) := (hbb.cell (p := ⟨x, 2, none⟩) HXS8.out).trans Q2; have w9x3 : w9.cell? ⟨x, 3, none⟩ = some (.int .i64 k) := (hbb.cell (p := ⟨x, 3, none⟩) HXS8.out).trans Q3; clear hbx hbb))
    all_goals
      go_wp2_with fail
      go_quiet ((go_at_call 40; exact Calls.quiet_of_same (refRead_nil _ _ _ _)))
      obtain ⟨w10, hw10⟩ : ∃ w10, w9.drewN nq = w10 := ⟨_, rfl⟩
      have HB10 : Hid (Below w8.heap.size w8 w10) := by rw [← hw10]; exact below_trans HB9.out (below_drewN' _ _ _)
      have HK10 := hide (HK8.out.grown (below_grown HB10.out) (by simp))
      have HBG10 : Hid (Below g w w10) := HBG8.out.trans (HB10.out.mono (by have := HGS8.out; omega))
      rw [hw10]
      clear hw10 w9g0 w9g1 w9x1 w9x2 w9x3 HB9 HB10 HK8 HS8 HBG8 HXS8 HGS8 Q0 Q1 Q2 Q3 Q4 Q5 K0 K1 K2 K3 K4 K5
      have HKB := hide (keepBytes_any g base 0 _ _ _ _ w10 HK10.out (two_nil _ _ _) (by omega))
      go_wp2_with (first
        | (go_at_call 15; refine (same_nil _).mono ?_; rintro e w11 ⟨rfl, rfl⟩)
        | (go_at_call 41; refine HKB.out.mono ?_; rintro e w12 ⟨d2, d4, rfl, hk12, ht12, hb12⟩; have HK12 := hide hk12; have HBG12 := hide (HBG10.out.trans hb12); have HKC := hide (keepBytes_any g base 1 _ _ _ _ w12 hk12 ht12 (by omega)); clear hk12 ht12 hb12)
        | (go_at_call 41; refine HKC.out.mono ?_; rintro e w13 ⟨e2, e4, rfl, hk13, ht13, hb13⟩; have HK13 := hide hk13; have HBG13 := hide (HBG12.out.trans hb13); clear hk13 ht13 hb13))
      go_ret
      exact ⟨rfl, left_kw HK13.out HBG13.out⟩
end Go.Proofs.Ytndodbfhigejfac.Sn
