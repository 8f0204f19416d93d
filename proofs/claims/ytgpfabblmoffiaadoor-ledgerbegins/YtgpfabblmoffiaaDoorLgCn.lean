/-
  A change that may not be made.
-/
import Derived.Test.YtgpfabblmoffiaaDoorLgCh
namespace Go.Proofs.YtgpfabblmoffiaaDoor.Lg
open Go.ChangeShapes Go.WideShapes Go.ChangeAt Go.RowKit
open Go.Proofs.YtgpfabblmoffiaaDoor.Base Go.Proofs.YtgpfabblmoffiaaDoor.Rf
set_option linter.unusedVariables false
set_option maxHeartbeats 4000000 in
set_option maxRecDepth 100000 in
theorem changed_no (b : Bk) (K i : Int) (ch : Nat) (a1 a2 : Option Addr) (n1 c1 n2 c2 fn : Nat) (caps : Array Value) (w : World)
    (ht : Tab w) (hr1 : RdT w a1 n1 b.m) (hr2 : RdT w a2 n2 b.r) (hok : Ok b) (hth : thr b K i = true) (hch : ch < 5) (hfa : b.f = true ∨ b.f = false ∧ aft ch (tsk b K i).s = -1) :
    Calls Tryd.prog 39 #[.agg #[.int .i64 b.t, .slice a1 n1 c1, .slice a2 n2 c2, .bool b.f], .agg #[.int .i64 K, .int .i64 i], .int .i64 (ch : Int), .func (.func fn) #[] caps] w fun e w' => e = .returned (.tuple #[.agg #[.int .i64 0, .slice none 0 0, .slice none 0 0, .bool false], .int .i64 192]) ∧ Below w.heap.size w w' := by
  have hgd := good_small (tsk_good hok hth) hok.t2
  have HTA := hide ht
  have HR1 := hide hr1
  have HR2 := hide hr2
  obtain ⟨a, n, c, hlv, hrl, hin, hrw⟩ := lst_at (c1 := c1) (c2 := c2) hr1 hr2 hth
  obtain ⟨h0i, hlt, hkk⟩ := thr_kind hth
  obtain ⟨k, rfl⟩ : ∃ k : Nat, i = (k : Int) := ⟨i.toNat, by omega⟩
  rw [Int.toNat_natCast] at hin hlt
  have hTK : tsk b K (k : Int) = (lst b K).getD k z0 := by unfold tsk; rw [Int.toNat_natCast]
  obtain ⟨bb, oo, rfl, -⟩ := hrl.at k hin
  have HRW := hide hrw
  have HLV := hide hlv
  have HKK := hide hkk
  clear ht hr1 hr2 hrl hrw hlv hkk
  obtain ⟨w1, hw1⟩ : ∃ w1, w.alloc (.cells #[.int .i64 b.t, .slice a1 n1 c1, .slice a2 n2 c2, .bool b.f] 26) = w1 := ⟨_, rfl⟩
  have HB1 : Hid (Below w.heap.size w w1) := by rw [← hw1]; exact (Below.refl _ _).alloc (Nat.le_refl _) _
  have hC1 : BC w1 w.heap.size b.t (.slice a1 n1 c1) (.slice a2 n2 c2) b.f := by rw [← hw1]; exact bc_new _ _ _ _ _
  obtain ⟨w2, hw2⟩ : ∃ w2, w1.alloc (.cells #[.int .i64 K, .int .i64 (k : Int)] 37) = w2 := ⟨_, rfl⟩
  have hb2 : Below w1.heap.size w1 w2 := by rw [← hw2]; exact (Below.refl _ _).alloc (Nat.le_refl _) _
  have hC2 : w2.heap[w1.heap.size]? = some (.cells #[.int .i64 K, .int .i64 (k : Int)] 37) := by rw [← hw2]; exact heap_alloc_new _ _
  obtain ⟨w3, hw3⟩ : ∃ w3, w2.alloc (.cells #[.int .i64 0, .slice none 0 0, .slice none 0 0, .bool false] 26) = w3 := ⟨_, rfl⟩
  have hb3 : Below w2.heap.size w2 w3 := by rw [← hw3]; exact (Below.refl _ _).alloc (Nat.le_refl _) _
  have hC3 : BC w3 w2.heap.size 0 (.slice none 0 0) (.slice none 0 0) false := by rw [← hw3]; exact bc_new _ _ _ _ _
  have HB3 : Hid (Below w.heap.size w w3) := below_trans HB1.out (below_trans hb2 hb3)
  have HC1 := hide ((hC1.below hb2).below hb3)
  have hq1 : w1.heap.size < w2.heap.size := (Array.getElem?_eq_some_iff.1 hC2).1
  have HC2 : Hid (w3.heap[w1.heap.size]? = some (.cells #[.int .i64 K, .int .i64 (k : Int)] 37)) := (hb3.block _ hq1).trans hC2
  have HC3 := hide hC3
  have HLT : Hid (w.heap.size < w1.heap.size ∧ w1.heap.size < w2.heap.size ∧ w2.heap.size < w3.heap.size) := ⟨hC1.lt, hq1, hC3.lt⟩
  clear hC1 hC2 hC3 hb2 hb3 hq1
  obtain ⟨g, hg⟩ : ∃ g, w.heap.size = g := ⟨_, rfl⟩
  obtain ⟨q, hq⟩ : ∃ q, w1.heap.size = q := ⟨_, rfl⟩
  obtain ⟨r, hr⟩ : ∃ r, w2.heap.size = r := ⟨_, rfl⟩
  rw [hg] at HC1
  rw [hq] at HC2
  rw [hr] at HC3
  have HGQ : Hid (w.heap.size = g ∧ g < q ∧ q < r ∧ r < w3.heap.size) := by
    obtain ⟨l1, l2, l3⟩ := HLT.out
    exact ⟨hg, by omega, by omega, by omega⟩
  have HSX : Hid (∀ W, Below w3.heap.size w3 W → (W.cell? ⟨g, 0, none⟩ = some (.int .i64 b.t) ∧ W.cell? ⟨g, 1, none⟩ = some (.slice a1 n1 c1) ∧ W.cell? ⟨g, 2, none⟩ = some (.slice a2 n2 c2) ∧ W.cell? ⟨g, 3, none⟩ = some (.bool b.f)) ∧ (W.cell? ⟨q, 0, none⟩ = some (.int .i64 K) ∧ W.cell? ⟨q, 1, none⟩ = some (.int .i64 (k : Int))) ∧ (W.cell? ⟨bb, oo + k * 3, none⟩ = some (.int .i64 (tsk b K (k : Int)).s) ∧ W.cell? ⟨bb, oo + k * 3 + 1, none⟩ = some (.int .i64 (tsk b K (k : Int)).a) ∧ W.cell? ⟨bb, oo + k * 3 + 2, none⟩ = some (.int .i64 (tsk b K (k : Int)).c))) := fun W hW => by
    have hqW : W.heap[q]? = some (.cells #[.int .i64 K, .int .i64 (k : Int)] 37) := (hW.block q (by have := HGQ.out; omega)).trans HC2.out
    have hb := below_trans HB3.out hW
    obtain ⟨b', o', e', -, e0, e1, e2⟩ := (HRW.out W (HR1.out.below hb) (HR2.out.below hb)).at k hin
    cases e'
    rw [← hTK] at e0 e1 e2
    exact ⟨bc_cells HC1.out hW, ⟨by rw [cell_of_row _ _ _ _ _ _ hqW]; rfl, by rw [cell_of_row _ _ _ _ _ _ hqW]; rfl⟩, e0, e1, e2⟩
  have HLO : Hid (∀ W, Calls Tryd.prog 65 #[.agg #[.int .i64 b.t, .slice a1 n1 c1, .slice a2 n2 c2, .bool b.f], .int .i64 K] W fun e w' => e = .returned (.slice (some ⟨bb, oo, none⟩) n c) ∧ Below W.heap.size W w') := fun W => by
    rw [← HLV.out]; exact listOf_any b.t K _ _ b.f W
  have HIA : Hid (∀ W, Below w.heap.size w W → Calls Tryd.prog 37 #[.int .i64 (ch : Int), .agg #[.int .i64 (tsk b K (k : Int)).s, .int .i64 (tsk b K (k : Int)).a, .int .i64 (tsk b K (k : Int)).c]] W fun e w' => e = .returned (.bool (aft ch (tsk b K (k : Int)).s != -1)) ∧ Below W.heap.size W w') := fun W hW => by
    have h := isAllowed_any ch (tsk b K (k : Int)) W (HTA.out.below hW) hch ⟨hgd.1, hgd.2.1⟩
    exact h
  have hki : (k : Int) < (n : Int) := by omega
  generalize hxx : tsk b K (k : Int) = x at *
  obtain ⟨xs, xa, xc⟩ := x
  simp only at HSX HIA hfa
  have HXX := hide hxx
  obtain ⟨⟨x0, x1, x2, x3⟩, ⟨q0, q1⟩, e0, e1, e2⟩ := HSX.out w3 (Below.refl _ _)
  generalize hbf : b.f = F at *
  clear hxx hTK
  have HE : Hid (∀ W, Below w3.heap.size w3 W → Below w.heap.size w (set4 W r 0 (.slice none 0 0) (.slice none 0 0) false)) := fun W hW => (below_trans HB3.out hW).grown (grown_set4 W r 0 _ _ false) (by have := HB3.out.size; have := hW.size; omega) (fun i e => by cases e; have := HGQ.out; omega)
  go_enter Tryd.func39, Tryd.ntmps39
  rcases hfa with rfl | ⟨rfl, hal⟩
  · go_wp2_with fail
    first | (go_quiet (fail)) | fail
    have HR3 := hide (HC3.out)
    clear hw1 hw2 hw3 hg hq hr
    have r0 := HR3.out.c0
    have r1 := HR3.out.c1
    have r2 := HR3.out.c2
    have r3 := HR3.out.c3
    have z0' := HR3.out.fz 0
    have z1' := HR3.out.fz 1
    have z2' := HR3.out.fz 2
    have z3' := HR3.out.fz 3
    go_wp2_with fail
    refine bodyPost_ret (bc_ret2 rfl _ _ r 0 _ _ false rfl (HR3.out.set4 0 (.slice none 0 0) (.slice none 0 0) false)) rfl ?_
    exact ⟨rfl, HE.out _ (below_drewN' _ _ _)⟩
  · have halb : (aft ch xs != -1) = false := by simpa using hal
    rw [halb] at HIA
    clear hal halb
    go_wp2_with fail
    go_region_held (fun V => (V.cell? ⟨g, 0, none⟩ = some (.int .i64 b.t) ∧ V.cell? ⟨g, 1, none⟩ = some (.slice a1 n1 c1) ∧ V.cell? ⟨g, 2, none⟩ = some (.slice a2 n2 c2) ∧ V.cell? ⟨g, 3, none⟩ = some (.bool false)) ∧ (V.cell? ⟨q, 0, none⟩ = some (.int .i64 K) ∧ V.cell? ⟨q, 1, none⟩ = some (.int .i64 (k : Int))) ∧ (V.cell? ⟨bb, oo + k * 3, none⟩ = some (.int .i64 xs) ∧ V.cell? ⟨bb, oo + k * 3 + 1, none⟩ = some (.int .i64 xa) ∧ V.cell? ⟨bb, oo + k * 3 + 2, none⟩ = some (.int .i64 xc))) (first | go_keep | exact E8.out | exact E9.out) (first
      | (go_at_call 65; refine (HLO.out _).mono ?_; rintro e w6 ⟨rfl, hb6⟩; have HB6 : Hid (Below w3.heap.size w3 w6) := hide ((Below.refl _ _).drew.trans hb6); have E8 := hide (HSX.out _ HB6.out); clear hb6)
      | (go_at_call 37; refine (HIA.out _ (below_trans HB3.out HB6.out)).mono ?_; rintro e w7 ⟨rfl, hb7⟩; have HB7 := hide (below_trans HB6.out hb7); have E9 := hide (HSX.out _ HB7.out); clear hb7))
    have HR3 := hide (HC3.out.below HB7.out)
    clear hw1 hw2 hw3 hg hq hr x0 x1 x2 x3 q0 q1 e0 e1 e2
    have r0 := HR3.out.c0
    have r1 := HR3.out.c1
    have r2 := HR3.out.c2
    have r3 := HR3.out.c3
    have z0' := HR3.out.fz 0
    have z1' := HR3.out.fz 1
    have z2' := HR3.out.fz 2
    have z3' := HR3.out.fz 3
    go_wp2_with fail
    refine bodyPost_ret (bc_ret2 rfl _ _ r 0 _ _ false rfl (HR3.out.set4 0 (.slice none 0 0) (.slice none 0 0) false)) rfl ?_
    exact ⟨rfl, HE.out _ HB7.out⟩
end Go.Proofs.YtgpfabblmoffiaaDoor.Lg
