/-
  The document's own: a book with a task charged.
-/
import Derived.Test.YtgpfabblmoffiaaDoorLgR5
namespace Go.Proofs.YtgpfabblmoffiaaDoor.Lg
open Go.ChangeShapes Go.WideShapes Go.ChangeAt Go.RowKit
open Go.Proofs.YtgpfabblmoffiaaDoor.Base Go.Proofs.YtgpfabblmoffiaaDoor.Rf
set_option linter.unusedVariables false
set_option maxHeartbeats 4000000 in
set_option maxRecDepth 100000 in
theorem charged_any (b : Bk) (K i : Int) (a1 a2 : Option Addr) (n1 c1 n2 c2 : Nat) (w : World) (hi : Inn w b a1 n1 c1 a2 n2 c2) (hth : thr b K i = true) (hcc : 0 ≤ (tsk b K i).c ∧ (tsk b K i).c ≤ 1000) (hn1 : n1 ≤ 1000000000) (hn2 : n2 ≤ 1000000000) :
    Calls Tryd.prog 62 #[.agg #[.int .i64 b.t, .slice a1 n1 c1, .slice a2 n2 c2, .bool b.f], .agg #[.int .i64 K, .int .i64 i]] w fun e w' => ∃ a3 c3 a4 c4, e = .returned (.agg #[.int .i64 b.t, .slice a3 n1 c3, .slice a4 n2 c4, .bool (decide ((tsk b K i).c + 1 = b.t))]) ∧ Ans w' w.heap.size w'.heap.size a3 n1 c3 (chg b K i).m a4 n2 c4 (chg b K i).r ∧ Below w.heap.size w w' := by
  obtain ⟨w1, w2, g, q, hw1, hw2, hg, hq, HC, HI, HB, HGQ0⟩ := box_bt b.t (.slice a1 n1 c1) (.slice a2 n2 c2) b.f K i w
  obtain ⟨w3, hw3⟩ : ∃ w3, w2.alloc (.cells #[.int .i64 0, .slice none 0 0, .slice none 0 0, .bool false] 26) = w3 := ⟨_, rfl⟩
  have hb3 : Below w2.heap.size w2 w3 := by rw [← hw3]; exact (Below.refl _ _).alloc (Nat.le_refl _) _
  have hR3 : BC w3 w2.heap.size 0 (.slice none 0 0) (.slice none 0 0) false := by rw [← hw3]; exact bc_new _ _ _ _ _
  have HB3 : Hid (Below w.heap.size w w3) := below_trans HB.out hb3
  have HC3 := hide (HC.out.below hb3)
  have HI3 := hide (HI.out.below hb3)
  have HR3 := hide hR3
  obtain ⟨r, hr⟩ : ∃ r, w2.heap.size = r := ⟨_, rfl⟩
  rw [hr] at HR3
  have HGQ : Hid (w.heap.size = g ∧ g < q ∧ q < r ∧ r < w3.heap.size) := ⟨hg, HGQ0.out.1, by have := HGQ0.out.2; omega, HR3.out.lt⟩
  clear hR3 hb3
  have HIN := hide hi
  have HTH := hide hth
  have HAT := hide (at_any b K i a1 a2 n1 c1 n2 c2 w3 (hi.r1.below HB3.out) (hi.r2.below HB3.out) hth)
  clear hi hth
  unfold chg
  obtain ⟨x, hx⟩ : ∃ x, tsk b K i = x := ⟨_, rfl⟩
  rw [hx] at HAT hcc ⊢
  clear hx
  obtain ⟨xs, xa, xc⟩ := x
  simp only at HAT hcc ⊢
  obtain ⟨hc0, hc1⟩ := hcc
  have x0 := HC3.out.c0
  have x1 := HC3.out.c1
  have x2 := HC3.out.c2
  have x3 := HC3.out.c3
  have q0 := HI3.out.c0
  have q1 := HI3.out.c1
  go_enter Tryd.func62, Tryd.ntmps62
  go_wp2_with fail
  refine HAT.out.mono ?_
  clear hw1 hw2 hw3 hg hq hr x0 x1 x2 x3 q0 q1
  rintro e w4 ⟨rfl, hb4⟩
  obtain ⟨w5, hw5⟩ : ∃ w5, w4.alloc (.cells #[.int .i64 xs, .int .i64 xa, .int .i64 xc] 43) = w5 := ⟨_, rfl⟩
  have hb5 : Below w4.heap.size w4 w5 := by rw [← hw5]; exact (Below.refl _ _).alloc (Nat.le_refl _) _
  have hT5 : TC w5 w4.heap.size ⟨xs, xa, xc⟩ := by rw [← hw5]; exact tc_new w4 ⟨xs, xa, xc⟩
  have HB35 := hide (below_trans hb4 hb5)
  obtain ⟨p, hp⟩ : ∃ p, w4.heap.size = p := ⟨_, rfl⟩
  rw [hp] at hT5
  have HT5 := hide hT5
  have HP : Hid (w3.heap.size ≤ p ∧ p < w5.heap.size) := ⟨by rw [← hp]; exact hb4.size, hT5.lt⟩
  clear hT5 hb4 hb5
  have t0 := HT5.out.c0
  have tz0 := HT5.out.fz 0
  obtain ⟨w6, hw6⟩ : ∃ w6, w5.setCell ⟨p, 0, none⟩ (.int .i64 0) = w6 := ⟨_, rfl⟩
  have HT6 : Hid (TC w6 p ⟨0, xa, xc⟩) := by rw [← hw6]; show _ = _; rw [heap_setCell_same _ _ 0 _ _ _ HT5.out]; rfl
  have HK6 : Hid (Kp (fun j => j = p) w5 w6) := by rw [← hw6]; exact kp_cell _ _ _ _
  have t2 := HT6.out.c2
  have tz2 := HT6.out.fz 2
  obtain ⟨w7, hw7⟩ : ∃ w7, w6.setCell ⟨p, 2, none⟩ (.int .i64 (xc + 1)) = w7 := ⟨_, rfl⟩
  have HT7 : Hid (TC w7 p ⟨0, xa, xc + 1⟩) := by rw [← hw7]; show _ = _; rw [heap_setCell_same _ _ 2 _ _ _ HT6.out]; rfl
  have HK7 : Hid (Kp (fun j => j = p) w5 w7) := HK6.out.trans (by rw [← hw7]; exact kp_cell _ _ _ _) (fun i e _ => e)
  have HB7 : Hid (Below w.heap.size w w7) := HK7.out.below (below_trans HB3.out HB35.out) (fun i e => by have := HP.out; have := HGQ.out; omega) (by have := HB3.out.size; have := HB35.out.size; omega)
  have HC7 := hide ((HC3.out.below HB35.out).kp HK7.out (by have := HP.out; have := HGQ.out; omega))
  have HI7 := hide ((HI3.out.below HB35.out).kp HK7.out (by have := HP.out; have := HGQ.out; omega))
  have HR7 := hide ((HR3.out.below HB35.out).kp HK7.out (by have := HP.out; have := HGQ.out; omega))
  have HW7 : Hid (w5.heap.size ≤ w7.heap.size) := HK7.out.size
  have HWI := hide (with_any b K i ⟨0, xa, xc + 1⟩ a1 a2 n1 c1 n2 c2 w7 (HIN.out.below HB7.out) HTH.out hn1 hn2)
  have x0 := HC7.out.c0
  have x1 := HC7.out.c1
  have x2 := HC7.out.c2
  have x3 := HC7.out.c3
  have q0 := HI7.out.c0
  have q1 := HI7.out.c1
  have s0 := HT7.out.c0
  have s1 := HT7.out.c1
  have s2 := HT7.out.c2
  go_wp2_with fail
  refine HWI.out.mono ?_
  clear hw5 hw6 hw7 hp x0 x1 x2 x3 q0 q1 s0 s1 s2 t0 tz0 t2 tz2
  rintro e w8 ⟨a3, c3, a4, c4, rfl, hA8, hb8⟩
  obtain ⟨w9, hw9⟩ : ∃ w9, w8.alloc (.cells #[.int .i64 b.t, .slice a3 n1 c3, .slice a4 n2 c4, .bool b.f] 26) = w9 := ⟨_, rfl⟩
  have hb9 : Below w8.heap.size w8 w9 := by rw [← hw9]; exact (Below.refl _ _).alloc (Nat.le_refl _) _
  have HS9 : Hid (BC w9 w8.heap.size b.t (.slice a3 n1 c3) (.slice a4 n2 c4) b.f) := by rw [← hw9]; exact bc_new _ _ _ _ _
  have HB79 := hide (below_trans hb8 hb9)
  have HA9 := hide (hA8.below hb9)
  have HC9 := hide (HC7.out.below HB79.out)
  have HT9 := hide (HT7.out.below HB79.out)
  have HR9 := hide (HR7.out.below HB79.out)
  obtain ⟨s, hs⟩ : ∃ s, w8.heap.size = s := ⟨_, rfl⟩
  rw [hs] at HS9
  have HSS : Hid (w8.heap.size = s ∧ w7.heap.size ≤ s) := ⟨hs, by rw [← hs]; exact hb8.size⟩
  clear hA8 hb8 hb9
  obtain ⟨D, hD⟩ : ∃ D, (xc + 1 == b.t) = D := ⟨_, rfl⟩
  have HDD : Hid (decide (xc + 1 = b.t) = D) := by show _ = _; rw [← hD]; by_cases h : xc + 1 = b.t <;> simp [h]
  obtain ⟨w10, hw10⟩ : ∃ w10, w9.setCell ⟨s, 3, none⟩ (.bool D) = w10 := ⟨_, rfl⟩
  have HK10 : Hid (Kp (fun j => j = s) w9 w10) := by rw [← hw10]; exact kp_cell _ _ _ _
  have HS10 : Hid (BC w10 s b.t (.slice a3 n1 c3) (.slice a4 n2 c4) D) := by rw [← hw10]; exact HS9.out.set3 D
  have HR10 := hide (HR9.out.kp HK10.out (by have := HSS.out; have := HP.out; have := HGQ.out; have := HW7.out; omega))
  have x0 := HC9.out.c0
  have t2 := HT9.out.c2
  have s3 := HS9.out.c3
  have sz3 := HS9.out.fz 3
  have v0 := HS10.out.c0
  have v1 := HS10.out.c1
  have v2 := HS10.out.c2
  have v3 := HS10.out.c3
  have r0 := HR10.out.c0
  have r1 := HR10.out.c1
  have r2 := HR10.out.c2
  have r3 := HR10.out.c3
  have rz0 := HR10.out.fz 0
  have rz1 := HR10.out.fz 1
  have rz2 := HR10.out.fz 2
  have rz3 := HR10.out.fz 3
  go_wp2_with fail
  have hk := kp_four w10 r b.t (.slice a3 n1 c3) (.slice a4 n2 c4) D
  have hgq := HGQ.out
  have hpp := HP.out
  have hss := HSS.out
  have hw7 := HW7.out
  refine bodyPost_ret (bc_ret rfl _ _ r b.t _ _ D rfl (HR10.out.set4 b.t (.slice a3 n1 c3) (.slice a4 n2 c4) D)) rfl ?_
  have hA := ((HA9.out.kp HK10.out (fun i e => .inr (by have h2 : i = s := e; omega))).kp hk (fun i e => .inl (by have h2 : i = r := e; omega)))
  rw [HDD.out]
  refine ⟨_, _, _, _, rfl, ans_mono hA HB7.out.size (Nat.le_trans (by have := HK10.out.size; have h9 : s < w9.heap.size := HS9.out.lt; omega) hk.size), hk.below (HK10.out.below (below_trans HB7.out HB79.out) (fun i e => by have h2 : i = s := e; omega) (by have := HB79.out.size; have := HB7.out.size; omega)) (fun i e => by have h2 : i = r := e; omega) (by have := HK10.out.size; have := HB79.out.size; have := HB7.out.size; omega)⟩
end Go.Proofs.YtgpfabblmoffiaaDoor.Lg
