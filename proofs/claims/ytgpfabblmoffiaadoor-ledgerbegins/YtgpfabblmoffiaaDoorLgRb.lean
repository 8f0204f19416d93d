/-
  The document's own: Begin.
-/
import Derived.Test.YtgpfabblmoffiaaDoorLgR6
import Derived.Test.YtgpfabblmoffiaaDoorLgBe
import Derived.Test.YtgpfabblmoffiaaDoorLgX
namespace Go.Proofs.YtgpfabblmoffiaaDoor.Lg
open Go.ChangeShapes Go.WideShapes Go.ChangeAt Go.RowKit
open Go.Proofs.YtgpfabblmoffiaaDoor.Base Go.Proofs.YtgpfabblmoffiaaDoor.Rf
set_option linter.unusedVariables false
theorem bgnE_zero {b : Bk} {K i : Int} (h : bgnE b K i = 0) : b.f = false ∧ pBeg (tsk b K i).s = true ∧ ¬ (K = 1 ∧ dn b.m = false) ∧ refE b K i = 0 := by
  by_cases h0 : refE b K i = 0
  · by_cases h2 : b.f = true ∨ pBeg (tsk b K i).s = false ∨ K = 1 ∧ dn b.m = false
    · rw [bgnE_state h0 h2] at h; omega
    · refine ⟨?_, ?_, fun e => h2 (.inr (.inr e)), h0⟩
      · cases hb : b.f with
        | true => exact absurd (.inl hb) h2
        | false => rfl
      · cases hb : pBeg (tsk b K i).s with
        | true => rfl
        | false => exact absurd (.inr (.inl hb)) h2
  · rw [bgnE_ref h0] at h; exact absurd h h0
theorem short_bgn (b : Bk) (K i : Int) : Short (bgnB b K i) := by
  unfold bgnB
  by_cases h : bgnE b K i = 0
  · rw [if_pos h]; exact short_put (chk_ref (bgnE_zero h).2.2.2) _ _ _ _
  · rw [if_neg h]; exact short_nob
theorem ref_ok {b : Bk} {K i : Int} (h : refE b K i = 0) : chk b = true ∧ thr b K i = true := by
  rcases Bool.eq_false_or_eq_true (chk b) with hc | hc
  · rcases Bool.eq_false_or_eq_true (thr b K i) with h2 | h2
    · exact ⟨hc, h2⟩
    · rw [refE_task hc h2] at h; omega
  · rw [refE_bad hc] at h; omega
set_option maxHeartbeats 4000000 in
set_option maxRecDepth 100000 in
theorem refBegin_any (b : Bk) (K i : Int) (a1 a2 : Option Addr) (n1 c1 n2 c2 : Nat) (w : World) (hi : Inn w b a1 n1 c1 a2 n2 c2) :
    Calls Tryd.prog 28 #[.agg #[.int .i64 b.t, .slice a1 n1 c1, .slice a2 n2 c2, .bool b.f], .agg #[.int .i64 K, .int .i64 i]] w fun e w' => ∃ a3 n3 c3 a4 n4 c4, e = .returned (.tuple #[.agg #[.int .i64 (bgnB b K i).t, .slice a3 n3 c3, .slice a4 n4 c4, .bool (bgnB b K i).f], .int .i64 (bgnN b K i), .bool (bgnF b K i), .int .i64 (bgnE b K i)]) ∧ Ans w' w.heap.size w'.heap.size a3 n3 c3 (bgnB b K i).m a4 n4 c4 (bgnB b K i).r ∧ Below w.heap.size w w' := by
  obtain ⟨w1, w2, g, q, hw1, hw2, hg, hq, HC, HI, HB, HGQ0⟩ := box_bt b.t (.slice a1 n1 c1) (.slice a2 n2 c2) b.f K i w
  obtain ⟨w3, hw3⟩ : ∃ w3, w2.alloc (.cells #[.int .i64 0, .slice none 0 0, .slice none 0 0, .bool false] 26) = w3 := ⟨_, rfl⟩
  have hb3 : Below w2.heap.size w2 w3 := by rw [← hw3]; exact (Below.refl _ _).alloc (Nat.le_refl _) _
  have hR3 : BC w3 w2.heap.size 0 (.slice none 0 0) (.slice none 0 0) false := by rw [← hw3]; exact bc_new _ _ _ _ _
  have HB3 : Hid (Below w.heap.size w w3) := below_trans HB.out hb3
  have HC3 := hide (HC.out.below hb3)
  have HI3 := hide (HI.out.below hb3)
  have HR3 := hide hR3
  obtain ⟨r, hr⟩ : ∃ r, w2.heap.size = r := ⟨_, rfl⟩
  rw [hr] at HR3
  have HGQ : Hid (w.heap.size = g ∧ g < q ∧ q < r ∧ r < w3.heap.size) := ⟨hg, HGQ0.out.1, by have := HGQ0.out.2; omega, HR3.out.lt⟩
  clear hR3 hb3
  have HIN := hide hi
  have HEN := hide (refusal_any b K i a1 a2 n1 c1 n2 c2 w3 (hi.r1.below HB3.out) (hi.r2.below HB3.out))
  clear hi
  have x0 := HC3.out.c0
  have x1 := HC3.out.c1
  have x2 := HC3.out.c2
  have x3 := HC3.out.c3
  have q0 := HI3.out.c0
  have q1 := HI3.out.c1
  go_enter Tryd.func28, Tryd.ntmps28
  go_wp2_with fail
  refine HEN.out.mono ?_
  clear hw1 hw2 hw3 hg hq hr x0 x1 x2 x3 q0 q1
  rintro e w4 ⟨rfl, hb4⟩
  have HB4 := hide (below_trans HB3.out hb4)
  have HC4 := hide (HC3.out.below hb4)
  have HI4 := hide (HI3.out.below hb4)
  have HR4 := hide (HR3.out.below hb4)
  have HL4 : Hid (w3.heap.size ≤ w4.heap.size) := hb4.size
  clear hb4
  by_cases h0 : refE b K i = 0
  · rw [h0]
    obtain ⟨hc, hth⟩ := ref_ok h0
    have hok := chk_ok hc
    have hgd := good_small (tsk_good hok hth) hok.t2
    have hl1 : n1 ≤ 1000000000 := by rw [← HIN.out.r1.1]; have := hok.m; omega
    have hl2 : n2 ≤ 1000000000 := by rw [← HIN.out.r2.1]; have := hok.r2; omega
    have HAT := hide (at_any b K i a1 a2 n1 c1 n2 c2 w4 (HIN.out.r1.below HB4.out) (HIN.out.r2.below HB4.out) hth)
    have HST := hide (bgnE_state (b := b) (K := K) (i := i) h0)
    have HOKE := hide (bgnE_ok (b := b) (K := K) (i := i) h0)
    have HBB : Hid (bgnE b K i = 0 → bgnB b K i = put b K i ⟨1, (tsk b K i).a + (if (tsk b K i).s = 0 then 1 else 0), (tsk b K i).c⟩ b.f ∧ bgnN b K i = (tsk b K i).a + (if (tsk b K i).s = 0 then 1 else 0) ∧ bgnF b K i = ((tsk b K i).s == 0)) := fun h => by
      unfold bgnB bgnN bgnF bgnS
      rw [if_pos h, if_pos h]
      refine ⟨rfl, rfl, ?_⟩
      rw [h]; by_cases h2 : (tsk b K i).s = 0 <;> simp [h2]
    have HKK := hide (thr_kind hth).2.2
    have HTH := hide hth
    have HNO := hide (fun h => bgn_no (b := b) (K := K) (i := i) h)
    clear hc hok hth h0
    generalize tsk b K i = x at *
    obtain ⟨xs, xa, xc⟩ := x
    simp only at HAT hgd HST HOKE HBB
    have HGDX := hide hgd
    clear hgd
    have x0 := HC4.out.c0
    have x1 := HC4.out.c1
    have x2 := HC4.out.c2
    have x3 := HC4.out.c3
    have q0 := HI4.out.c0
    have q1 := HI4.out.c1
    go_wp2_with fail
    refine HAT.out.mono ?_
    clear x0 x1 x2 x3 q0 q1
    rintro e w5 ⟨rfl, hb5⟩
    obtain ⟨w6, hw6⟩ : ∃ w6, w5.alloc (.cells #[.int .i64 xs, .int .i64 xa, .int .i64 xc] 43) = w6 := ⟨_, rfl⟩
    have hb6 : Below w5.heap.size w5 w6 := by rw [← hw6]; exact (Below.refl _ _).alloc (Nat.le_refl _) _
    have hT6 : TC w6 w5.heap.size ⟨xs, xa, xc⟩ := by rw [← hw6]; exact tc_new w5 ⟨xs, xa, xc⟩
    have HB46 := hide (below_trans hb5 hb6)
    obtain ⟨p, hp⟩ : ∃ p, w5.heap.size = p := ⟨_, rfl⟩
    rw [hp] at hT6
    have HT6 := hide hT6
    have HP : Hid (w4.heap.size ≤ p ∧ p < w6.heap.size) := ⟨by rw [← hp]; exact hb5.size, hT6.lt⟩
    clear hT6 hb5 hb6
    have HB6 := hide (below_trans HB4.out HB46.out)
    have HC6 := hide (HC4.out.below HB46.out)
    have HI6 := hide (HI4.out.below HB46.out)
    have HR6 := hide (HR4.out.below HB46.out)
    have t0 := HT6.out.c0
    have t1 := HT6.out.c1
    have tz0 := HT6.out.fz 0
    have tz1 := HT6.out.fz 1
    have x1 := HC6.out.c1
    have x3 := HC6.out.c3
    have q0 := HI6.out.c0
    have r0 := HR6.out.c0
    have r1 := HR6.out.c1
    have r2 := HR6.out.c2
    have r3 := HR6.out.c3
    have rz0 := HR6.out.fz 0
    have rz1 := HR6.out.fz 1
    have rz2 := HR6.out.fz 2
    have rz3 := HR6.out.fz 3
    have hEND : ∀ W, Below w6.heap.size w6 W → bgnE b K i = 192 → (∃ a3 n3 c3 a4 n4 c4, Ending.returned (.tuple #[.agg #[.int .i64 0, .slice none 0 0, .slice none 0 0, .bool false], .int .i64 0, .bool false, .int .i64 192]) = Ending.returned (.tuple #[.agg #[.int .i64 (bgnB b K i).t, .slice a3 n3 c3, .slice a4 n4 c4, .bool (bgnB b K i).f], .int .i64 (bgnN b K i), .bool (bgnF b K i), .int .i64 (bgnE b K i)]) ∧ Ans (set4 W r 0 (.slice none 0 0) (.slice none 0 0) false) w.heap.size (set4 W r 0 (.slice none 0 0) (.slice none 0 0) false).heap.size a3 n3 c3 (bgnB b K i).m a4 n4 c4 (bgnB b K i).r ∧ Below w.heap.size w (set4 W r 0 (.slice none 0 0) (.slice none 0 0) false)) := fun W hW he => by
      obtain ⟨h1, h2, h3⟩ := HNO.out (by rw [he]; omega)
      rw [h1, h2, h3, he]
      exact ⟨none, 0, 0, none, 0, 0, rfl, ans_nil _ _ _, (kp_four W r 0 (.slice none 0 0) (.slice none 0 0) false).below (below_trans HB6.out hW) (fun i e => by have h1 : i = r := e; have := HGQ.out; omega) (by have := HB6.out.size; have := hW.size; omega)⟩
    have HEND := hide hEND
    clear hEND
    cases hbf : b.f with
    | true =>
      have HE := hide (HST.out (.inl hbf))
      rw [hbf] at x3
      clear hbf
      go_wp2_with fail
      refine bodyPost_ret (bc_ret4 rfl _ _ r 0 _ _ false rfl (HR6.out.set4 0 (.slice none 0 0) (.slice none 0 0) false)) rfl ?_
      exact HEND.out w6 (Below.refl _ _) HE.out
    | false =>
      have HBF := hide hbf
      rw [hbf] at x3
      clear hbf
      have hgd := HGDX.out
      by_cases hs : xs = 0 ∨ xs = 2
      · by_cases hk : K = 1
        · subst hk
          rcases Bool.eq_false_or_eq_true (dn b.m) with hd | hd
          · have HE := hide (HOKE.out (by rintro (h | h | h); rw [HBF.out] at h; cases h; exact absurd h (by simp [pBeg, hs]); rw [hd] at h; cases h.2))
            have hgx := HGDX.out
            rcases hs with rfl | rfl
            · obtain ⟨w7, hw7⟩ : ∃ w7, w6.setCell ⟨p, 1, none⟩ (.int .i64 (xa + 1)) = w7 := ⟨_, rfl⟩
              have HT7 : Hid (TC w7 p ⟨0, xa + 1, xc⟩) := by rw [← hw7]; show _ = _; rw [heap_setCell_same _ _ 1 _ _ _ HT6.out]; rfl
              have HK7 : Hid (Kp (fun j => j = p) w6 w7) := by rw [← hw7]; exact kp_cell _ _ _ _
              have u0 := HT7.out.c0
              have uz0 := HT7.out.fz 0
              obtain ⟨w8, hw8⟩ : ∃ w8, w7.setCell ⟨p, 0, none⟩ (.int .i64 1) = w8 := ⟨_, rfl⟩
              have HT8 : Hid (TC w8 p ⟨1, xa + 1, xc⟩) := by rw [← hw8]; show _ = _; rw [heap_setCell_same _ _ 0 _ _ _ HT7.out]; rfl
              have HK8 : Hid (Kp (fun j => j = p) w6 w8) := HK7.out.trans (by rw [← hw8]; exact kp_cell _ _ _ _) (fun i e _ => e)
              have HB8 : Hid (Below w.heap.size w w8) := HK8.out.below HB6.out (fun i e => by have h2 : i = p := e; have := HP.out; have := HGQ.out; have := HL4.out; omega) HB6.out.size
              have HC8 := hide (HC6.out.kp HK8.out (by have := HP.out; have := HGQ.out; have := HL4.out; omega))
              have HI8 := hide (HI6.out.kp HK8.out (by have := HP.out; have := HGQ.out; have := HL4.out; omega))
              have HR8 := hide (HR6.out.kp HK8.out (by have := HP.out; have := HGQ.out; have := HL4.out; omega))
              have HWI := hide (fun W (hW : Below w8.heap.size w8 W) => with_any b 1 i ⟨1, xa + 1, xc⟩ a1 a2 n1 c1 n2 c2 W (HIN.out.below (below_trans HB8.out hW)) HTH.out hl1 hl2)
              rw [HBF.out] at HC8 HWI
              have y0 := HC8.out.c0
              have y1 := HC8.out.c1
              have y2 := HC8.out.c2
              have y3 := HC8.out.c3
              have j0 := HI8.out.c0
              have j1 := HI8.out.c1
              have s0 := HT8.out.c0
              have s1 := HT8.out.c1
              have s2 := HT8.out.c2
              go_wp2_with (refine (refAll_any a1 n1 c1 b.m _ (HIN.out.r1.below HB6.out)).mono ?_; rw [hd]; rintro e w' ⟨rfl, h⟩; obtain rfl := h.symm)
              go_region_held (fun V => (V.cell? ⟨g, 0, none⟩ = some (.int .i64 b.t) ∧ V.cell? ⟨g, 1, none⟩ = some (.slice a1 n1 c1) ∧ V.cell? ⟨g, 2, none⟩ = some (.slice a2 n2 c2) ∧ V.cell? ⟨g, 3, none⟩ = some (.bool false)) ∧ (V.cell? ⟨q, 0, none⟩ = some (.int .i64 1) ∧ V.cell? ⟨q, 1, none⟩ = some (.int .i64 i)) ∧ (V.cell? ⟨p, 0, none⟩ = some (.int .i64 1) ∧ V.cell? ⟨p, 1, none⟩ = some (.int .i64 (xa + 1)) ∧ V.cell? ⟨p, 2, none⟩ = some (.int .i64 xc))) (first | go_keep | exact E8.out | exact EZ.out) (first | (refine (HWI.out _ ((Below.refl _ _).drew)).mono ?_; clear y0 y1 y2 y3 j0 j1 s0 s1 s2; rintro e w9 ⟨a3, c3, a4, c4, rfl, hA9, hb9⟩; have HA9 := hide hA9; have HB89 : Hid (Below w8.heap.size w8 w9) := hide ((Below.refl _ _).drew.trans hb9); have HR9 := hide (HR8.out.below HB89.out); have HT9 := hide (HT8.out.below HB89.out); have HC9 := hide (HC8.out.below HB89.out); have HI9 := hide (HI8.out.below HB89.out); clear hA9 hb9; have E8 : Hid ((w9.cell? ⟨g, 0, none⟩ = some (.int .i64 b.t) ∧ w9.cell? ⟨g, 1, none⟩ = some (.slice a1 n1 c1) ∧ w9.cell? ⟨g, 2, none⟩ = some (.slice a2 n2 c2) ∧ w9.cell? ⟨g, 3, none⟩ = some (.bool false)) ∧ (w9.cell? ⟨q, 0, none⟩ = some (.int .i64 1) ∧ w9.cell? ⟨q, 1, none⟩ = some (.int .i64 i)) ∧ (w9.cell? ⟨p, 0, none⟩ = some (.int .i64 1) ∧ w9.cell? ⟨p, 1, none⟩ = some (.int .i64 (xa + 1)) ∧ w9.cell? ⟨p, 2, none⟩ = some (.int .i64 xc))) := hide ⟨⟨HC9.out.c0, HC9.out.c1, HC9.out.c2, HC9.out.c3⟩, ⟨HI9.out.c0, HI9.out.c1⟩, HT9.out.c0, HT9.out.c1, HT9.out.c2⟩; have hkz := kp_four w9 r b.t (.slice a3 n1 c3) (.slice a4 n2 c4) false; obtain ⟨wz, hwz⟩ : ∃ wz, (((w9.setCell ⟨r, 0, none⟩ (.int .i64 b.t)).setCell ⟨r, 1, none⟩ (.slice a3 n1 c3)).setCell ⟨r, 2, none⟩ (.slice a4 n2 c4)).setCell ⟨r, 3, none⟩ (.bool false) = wz := ⟨_, rfl⟩; have HWZ : Hid (set4 w9 r b.t (.slice a3 n1 c3) (.slice a4 n2 c4) false = wz) := hide hwz; rw [HWZ.out] at hkz; have HCZ := hide (HC9.out.kp hkz (by have := HGQ.out; omega)); have HIZ := hide (HI9.out.kp hkz (by have := HGQ.out; omega)); have HTZ := hide (HT9.out.kp hkz (by have := HGQ.out; have := HP.out; have := HL4.out; omega)); have EZ : Hid ((wz.cell? ⟨g, 0, none⟩ = some (.int .i64 b.t) ∧ wz.cell? ⟨g, 1, none⟩ = some (.slice a1 n1 c1) ∧ wz.cell? ⟨g, 2, none⟩ = some (.slice a2 n2 c2) ∧ wz.cell? ⟨g, 3, none⟩ = some (.bool false)) ∧ (wz.cell? ⟨q, 0, none⟩ = some (.int .i64 1) ∧ wz.cell? ⟨q, 1, none⟩ = some (.int .i64 i)) ∧ (wz.cell? ⟨p, 0, none⟩ = some (.int .i64 1) ∧ wz.cell? ⟨p, 1, none⟩ = some (.int .i64 (xa + 1)) ∧ wz.cell? ⟨p, 2, none⟩ = some (.int .i64 xc))) := hide ⟨⟨HCZ.out.c0, HCZ.out.c1, HCZ.out.c2, HCZ.out.c3⟩, ⟨HIZ.out.c0, HIZ.out.c1⟩, HTZ.out.c0, HTZ.out.c1, HTZ.out.c2⟩; clear hkz; have y0 := HR9.out.c0; have y1 := HR9.out.c1; have y2 := HR9.out.c2; have y3 := HR9.out.c3; have yz0 := HR9.out.fz 0; have yz1 := HR9.out.fz 1; have yz2 := HR9.out.fz 2; have yz3 := HR9.out.fz 3))
              all_goals
                go_wp2_with fail
                try rw [← HWZ.out]
                have hk := kp_four w9 r b.t (.slice a3 n1 c3) (.slice a4 n2 c4) false
                have hgq := HGQ.out
                have hpp := HP.out
                have hl4 := HL4.out
                have hb6s := HB6.out.size
                have hk8s := HK8.out.size
                have hdr : w8.drew.heap.size = w8.heap.size := rfl
                obtain ⟨hB1, hB2, hB3⟩ := HBB.out HE.out
                refine bodyPost_ret (bc_ret4 rfl _ _ r b.t _ _ _ rfl (HR9.out.set4 b.t (.slice a3 n1 c3) (.slice a4 n2 c4) false)) rfl ?_
                have hA := ans_mono (HA9.out.kp hk (fun i e => .inl (by have h2 : i = r := e; omega))) HB8.out.size hk.size
                rw [hB1, hB2, hB3, HE.out, HBF.out]
                exact ⟨_, _, _, _, _, _, rfl, hA, hk.below (below_trans HB8.out HB89.out) (fun i e => by have h2 : i = r := e; omega) (by have := HB8.out.size; have := HB89.out.size; omega)⟩
            · obtain ⟨w7, hw7⟩ : ∃ w7, w6 = w7 := ⟨_, rfl⟩
              have HT7 : Hid (TC w7 p ⟨2, xa, xc⟩) := by rw [← hw7]; exact HT6.out
              have HK7 : Hid (Kp (fun j => j = p) w6 w7) := by rw [← hw7]; exact Kp.refl _ _
              subst hw7
              have u0 := HT7.out.c0
              have uz0 := HT7.out.fz 0
              obtain ⟨w8, hw8⟩ : ∃ w8, w6.setCell ⟨p, 0, none⟩ (.int .i64 1) = w8 := ⟨_, rfl⟩
              have HT8 : Hid (TC w8 p ⟨1, xa, xc⟩) := by rw [← hw8]; show _ = _; rw [heap_setCell_same _ _ 0 _ _ _ HT7.out]; rfl
              have HK8 : Hid (Kp (fun j => j = p) w6 w8) := HK7.out.trans (by rw [← hw8]; exact kp_cell _ _ _ _) (fun i e _ => e)
              have HB8 : Hid (Below w.heap.size w w8) := HK8.out.below HB6.out (fun i e => by have h2 : i = p := e; have := HP.out; have := HGQ.out; have := HL4.out; omega) HB6.out.size
              have HC8 := hide (HC6.out.kp HK8.out (by have := HP.out; have := HGQ.out; have := HL4.out; omega))
              have HI8 := hide (HI6.out.kp HK8.out (by have := HP.out; have := HGQ.out; have := HL4.out; omega))
              have HR8 := hide (HR6.out.kp HK8.out (by have := HP.out; have := HGQ.out; have := HL4.out; omega))
              have HWI := hide (fun W (hW : Below w8.heap.size w8 W) => with_any b 1 i ⟨1, xa, xc⟩ a1 a2 n1 c1 n2 c2 W (HIN.out.below (below_trans HB8.out hW)) HTH.out hl1 hl2)
              rw [HBF.out] at HC8 HWI
              have y0 := HC8.out.c0
              have y1 := HC8.out.c1
              have y2 := HC8.out.c2
              have y3 := HC8.out.c3
              have j0 := HI8.out.c0
              have j1 := HI8.out.c1
              have s0 := HT8.out.c0
              have s1 := HT8.out.c1
              have s2 := HT8.out.c2
              go_wp2_with (refine (refAll_any a1 n1 c1 b.m _ (HIN.out.r1.below HB6.out)).mono ?_; rw [hd]; rintro e w' ⟨rfl, h⟩; obtain rfl := h.symm)
              go_region_held (fun V => (V.cell? ⟨g, 0, none⟩ = some (.int .i64 b.t) ∧ V.cell? ⟨g, 1, none⟩ = some (.slice a1 n1 c1) ∧ V.cell? ⟨g, 2, none⟩ = some (.slice a2 n2 c2) ∧ V.cell? ⟨g, 3, none⟩ = some (.bool false)) ∧ (V.cell? ⟨q, 0, none⟩ = some (.int .i64 1) ∧ V.cell? ⟨q, 1, none⟩ = some (.int .i64 i)) ∧ (V.cell? ⟨p, 0, none⟩ = some (.int .i64 1) ∧ V.cell? ⟨p, 1, none⟩ = some (.int .i64 (xa)) ∧ V.cell? ⟨p, 2, none⟩ = some (.int .i64 xc))) (first | go_keep | exact E8.out | exact EZ.out) (first | (refine (HWI.out _ ((Below.refl _ _).drew)).mono ?_; clear y0 y1 y2 y3 j0 j1 s0 s1 s2; rintro e w9 ⟨a3, c3, a4, c4, rfl, hA9, hb9⟩; have HA9 := hide hA9; have HB89 : Hid (Below w8.heap.size w8 w9) := hide ((Below.refl _ _).drew.trans hb9); have HR9 := hide (HR8.out.below HB89.out); have HT9 := hide (HT8.out.below HB89.out); have HC9 := hide (HC8.out.below HB89.out); have HI9 := hide (HI8.out.below HB89.out); clear hA9 hb9; have E8 : Hid ((w9.cell? ⟨g, 0, none⟩ = some (.int .i64 b.t) ∧ w9.cell? ⟨g, 1, none⟩ = some (.slice a1 n1 c1) ∧ w9.cell? ⟨g, 2, none⟩ = some (.slice a2 n2 c2) ∧ w9.cell? ⟨g, 3, none⟩ = some (.bool false)) ∧ (w9.cell? ⟨q, 0, none⟩ = some (.int .i64 1) ∧ w9.cell? ⟨q, 1, none⟩ = some (.int .i64 i)) ∧ (w9.cell? ⟨p, 0, none⟩ = some (.int .i64 1) ∧ w9.cell? ⟨p, 1, none⟩ = some (.int .i64 (xa)) ∧ w9.cell? ⟨p, 2, none⟩ = some (.int .i64 xc))) := hide ⟨⟨HC9.out.c0, HC9.out.c1, HC9.out.c2, HC9.out.c3⟩, ⟨HI9.out.c0, HI9.out.c1⟩, HT9.out.c0, HT9.out.c1, HT9.out.c2⟩; have hkz := kp_four w9 r b.t (.slice a3 n1 c3) (.slice a4 n2 c4) false; obtain ⟨wz, hwz⟩ : ∃ wz, (((w9.setCell ⟨r, 0, none⟩ (.int .i64 b.t)).setCell ⟨r, 1, none⟩ (.slice a3 n1 c3)).setCell ⟨r, 2, none⟩ (.slice a4 n2 c4)).setCell ⟨r, 3, none⟩ (.bool false) = wz := ⟨_, rfl⟩; have HWZ : Hid (set4 w9 r b.t (.slice a3 n1 c3) (.slice a4 n2 c4) false = wz) := hide hwz; rw [HWZ.out] at hkz; have HCZ := hide (HC9.out.kp hkz (by have := HGQ.out; omega)); have HIZ := hide (HI9.out.kp hkz (by have := HGQ.out; omega)); have HTZ := hide (HT9.out.kp hkz (by have := HGQ.out; have := HP.out; have := HL4.out; omega)); have EZ : Hid ((wz.cell? ⟨g, 0, none⟩ = some (.int .i64 b.t) ∧ wz.cell? ⟨g, 1, none⟩ = some (.slice a1 n1 c1) ∧ wz.cell? ⟨g, 2, none⟩ = some (.slice a2 n2 c2) ∧ wz.cell? ⟨g, 3, none⟩ = some (.bool false)) ∧ (wz.cell? ⟨q, 0, none⟩ = some (.int .i64 1) ∧ wz.cell? ⟨q, 1, none⟩ = some (.int .i64 i)) ∧ (wz.cell? ⟨p, 0, none⟩ = some (.int .i64 1) ∧ wz.cell? ⟨p, 1, none⟩ = some (.int .i64 (xa)) ∧ wz.cell? ⟨p, 2, none⟩ = some (.int .i64 xc))) := hide ⟨⟨HCZ.out.c0, HCZ.out.c1, HCZ.out.c2, HCZ.out.c3⟩, ⟨HIZ.out.c0, HIZ.out.c1⟩, HTZ.out.c0, HTZ.out.c1, HTZ.out.c2⟩; clear hkz; have y0 := HR9.out.c0; have y1 := HR9.out.c1; have y2 := HR9.out.c2; have y3 := HR9.out.c3; have yz0 := HR9.out.fz 0; have yz1 := HR9.out.fz 1; have yz2 := HR9.out.fz 2; have yz3 := HR9.out.fz 3))
              all_goals
                go_wp2_with fail
                try rw [← HWZ.out]
                have hk := kp_four w9 r b.t (.slice a3 n1 c3) (.slice a4 n2 c4) false
                have hgq := HGQ.out
                have hpp := HP.out
                have hl4 := HL4.out
                have hb6s := HB6.out.size
                have hk8s := HK8.out.size
                have hdr : w8.drew.heap.size = w8.heap.size := rfl
                obtain ⟨hB1, hB2, hB3⟩ := HBB.out HE.out
                rw [show (xa + if (2 : Int) = 0 then (1 : Int) else 0) = xa by simp] at hB1 hB2
                refine bodyPost_ret (bc_ret4 rfl _ _ r b.t _ _ _ rfl (HR9.out.set4 b.t (.slice a3 n1 c3) (.slice a4 n2 c4) false)) rfl ?_
                have hA := ans_mono (HA9.out.kp hk (fun i e => .inl (by have h2 : i = r := e; omega))) HB8.out.size hk.size
                rw [hB1, hB2, hB3, HE.out, HBF.out]
                exact ⟨_, _, _, _, _, _, rfl, hA, hk.below (below_trans HB8.out HB89.out) (fun i e => by have h2 : i = r := e; omega) (by have := HB8.out.size; have := HB89.out.size; omega)⟩
          · have HE := hide (HST.out (.inr (.inr ⟨rfl, hd⟩)))
            rcases hs with rfl | rfl
            · go_wp2_with (refine (refAll_any a1 n1 c1 b.m _ (HIN.out.r1.below HB6.out)).mono ?_; rw [hd]; rintro e w' ⟨rfl, h⟩; obtain rfl := h.symm)
              refine bodyPost_ret (bc_ret4 rfl _ _ r 0 _ _ false rfl (HR6.out.set4 0 (.slice none 0 0) (.slice none 0 0) false)) rfl ?_
              exact HEND.out w6 (Below.refl _ _) HE.out
            · go_wp2_with (refine (refAll_any a1 n1 c1 b.m _ (HIN.out.r1.below HB6.out)).mono ?_; rw [hd]; rintro e w' ⟨rfl, h⟩; obtain rfl := h.symm)
              refine bodyPost_ret (bc_ret4 rfl _ _ r 0 _ _ false rfl (HR6.out.set4 0 (.slice none 0 0) (.slice none 0 0) false)) rfl ?_
              exact HEND.out w6 (Below.refl _ _) HE.out
        · have hkb : (K == 1) = false := by simpa using hk
          have HE := hide (HOKE.out (by rintro (h | h | h); rw [HBF.out] at h; cases h; exact absurd h (by simp [pBeg, hs]); exact hk h.1))
          have hgx := HGDX.out
          rcases hs with rfl | rfl
          · obtain ⟨w7, hw7⟩ : ∃ w7, w6.setCell ⟨p, 1, none⟩ (.int .i64 (xa + 1)) = w7 := ⟨_, rfl⟩
            have HT7 : Hid (TC w7 p ⟨0, xa + 1, xc⟩) := by rw [← hw7]; show _ = _; rw [heap_setCell_same _ _ 1 _ _ _ HT6.out]; rfl
            have HK7 : Hid (Kp (fun j => j = p) w6 w7) := by rw [← hw7]; exact kp_cell _ _ _ _
            have u0 := HT7.out.c0
            have uz0 := HT7.out.fz 0
            obtain ⟨w8, hw8⟩ : ∃ w8, w7.setCell ⟨p, 0, none⟩ (.int .i64 1) = w8 := ⟨_, rfl⟩
            have HT8 : Hid (TC w8 p ⟨1, xa + 1, xc⟩) := by rw [← hw8]; show _ = _; rw [heap_setCell_same _ _ 0 _ _ _ HT7.out]; rfl
            have HK8 : Hid (Kp (fun j => j = p) w6 w8) := HK7.out.trans (by rw [← hw8]; exact kp_cell _ _ _ _) (fun i e _ => e)
            have HB8 : Hid (Below w.heap.size w w8) := HK8.out.below HB6.out (fun i e => by have h2 : i = p := e; have := HP.out; have := HGQ.out; have := HL4.out; omega) HB6.out.size
            have HC8 := hide (HC6.out.kp HK8.out (by have := HP.out; have := HGQ.out; have := HL4.out; omega))
            have HI8 := hide (HI6.out.kp HK8.out (by have := HP.out; have := HGQ.out; have := HL4.out; omega))
            have HR8 := hide (HR6.out.kp HK8.out (by have := HP.out; have := HGQ.out; have := HL4.out; omega))
            have HWI := hide (fun W (hW : Below w8.heap.size w8 W) => with_any b K i ⟨1, xa + 1, xc⟩ a1 a2 n1 c1 n2 c2 W (HIN.out.below (below_trans HB8.out hW)) HTH.out hl1 hl2)
            rw [HBF.out] at HC8 HWI
            have y0 := HC8.out.c0
            have y1 := HC8.out.c1
            have y2 := HC8.out.c2
            have y3 := HC8.out.c3
            have j0 := HI8.out.c0
            have j1 := HI8.out.c1
            have s0 := HT8.out.c0
            have s1 := HT8.out.c1
            have s2 := HT8.out.c2
            go_wp2_with fail
            go_region_held (fun V => (V.cell? ⟨g, 0, none⟩ = some (.int .i64 b.t) ∧ V.cell? ⟨g, 1, none⟩ = some (.slice a1 n1 c1) ∧ V.cell? ⟨g, 2, none⟩ = some (.slice a2 n2 c2) ∧ V.cell? ⟨g, 3, none⟩ = some (.bool false)) ∧ (V.cell? ⟨q, 0, none⟩ = some (.int .i64 K) ∧ V.cell? ⟨q, 1, none⟩ = some (.int .i64 i)) ∧ (V.cell? ⟨p, 0, none⟩ = some (.int .i64 1) ∧ V.cell? ⟨p, 1, none⟩ = some (.int .i64 (xa + 1)) ∧ V.cell? ⟨p, 2, none⟩ = some (.int .i64 xc))) (first | go_keep | exact E8.out | exact EZ.out) (first | (refine (HWI.out _ ((Below.refl _ _).drew)).mono ?_; clear y0 y1 y2 y3 j0 j1 s0 s1 s2; rintro e w9 ⟨a3, c3, a4, c4, rfl, hA9, hb9⟩; have HA9 := hide hA9; have HB89 : Hid (Below w8.heap.size w8 w9) := hide ((Below.refl _ _).drew.trans hb9); have HR9 := hide (HR8.out.below HB89.out); have HT9 := hide (HT8.out.below HB89.out); have HC9 := hide (HC8.out.below HB89.out); have HI9 := hide (HI8.out.below HB89.out); clear hA9 hb9; have E8 : Hid ((w9.cell? ⟨g, 0, none⟩ = some (.int .i64 b.t) ∧ w9.cell? ⟨g, 1, none⟩ = some (.slice a1 n1 c1) ∧ w9.cell? ⟨g, 2, none⟩ = some (.slice a2 n2 c2) ∧ w9.cell? ⟨g, 3, none⟩ = some (.bool false)) ∧ (w9.cell? ⟨q, 0, none⟩ = some (.int .i64 K) ∧ w9.cell? ⟨q, 1, none⟩ = some (.int .i64 i)) ∧ (w9.cell? ⟨p, 0, none⟩ = some (.int .i64 1) ∧ w9.cell? ⟨p, 1, none⟩ = some (.int .i64 (xa + 1)) ∧ w9.cell? ⟨p, 2, none⟩ = some (.int .i64 xc))) := hide ⟨⟨HC9.out.c0, HC9.out.c1, HC9.out.c2, HC9.out.c3⟩, ⟨HI9.out.c0, HI9.out.c1⟩, HT9.out.c0, HT9.out.c1, HT9.out.c2⟩; have hkz := kp_four w9 r b.t (.slice a3 n1 c3) (.slice a4 n2 c4) false; obtain ⟨wz, hwz⟩ : ∃ wz, (((w9.setCell ⟨r, 0, none⟩ (.int .i64 b.t)).setCell ⟨r, 1, none⟩ (.slice a3 n1 c3)).setCell ⟨r, 2, none⟩ (.slice a4 n2 c4)).setCell ⟨r, 3, none⟩ (.bool false) = wz := ⟨_, rfl⟩; have HWZ : Hid (set4 w9 r b.t (.slice a3 n1 c3) (.slice a4 n2 c4) false = wz) := hide hwz; rw [HWZ.out] at hkz; have HCZ := hide (HC9.out.kp hkz (by have := HGQ.out; omega)); have HIZ := hide (HI9.out.kp hkz (by have := HGQ.out; omega)); have HTZ := hide (HT9.out.kp hkz (by have := HGQ.out; have := HP.out; have := HL4.out; omega)); have EZ : Hid ((wz.cell? ⟨g, 0, none⟩ = some (.int .i64 b.t) ∧ wz.cell? ⟨g, 1, none⟩ = some (.slice a1 n1 c1) ∧ wz.cell? ⟨g, 2, none⟩ = some (.slice a2 n2 c2) ∧ wz.cell? ⟨g, 3, none⟩ = some (.bool false)) ∧ (wz.cell? ⟨q, 0, none⟩ = some (.int .i64 K) ∧ wz.cell? ⟨q, 1, none⟩ = some (.int .i64 i)) ∧ (wz.cell? ⟨p, 0, none⟩ = some (.int .i64 1) ∧ wz.cell? ⟨p, 1, none⟩ = some (.int .i64 (xa + 1)) ∧ wz.cell? ⟨p, 2, none⟩ = some (.int .i64 xc))) := hide ⟨⟨HCZ.out.c0, HCZ.out.c1, HCZ.out.c2, HCZ.out.c3⟩, ⟨HIZ.out.c0, HIZ.out.c1⟩, HTZ.out.c0, HTZ.out.c1, HTZ.out.c2⟩; clear hkz; have y0 := HR9.out.c0; have y1 := HR9.out.c1; have y2 := HR9.out.c2; have y3 := HR9.out.c3; have yz0 := HR9.out.fz 0; have yz1 := HR9.out.fz 1; have yz2 := HR9.out.fz 2; have yz3 := HR9.out.fz 3))
            all_goals
              go_wp2_with fail
              try rw [← HWZ.out]
              have hk := kp_four w9 r b.t (.slice a3 n1 c3) (.slice a4 n2 c4) false
              have hgq := HGQ.out
              have hpp := HP.out
              have hl4 := HL4.out
              have hb6s := HB6.out.size
              have hk8s := HK8.out.size
              have hdr : w8.drew.heap.size = w8.heap.size := rfl
              obtain ⟨hB1, hB2, hB3⟩ := HBB.out HE.out
              refine bodyPost_ret (bc_ret4 rfl _ _ r b.t _ _ _ rfl (HR9.out.set4 b.t (.slice a3 n1 c3) (.slice a4 n2 c4) false)) rfl ?_
              have hA := ans_mono (HA9.out.kp hk (fun i e => .inl (by have h2 : i = r := e; omega))) HB8.out.size hk.size
              rw [hB1, hB2, hB3, HE.out, HBF.out]
              exact ⟨_, _, _, _, _, _, rfl, hA, hk.below (below_trans HB8.out HB89.out) (fun i e => by have h2 : i = r := e; omega) (by have := HB8.out.size; have := HB89.out.size; omega)⟩
          · obtain ⟨w7, hw7⟩ : ∃ w7, w6 = w7 := ⟨_, rfl⟩
            have HT7 : Hid (TC w7 p ⟨2, xa, xc⟩) := by rw [← hw7]; exact HT6.out
            have HK7 : Hid (Kp (fun j => j = p) w6 w7) := by rw [← hw7]; exact Kp.refl _ _
            subst hw7
            have u0 := HT7.out.c0
            have uz0 := HT7.out.fz 0
            obtain ⟨w8, hw8⟩ : ∃ w8, w6.setCell ⟨p, 0, none⟩ (.int .i64 1) = w8 := ⟨_, rfl⟩
            have HT8 : Hid (TC w8 p ⟨1, xa, xc⟩) := by rw [← hw8]; show _ = _; rw [heap_setCell_same _ _ 0 _ _ _ HT7.out]; rfl
            have HK8 : Hid (Kp (fun j => j = p) w6 w8) := HK7.out.trans (by rw [← hw8]; exact kp_cell _ _ _ _) (fun i e _ => e)
            have HB8 : Hid (Below w.heap.size w w8) := HK8.out.below HB6.out (fun i e => by have h2 : i = p := e; have := HP.out; have := HGQ.out; have := HL4.out; omega) HB6.out.size
            have HC8 := hide (HC6.out.kp HK8.out (by have := HP.out; have := HGQ.out; have := HL4.out; omega))
            have HI8 := hide (HI6.out.kp HK8.out (by have := HP.out; have := HGQ.out; have := HL4.out; omega))
            have HR8 := hide (HR6.out.kp HK8.out (by have := HP.out; have := HGQ.out; have := HL4.out; omega))
            have HWI := hide (fun W (hW : Below w8.heap.size w8 W) => with_any b K i ⟨1, xa, xc⟩ a1 a2 n1 c1 n2 c2 W (HIN.out.below (below_trans HB8.out hW)) HTH.out hl1 hl2)
            rw [HBF.out] at HC8 HWI
            have y0 := HC8.out.c0
            have y1 := HC8.out.c1
            have y2 := HC8.out.c2
            have y3 := HC8.out.c3
            have j0 := HI8.out.c0
            have j1 := HI8.out.c1
            have s0 := HT8.out.c0
            have s1 := HT8.out.c1
            have s2 := HT8.out.c2
            go_wp2_with fail
            go_region_held (fun V => (V.cell? ⟨g, 0, none⟩ = some (.int .i64 b.t) ∧ V.cell? ⟨g, 1, none⟩ = some (.slice a1 n1 c1) ∧ V.cell? ⟨g, 2, none⟩ = some (.slice a2 n2 c2) ∧ V.cell? ⟨g, 3, none⟩ = some (.bool false)) ∧ (V.cell? ⟨q, 0, none⟩ = some (.int .i64 K) ∧ V.cell? ⟨q, 1, none⟩ = some (.int .i64 i)) ∧ (V.cell? ⟨p, 0, none⟩ = some (.int .i64 1) ∧ V.cell? ⟨p, 1, none⟩ = some (.int .i64 (xa)) ∧ V.cell? ⟨p, 2, none⟩ = some (.int .i64 xc))) (first | go_keep | exact E8.out | exact EZ.out) (first | (refine (HWI.out _ ((Below.refl _ _).drew)).mono ?_; clear y0 y1 y2 y3 j0 j1 s0 s1 s2; rintro e w9 ⟨a3, c3, a4, c4, rfl, hA9, hb9⟩; have HA9 := hide hA9; have HB89 : Hid (Below w8.heap.size w8 w9) := hide ((Below.refl _ _).drew.trans hb9); have HR9 := hide (HR8.out.below HB89.out); have HT9 := hide (HT8.out.below HB89.out); have HC9 := hide (HC8.out.below HB89.out); have HI9 := hide (HI8.out.below HB89.out); clear hA9 hb9; have E8 : Hid ((w9.cell? ⟨g, 0, none⟩ = some (.int .i64 b.t) ∧ w9.cell? ⟨g, 1, none⟩ = some (.slice a1 n1 c1) ∧ w9.cell? ⟨g, 2, none⟩ = some (.slice a2 n2 c2) ∧ w9.cell? ⟨g, 3, none⟩ = some (.bool false)) ∧ (w9.cell? ⟨q, 0, none⟩ = some (.int .i64 K) ∧ w9.cell? ⟨q, 1, none⟩ = some (.int .i64 i)) ∧ (w9.cell? ⟨p, 0, none⟩ = some (.int .i64 1) ∧ w9.cell? ⟨p, 1, none⟩ = some (.int .i64 (xa)) ∧ w9.cell? ⟨p, 2, none⟩ = some (.int .i64 xc))) := hide ⟨⟨HC9.out.c0, HC9.out.c1, HC9.out.c2, HC9.out.c3⟩, ⟨HI9.out.c0, HI9.out.c1⟩, HT9.out.c0, HT9.out.c1, HT9.out.c2⟩; have hkz := kp_four w9 r b.t (.slice a3 n1 c3) (.slice a4 n2 c4) false; obtain ⟨wz, hwz⟩ : ∃ wz, (((w9.setCell ⟨r, 0, none⟩ (.int .i64 b.t)).setCell ⟨r, 1, none⟩ (.slice a3 n1 c3)).setCell ⟨r, 2, none⟩ (.slice a4 n2 c4)).setCell ⟨r, 3, none⟩ (.bool false) = wz := ⟨_, rfl⟩; have HWZ : Hid (set4 w9 r b.t (.slice a3 n1 c3) (.slice a4 n2 c4) false = wz) := hide hwz; rw [HWZ.out] at hkz; have HCZ := hide (HC9.out.kp hkz (by have := HGQ.out; omega)); have HIZ := hide (HI9.out.kp hkz (by have := HGQ.out; omega)); have HTZ := hide (HT9.out.kp hkz (by have := HGQ.out; have := HP.out; have := HL4.out; omega)); have EZ : Hid ((wz.cell? ⟨g, 0, none⟩ = some (.int .i64 b.t) ∧ wz.cell? ⟨g, 1, none⟩ = some (.slice a1 n1 c1) ∧ wz.cell? ⟨g, 2, none⟩ = some (.slice a2 n2 c2) ∧ wz.cell? ⟨g, 3, none⟩ = some (.bool false)) ∧ (wz.cell? ⟨q, 0, none⟩ = some (.int .i64 K) ∧ wz.cell? ⟨q, 1, none⟩ = some (.int .i64 i)) ∧ (wz.cell? ⟨p, 0, none⟩ = some (.int .i64 1) ∧ wz.cell? ⟨p, 1, none⟩ = some (.int .i64 (xa)) ∧ wz.cell? ⟨p, 2, none⟩ = some (.int .i64 xc))) := hide ⟨⟨HCZ.out.c0, HCZ.out.c1, HCZ.out.c2, HCZ.out.c3⟩, ⟨HIZ.out.c0, HIZ.out.c1⟩, HTZ.out.c0, HTZ.out.c1, HTZ.out.c2⟩; clear hkz; have y0 := HR9.out.c0; have y1 := HR9.out.c1; have y2 := HR9.out.c2; have y3 := HR9.out.c3; have yz0 := HR9.out.fz 0; have yz1 := HR9.out.fz 1; have yz2 := HR9.out.fz 2; have yz3 := HR9.out.fz 3))
            all_goals
              go_wp2_with fail
              try rw [← HWZ.out]
              have hk := kp_four w9 r b.t (.slice a3 n1 c3) (.slice a4 n2 c4) false
              have hgq := HGQ.out
              have hpp := HP.out
              have hl4 := HL4.out
              have hb6s := HB6.out.size
              have hk8s := HK8.out.size
              have hdr : w8.drew.heap.size = w8.heap.size := rfl
              obtain ⟨hB1, hB2, hB3⟩ := HBB.out HE.out
              rw [show (xa + if (2 : Int) = 0 then (1 : Int) else 0) = xa by simp] at hB1 hB2
              refine bodyPost_ret (bc_ret4 rfl _ _ r b.t _ _ _ rfl (HR9.out.set4 b.t (.slice a3 n1 c3) (.slice a4 n2 c4) false)) rfl ?_
              have hA := ans_mono (HA9.out.kp hk (fun i e => .inl (by have h2 : i = r := e; omega))) HB8.out.size hk.size
              rw [hB1, hB2, hB3, HE.out, HBF.out]
              exact ⟨_, _, _, _, _, _, rfl, hA, hk.below (below_trans HB8.out HB89.out) (fun i e => by have h2 : i = r := e; omega) (by have := HB8.out.size; have := HB89.out.size; omega)⟩
      · have HE := hide (HST.out (.inr (.inl (decide_eq_false hs))))
        have hs0 : (xs != 0) = true := by simp; omega
        have hs2 : (xs != 2) = true := by simp; omega
        clear hs
        go_wp2_with fail
        refine bodyPost_ret (bc_ret4 rfl _ _ r 0 _ _ false rfl (HR6.out.set4 0 (.slice none 0 0) (.slice none 0 0) false)) rfl ?_
        exact HEND.out w6 (Below.refl _ _) HE.out
  · have hee := bgnE_ref h0
    have HEE := hide hee
    have HNN := hide (bgn_no (b := b) (K := K) (i := i) (by rw [hee]; exact h0))
    have h0b : (refE b K i == 0) = false := by simpa using h0
    clear hee h0
    have r0 := HR4.out.c0
    have r1 := HR4.out.c1
    have r2 := HR4.out.c2
    have r3 := HR4.out.c3
    have rz0 := HR4.out.fz 0
    have rz1 := HR4.out.fz 1
    have rz2 := HR4.out.fz 2
    have rz3 := HR4.out.fz 3
    go_wp2_with fail
    refine bodyPost_ret (bc_ret4 rfl _ _ r 0 _ _ false rfl (HR4.out.set4 0 (.slice none 0 0) (.slice none 0 0) false)) rfl ?_
    rw [HNN.out.1, HNN.out.2.1, HNN.out.2.2, HEE.out]
    have hk := kp_four w4 r 0 (.slice none 0 0) (.slice none 0 0) false
    exact ⟨none, 0, 0, none, 0, 0, rfl, ans_nil _ _ _, hk.below HB4.out (fun i e => by have h2 : i = r := e; have := HGQ.out; omega) HB4.out.size⟩
end Go.Proofs.YtgpfabblmoffiaaDoor.Lg
