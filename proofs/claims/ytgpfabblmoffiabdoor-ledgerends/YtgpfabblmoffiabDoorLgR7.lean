/-
  The document's own: Done, Died.
-/
import Derived.Test.YtgpfabblmoffiabDoorLgR6
namespace Go.Proofs.YtgpfabblmoffiabDoor.Lg
open Go.ChangeShapes Go.WideShapes Go.ChangeAt Go.RowKit
open Go.Proofs.YtgpfabblmoffiabDoor.Base Go.Proofs.YtgpfabblmoffiabDoor.Rf
set_option linter.unusedVariables false
theorem refE_cases {b : Bk} {K i : Int} : (refE b K i = 0 ∧ chk b = true ∧ thr b K i = true) ∨ refE b K i ≠ 0 := by
  rcases Bool.eq_false_or_eq_true (chk b) with h | h
  · rcases Bool.eq_false_or_eq_true (thr b K i) with h2 | h2
    · exact .inl ⟨refE_ok h h2, h, h2⟩
    · exact .inr (by rw [refE_task h h2]; omega)
  · exact .inr (by rw [refE_bad h]; omega)
theorem refE_num (b : Bk) (K i : Int) : refE b K i = 0 ∨ refE b K i = 190 ∨ refE b K i = 191 := by
  rcases Bool.eq_false_or_eq_true (chk b) with h | h
  · rcases Bool.eq_false_or_eq_true (thr b K i) with h2 | h2
    · exact .inl (refE_ok h h2)
    · exact .inr (.inr (refE_task h h2))
  · exact .inr (.inl (refE_bad h))
theorem field_s (s a c : Int) (W : World) : (Instr.field 59 (.agg #[.int .i64 s, .int .i64 a, .int .i64 c]) 0).run Tryd.prog W = .ok (.int .i64 s) W := by first | rfl | kernel_rfl | simp [go_sem]
set_option maxHeartbeats 2000000 in
theorem ends_any (b : Bk) (K i : Int) (a1 a2 : Option Addr) (n1 c1 n2 c2 : Nat) (w : World) (hr1 : RdT w a1 n1 b.m) (hr2 : RdT w a2 n2 b.r) :
    Calls Tryd.prog 40 #[.agg #[.int .i64 b.t, .slice a1 n1 c1, .slice a2 n2 c2, .bool b.f], .agg #[.int .i64 K, .int .i64 i]] w fun e w' => e = .returned (.int .i64 (endE b K i)) ∧ Below w.heap.size w w' := by
  obtain ⟨w1, w2, g, q, hw1, hw2, hg, hq, HC, HI, HB, HGQ⟩ := box_bt b.t (.slice a1 n1 c1) (.slice a2 n2 c2) b.f K i w
  have HG := hide hg
  have HRF := hide (refusal_any b K i a1 a2 n1 c1 n2 c2 w2 (hr1.below HB.out) (hr2.below HB.out))
  have HR1 := hide hr1
  have HR2 := hide hr2
  clear hr1 hr2
  have x0 := HC.out.c0
  have x1 := HC.out.c1
  have x2 := HC.out.c2
  have x3 := HC.out.c3
  have q0 := HI.out.c0
  have q1 := HI.out.c1
  go_enter Tryd.func40, Tryd.ntmps40
  rcases refE_cases (b := b) (K := K) (i := i) with ⟨h0, hc, hth⟩ | h0
  · rw [h0] at HRF
    have HE1 : Hid (b.f = true → endE b K i = 192) := fun h => endE_state h0 (.inl h)
    have HE2 : Hid ((tsk b K i).s ≠ 1 → endE b K i = 192) := fun h => endE_state h0 (.inr h)
    have HE3 : Hid (b.f = false → (tsk b K i).s = 1 → endE b K i = 0) := fun h h2 => endE_ok h0 h h2
    have HTH := hide hth
    clear h0 hc hth
    go_wp2_with fail
    refine HRF.out.mono ?_
    clear hw1 hw2 hg hq x0 x1 x2 x3 q0 q1
    rintro e w3 ⟨rfl, hb⟩
    have HB3 := hide (below_trans HB.out hb)
    have HC3 := hide (HC.out.below hb)
    have HI3 := hide (HI.out.below hb)
    clear hb
    have x0 := HC3.out.c0
    have x1 := HC3.out.c1
    have x2 := HC3.out.c2
    have x3 := HC3.out.c3
    have q0 := HI3.out.c0
    have q1 := HI3.out.c1
    have HAT := hide (at_any b K i a1 a2 n1 c1 n2 c2 w3 (HR1.out.below HB3.out) (HR2.out.below HB3.out) HTH.out)
    generalize hbf : b.f = F at *
    cases F with
    | true =>
      have HEE := hide (HE1.out (by first | rfl | trivial))
      go_wp2_with fail
      go_ret
      exact ⟨ret_int HEE.out.symm, by first | exact HB3.out | (have h := HB3.out; rw [HG.out] at h; exact h)⟩
    | false =>
      generalize tsk b K i = x at HE2 HE3 HAT
      obtain ⟨xs, xa, xc⟩ := x
      simp only at HE2 HE3 HAT
      have hfl := field_s xs xa xc
      by_cases hs : xs = 1
      · have HEE := hide (HE3.out (by first | rfl | trivial) hs)
        subst hs
        go_wp2_with fail
        refine HAT.out.mono ?_
        clear x0 x1 x2 x3 q0 q1
        rintro e w4 ⟨rfl, hb⟩
        have HB4 := hide (below_trans HB3.out hb)
        clear hb
        go_wp2_with fail
        go_ret
        exact ⟨ret_int HEE.out.symm, by first | exact HB4.out | (have h := HB4.out; rw [HG.out] at h; exact h)⟩
      · have HEE := hide (HE2.out hs)
        have hsb : (xs != 1) = true := by simpa using hs
        clear hs
        go_wp2_with fail
        refine HAT.out.mono ?_
        clear x0 x1 x2 x3 q0 q1
        rintro e w4 ⟨rfl, hb⟩
        have HB4 := hide (below_trans HB3.out hb)
        clear hb
        go_wp2_with fail
        go_ret
        exact ⟨ret_int HEE.out.symm, by first | exact HB4.out | (have h := HB4.out; rw [HG.out] at h; exact h)⟩
  · have HEE := hide (endE_ref h0)
    have h0b : (refE b K i == 0) = false := by simpa using h0
    clear h0
    go_wp2_with fail
    refine HRF.out.mono ?_
    clear hw1 hw2 hg hq x0 x1 x2 x3 q0 q1
    rintro e w3 ⟨rfl, hb⟩
    have HB3 := hide (below_trans HB.out hb)
    clear hb
    go_wp2_with fail
    go_ret
    exact ⟨ret_int HEE.out.symm, by first | exact HB3.out | (have h := HB3.out; rw [HG.out] at h; exact h)⟩
theorem endE_zero {b : Bk} {K i : Int} (h : endE b K i = 0) : b.f = false ∧ (tsk b K i).s = 1 ∧ refE b K i = 0 ∧ chk b = true ∧ thr b K i = true := by
  rcases refE_cases (b := b) (K := K) (i := i) with ⟨h0, hc, hth⟩ | h0
  · by_cases h2 : b.f = true ∨ (tsk b K i).s ≠ 1
    · rw [endE_state h0 h2] at h; omega
    · refine ⟨?_, Classical.byContradiction (fun e => h2 (.inr e)), h0, hc, hth⟩
      cases hb : b.f with
      | true => exact absurd (.inl hb) h2
      | false => rfl
  · rw [endE_ref h0] at h; exact absurd h h0
set_option maxHeartbeats 4000000 in
set_option maxRecDepth 100000 in
theorem refDone_any (b : Bk) (K i : Int) (a1 a2 : Option Addr) (n1 c1 n2 c2 : Nat) (w : World) (hi : Inn w b a1 n1 c1 a2 n2 c2) :
    Calls Tryd.prog 16 #[.agg #[.int .i64 b.t, .slice a1 n1 c1, .slice a2 n2 c2, .bool b.f], .agg #[.int .i64 K, .int .i64 i]] w fun e w' => ∃ a3 n3 c3 a4 n4 c4, e = .returned (.tuple #[.agg #[.int .i64 (dneB b K i).t, .slice a3 n3 c3, .slice a4 n4 c4, .bool (dneB b K i).f], .int .i64 (endE b K i)]) ∧ Ans w' w.heap.size w'.heap.size a3 n3 c3 (dneB b K i).m a4 n4 c4 (dneB b K i).r ∧ Below w.heap.size w w' := by
  obtain ⟨w1, w2, g, q, hw1, hw2, hg, hq, HC, HI, HB, HGQ0⟩ := box_bt b.t (.slice a1 n1 c1) (.slice a2 n2 c2) b.f K i w
  obtain ⟨w3, hw3⟩ : ∃ w3, w2.alloc (.cells #[.int .i64 0, .slice none 0 0, .slice none 0 0, .bool false] 26) = w3 := ⟨_, rfl⟩
  have hb3 : Below w2.heap.size w2 w3 := by rw [← hw3]; exact (Below.refl _ _).alloc (Nat.le_refl _) _
  have hR3 : BC w3 w2.heap.size 0 (.slice none 0 0) (.slice none 0 0) false := by rw [← hw3]; exact bc_new _ _ _ _ _
  have HB3 : Hid (Below w.heap.size w w3) := below_trans HB.out hb3
  have HC3 := hide (HC.out.below hb3)
  have HI3 := hide (HI.out.below hb3)
  have HR3 := hide hR3
  obtain ⟨r, hr⟩ : ∃ r, w2.heap.size = r := ⟨_, rfl⟩
  rw [hr] at HR3
  have HGQ : Hid (w.heap.size = g ∧ g < q ∧ q < r ∧ r < w3.heap.size) := ⟨hg, HGQ0.out.1, by have := HGQ0.out.2; omega, HR3.out.lt⟩
  clear hR3 hb3
  have HIN := hide hi
  have HEN := hide (ends_any b K i a1 a2 n1 c1 n2 c2 w3 (hi.r1.below HB3.out) (hi.r2.below HB3.out))
  clear hi
  have x0 := HC3.out.c0
  have x1 := HC3.out.c1
  have x2 := HC3.out.c2
  have x3 := HC3.out.c3
  have q0 := HI3.out.c0
  have q1 := HI3.out.c1
  go_enter Tryd.func16, Tryd.ntmps16
  go_wp2_with fail
  refine HEN.out.mono ?_
  clear hw1 hw2 hw3 hg hq hr x0 x1 x2 x3 q0 q1
  rintro e w4 ⟨rfl, hb4⟩
  have HB4 := hide (below_trans HB3.out hb4)
  have HC4 := hide (HC3.out.below hb4)
  have HI4 := hide (HI3.out.below hb4)
  have HR4 := hide (HR3.out.below hb4)
  have HL4 : Hid (w3.heap.size ≤ w4.heap.size) := hb4.size
  clear hb4
  have r0 := HR4.out.c0
  have r1 := HR4.out.c1
  have r2 := HR4.out.c2
  have r3 := HR4.out.c3
  have rz0 := HR4.out.fz 0
  have rz1 := HR4.out.fz 1
  have rz2 := HR4.out.fz 2
  have rz3 := HR4.out.fz 3
  by_cases h0 : endE b K i = 0
  · obtain ⟨hf, hs, hre, hc, hth⟩ := endE_zero h0
    have hok := chk_ok hc
    have hgd := good_small (tsk_good hok hth) hok.t2
    have HEE := hide h0
    have hl1 : n1 ≤ 1000000000 := by rw [← HIN.out.r1.1]; have := hok.m; omega
    have hl2 : n2 ≤ 1000000000 := by rw [← HIN.out.r2.1]; have := hok.r2; omega
    have HBD : Hid (dneB b K i = put b K i ⟨3, (tsk b K i).a, (tsk b K i).c⟩ b.f) := by show _ = _; unfold dneB; rw [if_pos h0]
    rw [h0]
    have HAT := hide (at_any b K i a1 a2 n1 c1 n2 c2 w4 (HIN.out.r1.below HB4.out) (HIN.out.r2.below HB4.out) hth)
    have HTH := hide hth
    clear h0 hf hs hre hc hth hok
    generalize tsk b K i = x at *
    obtain ⟨xs, xa, xc⟩ := x
    simp only at HAT hgd
    have x0 := HC4.out.c0
    have x1 := HC4.out.c1
    have x2 := HC4.out.c2
    have x3 := HC4.out.c3
    have q0 := HI4.out.c0
    have q1 := HI4.out.c1
    go_wp2_with fail
    refine HAT.out.mono ?_
    clear x0 x1 x2 x3 q0 q1 r0 r1 r2 r3 rz0 rz1 rz2 rz3
    rintro e w5 ⟨rfl, hb5⟩
    obtain ⟨w6, hw6⟩ : ∃ w6, w5.alloc (.cells #[.int .i64 xs, .int .i64 xa, .int .i64 xc] 59) = w6 := ⟨_, rfl⟩
    have hb6 : Below w5.heap.size w5 w6 := by rw [← hw6]; exact (Below.refl _ _).alloc (Nat.le_refl _) _
    have hT6 : TC w6 w5.heap.size ⟨xs, xa, xc⟩ := by rw [← hw6]; exact tc_new w5 ⟨xs, xa, xc⟩
    have HB46 := hide (below_trans hb5 hb6)
    obtain ⟨p, hp⟩ : ∃ p, w5.heap.size = p := ⟨_, rfl⟩
    rw [hp] at hT6
    have HT6 := hide hT6
    have HP : Hid (w4.heap.size ≤ p ∧ p < w6.heap.size) := ⟨by rw [← hp]; exact hb5.size, hT6.lt⟩
    clear hT6 hb5 hb6
    have t0 := HT6.out.c0
    have tz0 := HT6.out.fz 0
    obtain ⟨w7, hw7⟩ : ∃ w7, w6.setCell ⟨p, 0, none⟩ (.int .i64 3) = w7 := ⟨_, rfl⟩
    have HT7 : Hid (TC w7 p ⟨3, xa, xc⟩) := by rw [← hw7]; show _ = _; rw [heap_setCell_same _ _ 0 _ _ _ HT6.out]; rfl
    have HK7 : Hid (Kp (fun j => j = p) w6 w7) := by rw [← hw7]; exact kp_cell _ _ _ _
    have HB7 : Hid (Below w.heap.size w w7) := HK7.out.below (below_trans HB4.out HB46.out) (fun i e => by have h2 : i = p := e; have := HP.out; have := HGQ.out; have := HL4.out; omega) (by have := HB4.out.size; have := HB46.out.size; omega)
    have HC7 := hide ((HC4.out.below HB46.out).kp HK7.out (by have := HP.out; have := HGQ.out; have := HL4.out; omega))
    have HI7 := hide ((HI4.out.below HB46.out).kp HK7.out (by have := HP.out; have := HGQ.out; have := HL4.out; omega))
    have HR7 := hide ((HR4.out.below HB46.out).kp HK7.out (by have := HP.out; have := HGQ.out; have := HL4.out; omega))
    have HWI := hide (with_any b K i ⟨3, xa, xc⟩ a1 a2 n1 c1 n2 c2 w7 (HIN.out.below HB7.out) HTH.out hl1 hl2)
    have x0 := HC7.out.c0
    have x1 := HC7.out.c1
    have x2 := HC7.out.c2
    have x3 := HC7.out.c3
    have q0 := HI7.out.c0
    have q1 := HI7.out.c1
    have s0 := HT7.out.c0
    have s1 := HT7.out.c1
    have s2 := HT7.out.c2
    go_wp2_with fail
    refine HWI.out.mono ?_
    clear hw6 hw7 hp x0 x1 x2 x3 q0 q1 s0 s1 s2 t0 tz0
    rintro e w8 ⟨a3, c3, a4, c4, rfl, hA8, hb8⟩
    have HA8 := hide hA8
    have HB8 := hide (below_trans HB7.out hb8)
    have HR8 := hide (HR7.out.below hb8)
    clear hA8 hb8
    have r0 := HR8.out.c0
    have r1 := HR8.out.c1
    have r2 := HR8.out.c2
    have r3 := HR8.out.c3
    have rz0 := HR8.out.fz 0
    have rz1 := HR8.out.fz 1
    have rz2 := HR8.out.fz 2
    have rz3 := HR8.out.fz 3
    go_wp2_with fail
    have hk := kp_four w8 r b.t (.slice a3 n1 c3) (.slice a4 n2 c4) b.f
    have hgq := HGQ.out
    have hpp := HP.out
    have hl4 := HL4.out
    have hb7s := HB7.out.size
    refine bodyPost_ret (bc_ret2 rfl _ _ r b.t _ _ b.f rfl (HR8.out.set4 b.t (.slice a3 n1 c3) (.slice a4 n2 c4) b.f)) rfl ?_
    have hA := ans_mono (HA8.out.kp hk (fun i e => .inl (by have h2 : i = r := e; have := HK7.out.size; omega))) HB7.out.size hk.size
    rw [HBD.out, HEE.out]
    exact ⟨_, _, _, _, _, _, rfl, hA, hk.below HB8.out (fun i e => by have h2 : i = r := e; omega) HB8.out.size⟩
  · have HEE : Hid (dneB b K i = nob) := by
      show _ = _
      unfold dneB
      rw [if_neg h0]
    have h0b : (endE b K i == 0) = false := by simpa using h0
    clear h0
    go_wp2_with fail
    refine bodyPost_ret (bc_ret2 rfl _ _ r 0 _ _ false rfl (HR4.out.set4 0 (.slice none 0 0) (.slice none 0 0) false)) rfl ?_
    rw [HEE.out]
    have hk := kp_four w4 r 0 (.slice none 0 0) (.slice none 0 0) false
    exact ⟨none, 0, 0, none, 0, 0, rfl, ans_nil _ _ _, hk.below HB4.out (fun i e => by have h2 : i = r := e; have := HGQ.out; omega) HB4.out.size⟩
set_option maxHeartbeats 4000000 in
set_option maxRecDepth 100000 in
theorem refDied_any (b : Bk) (K i : Int) (a1 a2 : Option Addr) (n1 c1 n2 c2 : Nat) (w : World) (hi : Inn w b a1 n1 c1 a2 n2 c2) :
    Calls Tryd.prog 18 #[.agg #[.int .i64 b.t, .slice a1 n1 c1, .slice a2 n2 c2, .bool b.f], .agg #[.int .i64 K, .int .i64 i]] w fun e w' => ∃ a3 n3 c3 a4 n4 c4, e = .returned (.tuple #[.agg #[.int .i64 (dieB b K i).t, .slice a3 n3 c3, .slice a4 n4 c4, .bool (dieB b K i).f], .int .i64 (endE b K i)]) ∧ Ans w' w.heap.size w'.heap.size a3 n3 c3 (dieB b K i).m a4 n4 c4 (dieB b K i).r ∧ Below w.heap.size w w' := by
  obtain ⟨w1, w2, g, q, hw1, hw2, hg, hq, HC, HI, HB, HGQ0⟩ := box_bt b.t (.slice a1 n1 c1) (.slice a2 n2 c2) b.f K i w
  obtain ⟨w3, hw3⟩ : ∃ w3, w2.alloc (.cells #[.int .i64 0, .slice none 0 0, .slice none 0 0, .bool false] 26) = w3 := ⟨_, rfl⟩
  have hb3 : Below w2.heap.size w2 w3 := by rw [← hw3]; exact (Below.refl _ _).alloc (Nat.le_refl _) _
  have hR3 : BC w3 w2.heap.size 0 (.slice none 0 0) (.slice none 0 0) false := by rw [← hw3]; exact bc_new _ _ _ _ _
  have HB3 : Hid (Below w.heap.size w w3) := below_trans HB.out hb3
  have HC3 := hide (HC.out.below hb3)
  have HI3 := hide (HI.out.below hb3)
  have HR3 := hide hR3
  obtain ⟨r, hr⟩ : ∃ r, w2.heap.size = r := ⟨_, rfl⟩
  rw [hr] at HR3
  have HGQ : Hid (w.heap.size = g ∧ g < q ∧ q < r ∧ r < w3.heap.size) := ⟨hg, HGQ0.out.1, by have := HGQ0.out.2; omega, HR3.out.lt⟩
  clear hR3 hb3
  have HIN := hide hi
  have HEN := hide (ends_any b K i a1 a2 n1 c1 n2 c2 w3 (hi.r1.below HB3.out) (hi.r2.below HB3.out))
  clear hi
  have x0 := HC3.out.c0
  have x1 := HC3.out.c1
  have x2 := HC3.out.c2
  have x3 := HC3.out.c3
  have q0 := HI3.out.c0
  have q1 := HI3.out.c1
  go_enter Tryd.func18, Tryd.ntmps18
  go_wp2_with fail
  refine HEN.out.mono ?_
  clear hw1 hw2 hw3 hg hq hr x0 x1 x2 x3 q0 q1
  rintro e w4 ⟨rfl, hb4⟩
  have HB4 := hide (below_trans HB3.out hb4)
  have HC4 := hide (HC3.out.below hb4)
  have HI4 := hide (HI3.out.below hb4)
  have HR4 := hide (HR3.out.below hb4)
  have HL4 : Hid (w3.heap.size ≤ w4.heap.size) := hb4.size
  clear hb4
  have r0 := HR4.out.c0
  have r1 := HR4.out.c1
  have r2 := HR4.out.c2
  have r3 := HR4.out.c3
  have rz0 := HR4.out.fz 0
  have rz1 := HR4.out.fz 1
  have rz2 := HR4.out.fz 2
  have rz3 := HR4.out.fz 3
  by_cases h0 : endE b K i = 0
  · obtain ⟨hf, hs, hre, hc, hth⟩ := endE_zero h0
    have hok := chk_ok hc
    have hgd := good_small (tsk_good hok hth) hok.t2
    have HEE := hide h0
    have hl1 : n1 ≤ 1000000000 := by rw [← HIN.out.r1.1]; have := hok.m; omega
    have hl2 : n2 ≤ 1000000000 := by rw [← HIN.out.r2.1]; have := hok.r2; omega
    have HBD : Hid (dieB b K i = chg b K i) := by show _ = _; unfold dieB; rw [if_pos h0]
    rw [h0]
    have HCH := hide (charged_any b K i a1 a2 n1 c1 n2 c2 w4 (HIN.out.below HB4.out) hth (by have := hgd; omega) hl1 hl2)
    clear h0 hf hs hre hc hth hok
    have x0 := HC4.out.c0
    have x1 := HC4.out.c1
    have x2 := HC4.out.c2
    have x3 := HC4.out.c3
    have q0 := HI4.out.c0
    have q1 := HI4.out.c1
    go_wp2_with fail
    refine HCH.out.mono ?_
    clear x0 x1 x2 x3 q0 q1 r0 r1 r2 r3 rz0 rz1 rz2 rz3
    rintro e w8 ⟨a3, c3, a4, c4, rfl, hA8, hb8⟩
    have HA8 := hide hA8
    have HB8 := hide (below_trans HB4.out hb8)
    have HR8 := hide (HR4.out.below hb8)
    clear hA8 hb8
    have r0 := HR8.out.c0
    have r1 := HR8.out.c1
    have r2 := HR8.out.c2
    have r3 := HR8.out.c3
    have rz0 := HR8.out.fz 0
    have rz1 := HR8.out.fz 1
    have rz2 := HR8.out.fz 2
    have rz3 := HR8.out.fz 3
    go_wp2_with fail
    have hk := kp_four w8 r b.t (.slice a3 n1 c3) (.slice a4 n2 c4) (decide ((tsk b K i).c + 1 = b.t))
    have hgq := HGQ.out
    have hl4 := HL4.out
    refine bodyPost_ret (bc_ret2 rfl _ _ r b.t _ _ _ rfl (HR8.out.set4 b.t (.slice a3 n1 c3) (.slice a4 n2 c4) (decide ((tsk b K i).c + 1 = b.t)))) rfl ?_
    have hA := ans_mono (HA8.out.kp hk (fun i e => .inl (by have h2 : i = r := e; omega))) HB4.out.size hk.size
    rw [HBD.out, HEE.out]
    exact ⟨_, _, _, _, _, _, rfl, hA, hk.below HB8.out (fun i e => by have h2 : i = r := e; omega) HB8.out.size⟩
  · have HEE : Hid (dieB b K i = nob) := by
      show _ = _
      unfold dieB
      rw [if_neg h0]
    have h0b : (endE b K i == 0) = false := by simpa using h0
    clear h0
    go_wp2_with fail
    refine bodyPost_ret (bc_ret2 rfl _ _ r 0 _ _ false rfl (HR4.out.set4 0 (.slice none 0 0) (.slice none 0 0) false)) rfl ?_
    rw [HEE.out]
    have hk := kp_four w4 r 0 (.slice none 0 0) (.slice none 0 0) false
    exact ⟨none, 0, 0, none, 0, 0, rfl, ans_nil _ _ _, hk.below HB4.out (fun i e => by have h2 : i = r := e; have := HGQ.out; omega) HB4.out.size⟩
end Go.Proofs.YtgpfabblmoffiabDoor.Lg
