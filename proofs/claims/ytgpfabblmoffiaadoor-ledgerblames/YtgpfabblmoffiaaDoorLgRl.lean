/-
  The document's own: Blame.
-/
import Derived.Test.YtgpfabblmoffiaaDoorLgR6
import Derived.Test.YtgpfabblmoffiaaDoorLgBl
import Derived.Test.YtgpfabblmoffiaaDoorLgX
namespace Go.Proofs.YtgpfabblmoffiaaDoor.Lg
open Go.ChangeShapes Go.WideShapes Go.ChangeAt Go.RowKit
open Go.Proofs.YtgpfabblmoffiaaDoor.Base Go.Proofs.YtgpfabblmoffiaaDoor.Rf
set_option linter.unusedVariables false
theorem same_cell {w : World} {g j : Nat} {cs : Array Value} {t : TypeId} {v : Value} (h : w.heap[g]? = some (.cells cs t)) (hv : cs[j]? = some v) : w.setCell ⟨g, j, none⟩ v = w := by
  have hc : cs.setIfInBounds j v = cs := by
    obtain ⟨hj, hj2⟩ := Array.getElem?_eq_some_iff.1 hv
    apply Array.ext
    · simp
    · intro i h1 h2
      rw [Array.getElem_setIfInBounds h2]
      split
      · rename_i e; subst e; exact hj2.symm
      · rfl
  have hm : (w.setCell ⟨g, j, none⟩ v).heap = w.heap := by
    apply Array.ext_getElem?
    intro i
    by_cases e : i = g
    · subst e
      rw [heap_setCell_same _ _ _ _ _ _ h, hc, h]
    · unfold World.setCell
      rw [Array.getElem?_modify]
      split
      · rename_i e2; exact absurd e2.symm e
      · rfl
  unfold World.setCell at hm ⊢
  rw [show w.heap.modify g _ = w.heap from hm]
theorem fieldS (s a c : Int) (W : World) : (Instr.field 43 (.agg #[.int .i64 s, .int .i64 a, .int .i64 c]) 0).run Tryd.prog W = .ok (.int .i64 s) W := by first | rfl | kernel_rfl | simp [go_sem]
theorem fieldA (s a c : Int) (W : World) : (Instr.field 43 (.agg #[.int .i64 s, .int .i64 a, .int .i64 c]) 1).run Tryd.prog W = .ok (.int .i64 a) W := by first | rfl | kernel_rfl | simp [go_sem]
theorem short_blm (b : Bk) (i j n : Int) : Short (blmB b i j n) := by
  unfold blmB
  by_cases h : blmE b i j n = 0
  · rw [if_pos h]
    have hc : chk b = true := by
      rcases Bool.eq_false_or_eq_true (chk b) with h2 | h2
      · exact h2
      · rw [blmE_book h2] at h; omega
    have h1 : Short (hld b i) := short_put hc _ _ _ _
    by_cases h2 : blmC b i j n = true
    · rw [if_pos h2]
      unfold chg
      obtain ⟨e1, e2⟩ := put_len (hld b i) 0 j ⟨0, (tsk (hld b i) 0 j).a, (tsk (hld b i) 0 j).c + 1⟩ (decide ((tsk (hld b i) 0 j).c + 1 = (hld b i).t))
      unfold Short at h1 ⊢
      rw [e1, e2]
      exact h1
    · rw [if_neg h2]; exact h1
  · rw [if_neg h]; exact short_nob
set_option maxHeartbeats 4000000 in
set_option maxRecDepth 100000 in
theorem refBlame_any (b : Bk) (i j n : Int) (a1 a2 : Option Addr) (n1 c1 n2 c2 : Nat) (w : World) (hi : Inn w b a1 n1 c1 a2 n2 c2) :
    Calls Tryd.prog 32 #[.agg #[.int .i64 b.t, .slice a1 n1 c1, .slice a2 n2 c2, .bool b.f], .int .i64 i, .int .i64 j, .int .i64 n] w fun e w' => ∃ a3 n3 c3 a4 n4 c4, e = .returned (.tuple #[.agg #[.int .i64 (blmB b i j n).t, .slice a3 n3 c3, .slice a4 n4 c4, .bool (blmB b i j n).f], .bool (blmC b i j n), .int .i64 (blmE b i j n)]) ∧ Ans w' w.heap.size w'.heap.size a3 n3 c3 (blmB b i j n).m a4 n4 c4 (blmB b i j n).r ∧ Below w.heap.size w w' := by
  obtain ⟨w1, hw1⟩ : ∃ w1, w.alloc (.cells #[.int .i64 b.t, .slice a1 n1 c1, .slice a2 n2 c2, .bool b.f] 26) = w1 := ⟨_, rfl⟩
  have hb1 : Below w.heap.size w w1 := by rw [← hw1]; exact (Below.refl _ _).alloc (Nat.le_refl _) _
  have hC1 : BC w1 w.heap.size b.t (.slice a1 n1 c1) (.slice a2 n2 c2) b.f := by rw [← hw1]; exact bc_new _ _ _ _ _
  obtain ⟨w2, hw2⟩ : ∃ w2, w1.alloc (.cells #[.int .i64 0, .slice none 0 0, .slice none 0 0, .bool false] 26) = w2 := ⟨_, rfl⟩
  have hb2 : Below w1.heap.size w1 w2 := by rw [← hw2]; exact (Below.refl _ _).alloc (Nat.le_refl _) _
  have hR2 : BC w2 w1.heap.size 0 (.slice none 0 0) (.slice none 0 0) false := by rw [← hw2]; exact bc_new _ _ _ _ _
  obtain ⟨w3, hw3⟩ : ∃ w3, w2.alloc (.cells #[.int .i64 1, .int .i64 i] 37) = w3 := ⟨_, rfl⟩
  have hb3 : Below w2.heap.size w2 w3 := by rw [← hw3]; exact (Below.refl _ _).alloc (Nat.le_refl _) _
  have hP3 : IC w3 w2.heap.size 1 i := by rw [← hw3]; exact heap_alloc_new _ _
  obtain ⟨w4, hw4⟩ : ∃ w4, w3.alloc (.cells #[.int .i64 0, .int .i64 j] 37) = w4 := ⟨_, rfl⟩
  have hb4 : Below w3.heap.size w3 w4 := by rw [← hw4]; exact (Below.refl _ _).alloc (Nat.le_refl _) _
  have hQ4 : IC w4 w3.heap.size 0 j := by rw [← hw4]; exact heap_alloc_new _ _
  have HB : Hid (Below w.heap.size w w4) := below_trans hb1 (below_trans hb2 (below_trans hb3 hb4))
  have HC := hide (((hC1.below hb2).below hb3).below hb4)
  have HR := hide ((hR2.below hb3).below hb4)
  have HP := hide (hP3.below hb4)
  have HQ := hide hQ4
  have HLT : Hid (w.heap.size < w1.heap.size ∧ w1.heap.size < w2.heap.size ∧ w2.heap.size < w3.heap.size ∧ w3.heap.size < w4.heap.size) := ⟨hC1.lt, hR2.lt, hP3.lt, hQ4.lt⟩
  have HIN := hide hi
  have HL1 := hide hi.r1.1
  have HL2 := hide hi.r2.1
  clear hC1 hR2 hP3 hQ4 hb1 hb2 hb3 hb4 hi
  obtain ⟨g, hg⟩ : ∃ g, w.heap.size = g := ⟨_, rfl⟩
  obtain ⟨r, hr⟩ : ∃ r, w1.heap.size = r := ⟨_, rfl⟩
  obtain ⟨p, hp⟩ : ∃ p, w2.heap.size = p := ⟨_, rfl⟩
  obtain ⟨q, hq⟩ : ∃ q, w3.heap.size = q := ⟨_, rfl⟩
  rw [hg] at HC
  rw [hr] at HR
  rw [hp] at HP
  rw [hq] at HQ
  have HGQ : Hid (w.heap.size = g ∧ g < r ∧ r < p ∧ p < q ∧ q < w4.heap.size) := by
    obtain ⟨l1, l2, l3, l4⟩ := HLT.out
    exact ⟨hg, by omega, by omega, by omega, by omega⟩
  have HNO := hide (fun h => blm_no (b := b) (i := i) (j := j) (n := n) h)
  have y1 := HC.out.c0
  have y2 := HC.out.c1
  have y3 := HC.out.c2
  have y4 := HC.out.c3
  go_enter Tryd.func32, Tryd.ntmps32
  go_wp2_with fail
  refine (refCheck_any b a1 a2 n1 c1 n2 c2 w4 (HIN.out.r1.below HB.out) (HIN.out.r2.below HB.out)).mono ?_
  clear hw1 hw2 hw3 hw4 hg hr hp hq y1 y2 y3 y4
  rintro e w5 ⟨rfl, hb5⟩
  replace HC := hide (HC.out.below hb5)
  replace HR := hide (HR.out.below hb5)
  replace HP := hide (HP.out.below hb5)
  replace HQ := hide (HQ.out.below hb5)
  replace HB := hide (below_trans HB.out hb5)
  have HZ5 : Hid (w4.heap.size ≤ w5.heap.size) := hb5.size
  clear hb5
  by_cases hc : chk b = false
  · rw [chkE_bad hc]
    have hee := blmE_book (i := i) (j := j) (n := n) hc
    clear hc
    have HNN := hide (HNO.out (by rw [hee]; omega))
    have HER := hide hee
    clear hee
    have r0 := HR.out.c0
    have rz0 := HR.out.fz 0
    have r1 := HR.out.c1
    have rz1 := HR.out.fz 1
    have r2 := HR.out.c2
    have rz2 := HR.out.fz 2
    have r3 := HR.out.c3
    have rz3 := HR.out.fz 3
    go_wp2_with fail
    refine bodyPost_ret (bc_ret3 rfl _ _ r 0 _ _ false rfl (HR.out.set4 0 (.slice none 0 0) (.slice none 0 0) false)) rfl ?_
    rw [HNN.out.1, HNN.out.2, HER.out]
    exact ⟨none, 0, 0, none, 0, 0, rfl, ans_nil _ _ _, (kp_four _ r 0 (.slice none 0 0) (.slice none 0 0) false).below HB.out (fun i e => by have h1 : i = r := e; have := HGQ.out; omega) HB.out.size⟩
  replace hc : chk b = true := by simpa using hc
  rw [chkE_ok hc]
  have HCO := hide hc
  have hok := chk_ok hc
  have HOK := hide hok
  clear hc hok
  have y5 := HC.out.c0
  have y6 := HC.out.c1
  have y7 := HC.out.c2
  have y8 := HC.out.c3
  have y9 := HP.out.c0
  have y10 := HP.out.c1
  go_wp2_with fail
  refine (there_any b 1 i a1 a2 n1 c1 n2 c2 w5 HL1.out HL2.out).mono ?_
  clear  y5 y6 y7 y8 y9 y10
  rintro e w6 ⟨rfl, hb6⟩
  replace HC := hide (HC.out.below hb6)
  replace HR := hide (HR.out.below hb6)
  replace HP := hide (HP.out.below hb6)
  replace HQ := hide (HQ.out.below hb6)
  replace HB := hide (below_trans HB.out hb6)
  have HZ6 : Hid (w5.heap.size ≤ w6.heap.size) := hb6.size
  clear hb6
  by_cases ht1 : thr b 1 i = false
  · rw [ht1]
    have hee := blmE_task (n := n) (i := i) (j := j) HCO.out (by rw [ht1]; rfl)
    clear ht1
    have HNN := hide (HNO.out (by rw [hee]; omega))
    have HER := hide hee
    clear hee
    have r0 := HR.out.c0
    have rz0 := HR.out.fz 0
    have r1 := HR.out.c1
    have rz1 := HR.out.fz 1
    have r2 := HR.out.c2
    have rz2 := HR.out.fz 2
    have r3 := HR.out.c3
    have rz3 := HR.out.fz 3
    go_wp2_with fail
    refine bodyPost_ret (bc_ret3 rfl _ _ r 0 _ _ false rfl (HR.out.set4 0 (.slice none 0 0) (.slice none 0 0) false)) rfl ?_
    rw [HNN.out.1, HNN.out.2, HER.out]
    exact ⟨none, 0, 0, none, 0, 0, rfl, ans_nil _ _ _, (kp_four _ r 0 (.slice none 0 0) (.slice none 0 0) false).below HB.out (fun i e => by have h1 : i = r := e; have := HGQ.out; omega) HB.out.size⟩
  replace ht1 : thr b 1 i = true := by simpa using ht1
  rw [ht1]
  have HT1 := hide ht1
  clear ht1
  have y11 := HC.out.c0
  have y12 := HC.out.c1
  have y13 := HC.out.c2
  have y14 := HC.out.c3
  have y15 := HQ.out.c0
  have y16 := HQ.out.c1
  go_wp2_with fail
  refine (there_any b 0 j a1 a2 n1 c1 n2 c2 w6 HL1.out HL2.out).mono ?_
  clear  y11 y12 y13 y14 y15 y16
  rintro e w7 ⟨rfl, hb7⟩
  replace HC := hide (HC.out.below hb7)
  replace HR := hide (HR.out.below hb7)
  replace HP := hide (HP.out.below hb7)
  replace HQ := hide (HQ.out.below hb7)
  replace HB := hide (below_trans HB.out hb7)
  have HZ7 : Hid (w6.heap.size ≤ w7.heap.size) := hb7.size
  clear hb7
  by_cases ht0 : thr b 0 j = false
  · rw [ht0]
    have hee := blmE_task (n := n) (i := i) (j := j) HCO.out (by rw [ht0, Bool.and_false])
    clear ht0
    have HNN := hide (HNO.out (by rw [hee]; omega))
    have HER := hide hee
    clear hee
    have r0 := HR.out.c0
    have rz0 := HR.out.fz 0
    have r1 := HR.out.c1
    have rz1 := HR.out.fz 1
    have r2 := HR.out.c2
    have rz2 := HR.out.fz 2
    have r3 := HR.out.c3
    have rz3 := HR.out.fz 3
    go_wp2_with fail
    refine bodyPost_ret (bc_ret3 rfl _ _ r 0 _ _ false rfl (HR.out.set4 0 (.slice none 0 0) (.slice none 0 0) false)) rfl ?_
    rw [HNN.out.1, HNN.out.2, HER.out]
    exact ⟨none, 0, 0, none, 0, 0, rfl, ans_nil _ _ _, (kp_four _ r 0 (.slice none 0 0) (.slice none 0 0) false).below HB.out (fun i e => by have h1 : i = r := e; have := HGQ.out; omega) HB.out.size⟩
  replace ht0 : thr b 0 j = true := by simpa using ht0
  rw [ht0]
  have HT0 := hide ht0
  have HTH : Hid ((thr b 1 i && thr b 0 j) = true) := by show _ = _; rw [HT1.out, ht0]; rfl
  have hg1 := good_small (tsk_good HOK.out HT1.out) HOK.out.t2
  have hg0 := good_small (tsk_good HOK.out HT0.out) HOK.out.t2
  have HG1 := hide hg1
  have HG0 := hide hg0
  clear ht0 hg1 hg0
  have HE3 := hide (fun h => blmE_arg (b := b) (i := i) (j := j) (n := n) HCO.out HTH.out h)
  have HE192 := hide (fun h h2 => blmE_state (b := b) (i := i) (j := j) (n := n) HCO.out HTH.out h h2)
  have HE0 := hide (fun h h2 => blmE_ok (b := b) (i := i) (j := j) (n := n) HCO.out HTH.out h h2)
  have HAT0 := hide (fun W (hi : Inn W b a1 n1 c1 a2 n2 c2) => at_any b 0 j a1 a2 n1 c1 n2 c2 W (Inn.r1 hi) (Inn.r2 hi) HT0.out)
  have HAT1 := hide (fun W (hi : Inn W b a1 n1 c1 a2 n2 c2) => at_any b 1 i a1 a2 n1 c1 n2 c2 W (Inn.r1 hi) (Inn.r2 hi) HT1.out)
  have HWI := hide (fun W (hi : Inn W b a1 n1 c1 a2 n2 c2) x => with_any b 1 i x a1 a2 n1 c1 n2 c2 W hi HT1.out (by rw [← HL1.out]; have := HOK.out.m; omega) (by rw [← HL2.out]; have := HOK.out.r2; omega))
  have HHL := hide (fun h h2 => hld_ok HOK.out h HT1.out h2)
  have HTE : Hid (tsk (hld b i) 0 j = tsk b 0 j ∧ thr (hld b i) 0 j = true) := ⟨by simp [tsk, lst, hld, put], by have h := HT0.out; simpa [thr, lst, hld, put] using h⟩
  have HLN : Hid (n1 ≤ 1000000000 ∧ n2 ≤ 1000000000) := ⟨by rw [← HL1.out]; have := HOK.out.m; omega, by rw [← HL2.out]; have := HOK.out.r2; omega⟩
  have HDF : Hid (blmC b i j n = decide (blmE b i j n = 0 ∧ (tsk b 0 j).s = 3 ∧ n = (tsk b 0 j).a)) := rfl
  have HHD : Hid (hld b i = put b 1 i ⟨2, (tsk b 1 i).a, (tsk b 1 i).c⟩ b.f) := rfl
  have HBB : Hid (blmE b i j n = 0 → blmB b i j n = if blmC b i j n = true then chg (hld b i) 0 j else hld b i) := fun h => by unfold blmB; rw [if_pos h]
  obtain ⟨x, hx⟩ : ∃ x, tsk b 0 j = x := ⟨_, rfl⟩
  obtain ⟨z, hz⟩ : ∃ z, tsk b 1 i = z := ⟨_, rfl⟩
  rw [hx] at HE3 HE192 HE0 HAT0 HTE HDF HG0
  rw [hz] at HE192 HE0 HAT1 HHL HHD HG1
  obtain ⟨xs, xa, xc⟩ := x
  obtain ⟨zs, za, zc⟩ := z
  simp only at HE3 HE192 HE0 HAT0 HAT1 HHL HHD HDF HG0 HG1
  have hfx := fieldS xs xa xc
  have hfz := fieldS zs za zc
  have hfa := fieldA xs xa xc
  clear hx hz
  by_cases hn1 : n < 1
  · have hee := HE3.out (.inl hn1)
    have HNN := hide (HNO.out (by rw [hee]; omega))
    have HER := hide hee
    clear hee
    have r0 := HR.out.c0
    have rz0 := HR.out.fz 0
    have r1 := HR.out.c1
    have rz1 := HR.out.fz 1
    have r2 := HR.out.c2
    have rz2 := HR.out.fz 2
    have r3 := HR.out.c3
    have rz3 := HR.out.fz 3
    go_wp2_with fail
    refine bodyPost_ret (bc_ret3 rfl _ _ r 0 _ _ false rfl (HR.out.set4 0 (.slice none 0 0) (.slice none 0 0) false)) rfl ?_
    rw [HNN.out.1, HNN.out.2, HER.out]
    exact ⟨none, 0, 0, none, 0, 0, rfl, ans_nil _ _ _, (kp_four _ r 0 (.slice none 0 0) (.slice none 0 0) false).below HB.out (fun i e => by have h1 : i = r := e; have := HGQ.out; omega) HB.out.size⟩
  have HN1 := hide hn1
  have y17 := HC.out.c0
  have y18 := HC.out.c1
  have y19 := HC.out.c2
  have y20 := HC.out.c3
  have y21 := HQ.out.c0
  have y22 := HQ.out.c1
  go_wp2_with fail
  refine (HAT0.out w7 (HIN.out.below HB.out)).mono ?_
  clear  y17 y18 y19 y20 y21 y22
  rintro e w8 ⟨rfl, hb8⟩
  replace HC := hide (HC.out.below hb8)
  replace HR := hide (HR.out.below hb8)
  replace HP := hide (HP.out.below hb8)
  replace HQ := hide (HQ.out.below hb8)
  replace HB := hide (below_trans HB.out hb8)
  have HZ8 : Hid (w7.heap.size ≤ w8.heap.size) := hb8.size
  clear hb8
  by_cases hna : xa < n
  · have hee := HE3.out (.inr hna)
    have HNN := hide (HNO.out (by rw [hee]; omega))
    have HER := hide hee
    clear hee
    have r0 := HR.out.c0
    have rz0 := HR.out.fz 0
    have r1 := HR.out.c1
    have rz1 := HR.out.fz 1
    have r2 := HR.out.c2
    have rz2 := HR.out.fz 2
    have r3 := HR.out.c3
    have rz3 := HR.out.fz 3
    go_wp2_with fail
    refine bodyPost_ret (bc_ret3 rfl _ _ r 0 _ _ false rfl (HR.out.set4 0 (.slice none 0 0) (.slice none 0 0) false)) rfl ?_
    rw [HNN.out.1, HNN.out.2, HER.out]
    exact ⟨none, 0, 0, none, 0, 0, rfl, ans_nil _ _ _, (kp_four _ r 0 (.slice none 0 0) (.slice none 0 0) false).below HB.out (fun i e => by have h1 : i = r := e; have := HGQ.out; omega) HB.out.size⟩
  have HNA : Hid (¬ (n < 1 ∨ xa < n)) := by show ¬ _; omega
  have HN9 := hide hna
  by_cases hbf : b.f = true
  · have hee := HE192.out HNA.out (.inl hbf)
    have x3 := HC.out.c3
    rw [hbf] at x3
    clear hbf
    have HNN := hide (HNO.out (by rw [hee]; omega))
    have HER := hide hee
    clear hee
    have r0 := HR.out.c0
    have rz0 := HR.out.fz 0
    have r1 := HR.out.c1
    have rz1 := HR.out.fz 1
    have r2 := HR.out.c2
    have rz2 := HR.out.fz 2
    have r3 := HR.out.c3
    have rz3 := HR.out.fz 3
    go_wp2_with fail
    refine bodyPost_ret (bc_ret3 rfl _ _ r 0 _ _ false rfl (HR.out.set4 0 (.slice none 0 0) (.slice none 0 0) false)) rfl ?_
    rw [HNN.out.1, HNN.out.2, HER.out]
    exact ⟨none, 0, 0, none, 0, 0, rfl, ans_nil _ _ _, (kp_four _ r 0 (.slice none 0 0) (.slice none 0 0) false).below HB.out (fun i e => by have h1 : i = r := e; have := HGQ.out; omega) HB.out.size⟩
  replace hbf : b.f = false := by simpa using hbf
  have HBF := hide hbf
  have y23 := HC.out.c0
  have y24 := HC.out.c1
  have y25 := HC.out.c2
  have y26 := HC.out.c3
  have y27 := HP.out.c0
  have y28 := HP.out.c1
  rw [hbf] at y26 HAT1
  clear hbf
  go_wp2_with fail
  refine (HAT1.out w8 (HIN.out.below HB.out)).mono ?_
  clear  y23 y24 y25 y26 y27 y28
  rintro e w9 ⟨rfl, hb9⟩
  replace HC := hide (HC.out.below hb9)
  replace HR := hide (HR.out.below hb9)
  replace HP := hide (HP.out.below hb9)
  replace HQ := hide (HQ.out.below hb9)
  replace HB := hide (below_trans HB.out hb9)
  have HZ9 : Hid (w8.heap.size ≤ w9.heap.size) := hb9.size
  clear hb9
  by_cases hzs : zs ≠ 1
  · have hee := HE192.out HNA.out (.inr hzs)
    have hzb : (zs != 1) = true := by simpa using hzs
    clear hzs
    have HNN := hide (HNO.out (by rw [hee]; omega))
    have HER := hide hee
    clear hee
    have r0 := HR.out.c0
    have rz0 := HR.out.fz 0
    have r1 := HR.out.c1
    have rz1 := HR.out.fz 1
    have r2 := HR.out.c2
    have rz2 := HR.out.fz 2
    have r3 := HR.out.c3
    have rz3 := HR.out.fz 3
    go_wp2_with fail
    refine bodyPost_ret (bc_ret3 rfl _ _ r 0 _ _ false rfl (HR.out.set4 0 (.slice none 0 0) (.slice none 0 0) false)) rfl ?_
    rw [HNN.out.1, HNN.out.2, HER.out]
    exact ⟨none, 0, 0, none, 0, 0, rfl, ans_nil _ _ _, (kp_four _ r 0 (.slice none 0 0) (.slice none 0 0) false).below HB.out (fun i e => by have h1 : i = r := e; have := HGQ.out; omega) HB.out.size⟩
  replace hzs : zs = 1 := by omega
  have hzb : (zs != 1) = false := by rw [hzs]; rfl
  have HZS := hide hzs
  have hee := HE0.out HNA.out (by rintro (h | h); rw [HBF.out] at h; cases h; exact h hzs)
  have HEE := hide hee
  have hh := HHL.out HBF.out hzs
  have HH := hide hh
  clear hzs hee hh
  have y29 := HC.out.c0
  have y30 := HC.out.c1
  have y31 := HC.out.c2
  have y32 := HC.out.c3
  have y33 := HP.out.c0
  have y34 := HP.out.c1
  rw [HBF.out] at y32
  go_wp2_with fail
  refine (HAT1.out w9 (HIN.out.below HB.out)).mono ?_
  clear  y29 y30 y31 y32 y33 y34
  rintro e w10 ⟨rfl, hb10⟩
  replace HC := hide (HC.out.below hb10)
  replace HR := hide (HR.out.below hb10)
  replace HP := hide (HP.out.below hb10)
  replace HQ := hide (HQ.out.below hb10)
  replace HB := hide (below_trans HB.out hb10)
  have HZ10 : Hid (w9.heap.size ≤ w10.heap.size) := hb10.size
  clear hb10
  obtain ⟨w11, hw11⟩ : ∃ w11, w10.alloc (.cells #[.int .i64 zs, .int .i64 za, .int .i64 zc] 43) = w11 := ⟨_, rfl⟩
  have hb11 : Below w10.heap.size w10 w11 := by rw [← hw11]; exact (Below.refl _ _).alloc (Nat.le_refl _) _
  have HS : Hid (TC w11 w10.heap.size ⟨zs, za, zc⟩) := by rw [← hw11]; exact tc_new w10 ⟨zs, za, zc⟩
  obtain ⟨s, hs⟩ : ∃ s, w10.heap.size = s := ⟨_, rfl⟩
  rw [hs] at HS
  replace HC := hide (HC.out.below hb11)
  replace HR := hide (HR.out.below hb11)
  replace HP := hide (HP.out.below hb11)
  replace HQ := hide (HQ.out.below hb11)
  replace HB := hide (below_trans HB.out hb11)
  have HSZ : Hid (w4.heap.size ≤ s ∧ s < w11.heap.size) := ⟨by have := HZ5.out; have := HZ6.out; have := HZ7.out; have := HZ8.out; have := HZ9.out; have := HZ10.out; omega, HS.out.lt⟩
  clear hb11
  have s0 := HS.out.c0
  have sz0 := HS.out.fz 0
  obtain ⟨w12, hw12⟩ : ∃ w12, w11.setCell ⟨s, 0, none⟩ (.int .i64 2) = w12 := ⟨_, rfl⟩
  have hk12 : Kp (fun j => j = s) w11 w12 := by rw [← hw12]; exact kp_cell _ _ _ _
  have HS2 : Hid (TC w12 s ⟨2, za, zc⟩) := by rw [← hw12]; show _ = _; rw [heap_setCell_same _ _ 0 _ _ _ HS.out]; rfl
  replace HC := hide (HC.out.kp hk12 (by have := HGQ.out; have := HSZ.out; omega))
  replace HR := hide (HR.out.kp hk12 (by have := HGQ.out; have := HSZ.out; omega))
  replace HP := hide (HP.out.kp hk12 (by have := HGQ.out; have := HSZ.out; omega))
  replace HQ := hide (HQ.out.kp hk12 (by have := HGQ.out; have := HSZ.out; omega))
  replace HB := hide (hk12.below HB.out (fun i e => by have h1 : i = s := e; have := HGQ.out; have := HSZ.out; omega) HB.out.size)
  have HZ12 : Hid (w11.heap.size ≤ w12.heap.size) := hk12.size
  clear hk12
  have y35 := HC.out.c0
  have y36 := HC.out.c1
  have y37 := HC.out.c2
  have y38 := HC.out.c3
  have y39 := HP.out.c0
  have y40 := HP.out.c1
  rw [HBF.out] at y38
  have t0 := HS2.out.c0
  have t1 := HS2.out.c1
  have t2 := HS2.out.c2
  have hwi := HWI.out w12 (HIN.out.below HB.out) ⟨2, za, zc⟩
  rw [← HHD.out] at hwi
  rw [HBF.out] at hwi
  have HWJ := hide hwi
  have HZW : Hid (w4.heap.size ≤ w12.heap.size ∧ w.heap.size ≤ w12.heap.size) := ⟨by have := HSZ.out; have := HZ12.out; omega, HB.out.size⟩
  clear hwi
  go_wp2_with fail
  refine HWJ.out.mono ?_
  clear hw11 hw12 hs y35 y36 y37 y38 y39 y40 t0 t1 t2 s0 sz0
  rintro e w13 ⟨a3, c3, a4, c4, rfl, hA13, hb13⟩
  have HA := hide hA13
  have HZA : Hid (w12.heap.size ≤ w13.heap.size) := hb13.size
  replace HC := hide (HC.out.below hb13)
  replace HR := hide (HR.out.below hb13)
  replace HP := hide (HP.out.below hb13)
  replace HQ := hide (HQ.out.below hb13)
  replace HB := hide (below_trans HB.out hb13)
  clear hA13 hb13
  obtain ⟨w14, hw14⟩ : ∃ w14, w13.alloc (.cells #[.int .i64 b.t, .slice a3 n1 c3, .slice a4 n2 c4, .bool false] 26) = w14 := ⟨_, rfl⟩
  have hb14 : Below w13.heap.size w13 w14 := by rw [← hw14]; exact (Below.refl _ _).alloc (Nat.le_refl _) _
  have HD : Hid (BC w14 w13.heap.size b.t (.slice a3 n1 c3) (.slice a4 n2 c4) false) := by rw [← hw14]; exact bc_new _ _ _ _ _
  obtain ⟨d, hd⟩ : ∃ d, w13.heap.size = d := ⟨_, rfl⟩
  rw [hd] at HD
  replace HC := hide (HC.out.below hb14)
  replace HR := hide (HR.out.below hb14)
  replace HP := hide (HP.out.below hb14)
  replace HQ := hide (HQ.out.below hb14)
  replace HA := hide (HA.out.below hb14)
  replace HB := hide (below_trans HB.out hb14)
  have HDZ : Hid (w13.heap.size = d ∧ d < w14.heap.size) := ⟨hd, HD.out.lt⟩
  clear hb14
  have d3 := HD.out.c3
  have dz3 := HD.out.fz 3
  have ds3 : w14.setCell ⟨d, 3, none⟩ (.bool false) = w14 := same_cell HD.out rfl
  have y41 := HC.out.c0
  have y42 := HC.out.c1
  have y43 := HC.out.c2
  have y44 := HC.out.c3
  have y45 := HQ.out.c0
  have y46 := HQ.out.c1
  rw [HBF.out] at y44
  rw [HBF.out] at HAT0
  go_wp2_with fail
  refine (HAT0.out w14 (HIN.out.below HB.out)).mono ?_
  clear hw14 hd y41 y42 y43 y44 y45 y46 d3 dz3 ds3
  rintro e w15 ⟨rfl, hb15⟩
  replace HC := hide (HC.out.below hb15)
  replace HR := hide (HR.out.below hb15)
  replace HP := hide (HP.out.below hb15)
  replace HQ := hide (HQ.out.below hb15)
  replace HA := hide (HA.out.below hb15)
  replace HD := hide (HD.out.below hb15)
  replace HB := hide (below_trans HB.out hb15)
  have HZ15 : Hid (w14.heap.size ≤ w15.heap.size) := hb15.size
  clear hb15
  have HEND : Hid (∀ W, Below w15.heap.size w15 W → blmC b i j n = false → (∃ d3 n3 e3 d4 n4 e4, Ending.returned (.tuple #[.agg #[.int .i64 b.t, .slice a3 n1 c3, .slice a4 n2 c4, .bool false], .bool false, .int .i64 0]) = Ending.returned (.tuple #[.agg #[.int .i64 (blmB b i j n).t, .slice d3 n3 e3, .slice d4 n4 e4, .bool (blmB b i j n).f], .bool (blmC b i j n), .int .i64 (blmE b i j n)]) ∧ Ans (set4 W r b.t (.slice a3 n1 c3) (.slice a4 n2 c4) false) w.heap.size (set4 W r b.t (.slice a3 n1 c3) (.slice a4 n2 c4) false).heap.size d3 n3 e3 (blmB b i j n).m d4 n4 e4 (blmB b i j n).r ∧ Below w.heap.size w (set4 W r b.t (.slice a3 n1 c3) (.slice a4 n2 c4) false))) := fun W hW hc => by
    have hB : blmB b i j n = hld b i := by rw [HBB.out HEE.out, if_neg (by rw [hc]; simp)]
    have hk := kp_four W r b.t (.slice a3 n1 c3) (.slice a4 n2 c4) false
    have hgq := HGQ.out
    have hss := HSZ.out
    have hza := HZA.out
    have hdz := HDZ.out
    have hzz := HZ15.out
    have hws := hW.size
    have hwi := HZW.out
    have hmm : (put b 1 i ⟨2, za, zc⟩ false) = hld b i := by rw [HHD.out, HBF.out]
    rw [hB, hc, HEE.out, HH.out.2.1, HH.out.2.2.1]
    exact ⟨_, _, _, _, _, _, rfl, ans_mono ((HA.out.below hW).kp hk (fun i e => .inl (by have h1 : i = r := e; omega))) (by omega) (Nat.le_trans (by omega) hk.size), hk.below (below_trans HB.out hW) (fun i e => by have h1 : i = r := e; omega) (by omega)⟩
  by_cases hx3 : xs ≠ 3
  · have HBC : Hid (blmC b i j n = false) := by show _ = _; rw [HDF.out]; exact decide_eq_false (fun e => hx3 e.2.1)
    have hxb : (xs != 3) = true := by simpa using hx3
    clear hx3
    have d0 := HD.out.c0
    have r0 := HR.out.c0
    have rz0 := HR.out.fz 0
    have d1 := HD.out.c1
    have r1 := HR.out.c1
    have rz1 := HR.out.fz 1
    have d2 := HD.out.c2
    have r2 := HR.out.c2
    have rz2 := HR.out.fz 2
    have d3 := HD.out.c3
    have r3 := HR.out.c3
    have rz3 := HR.out.fz 3
    go_wp2_with fail
    refine bodyPost_ret (bc_ret3 rfl _ _ r b.t _ _ _ rfl (HR.out.set4 b.t (.slice a3 n1 c3) (.slice a4 n2 c4) false)) rfl ?_
    exact HEND.out w15 (Below.refl _ _) HBC.out
  replace hx3 : xs = 3 := by omega
  have HX3 := hide hx3
  have hxb : (xs != 3) = false := by rw [hx3]; rfl
  clear hx3
  have y47 := HC.out.c0
  have y48 := HC.out.c1
  have y49 := HC.out.c2
  have y50 := HC.out.c3
  have y51 := HQ.out.c0
  have y52 := HQ.out.c1
  rw [HBF.out] at y50
  go_wp2_with fail
  refine (HAT0.out w15 (HIN.out.below HB.out)).mono ?_
  clear  y47 y48 y49 y50 y51 y52
  rintro e w16 ⟨rfl, hb16⟩
  replace HC := hide (HC.out.below hb16)
  replace HR := hide (HR.out.below hb16)
  replace HP := hide (HP.out.below hb16)
  replace HQ := hide (HQ.out.below hb16)
  replace HA := hide (HA.out.below hb16)
  replace HD := hide (HD.out.below hb16)
  replace HB := hide (below_trans HB.out hb16)
  have HZ16 : Hid (w15.heap.size ≤ w16.heap.size) := hb16.size
  have HBL := hide hb16
  clear hb16
  by_cases hxn : xa ≠ n
  · have HBC : Hid (blmC b i j n = false) := by show _ = _; rw [HDF.out]; exact decide_eq_false (fun e => hxn e.2.2.symm)
    have hxb2 : (xa != n) = true := by simpa using hxn
    clear hxn
    have d0 := HD.out.c0
    have r0 := HR.out.c0
    have rz0 := HR.out.fz 0
    have d1 := HD.out.c1
    have r1 := HR.out.c1
    have rz1 := HR.out.fz 1
    have d2 := HD.out.c2
    have r2 := HR.out.c2
    have rz2 := HR.out.fz 2
    have d3 := HD.out.c3
    have r3 := HR.out.c3
    have rz3 := HR.out.fz 3
    go_wp2_with fail
    refine bodyPost_ret (bc_ret3 rfl _ _ r b.t _ _ _ rfl (HR.out.set4 b.t (.slice a3 n1 c3) (.slice a4 n2 c4) false)) rfl ?_
    exact HEND.out w16 (HBL.out) HBC.out
  replace hxn : xa = n := by omega
  have hxb2 : (xa != n) = false := by rw [hxn]; simp
  have HBC : Hid (blmC b i j n = true) := by show _ = _; rw [HDF.out]; exact decide_eq_true ⟨HEE.out, HX3.out, hxn.symm⟩
  clear hxn
  have y53 := HD.out.c0
  have y54 := HD.out.c1
  have y55 := HD.out.c2
  have y56 := HD.out.c3
  have y57 := HQ.out.c0
  have y58 := HQ.out.c1
  have hg0 := HG0.out
  have hcg := charged_any (hld b i) 0 j a3 a4 n1 c3 n2 c4 w16 (Ans.inn (b := hld b i) HA.out HLN.out.1 HLN.out.2) HTE.out.2 (by rw [HTE.out.1]; exact ⟨hg0.2.2.2.2.1, by show xc ≤ 1000; have := hg0.2.2.2.2.2; omega⟩) HLN.out.1 HLN.out.2
  rw [HTE.out.1, HH.out.2.1, HH.out.2.2.1] at hcg
  have HCG := hide hcg
  clear hcg hg0
  go_wp2_with fail
  refine HCG.out.mono ?_
  clear  y53 y54 y55 y56 y57 y58
  rintro e w17 ⟨a5, c5, a6, c6, rfl, hA17, hb17⟩
  have HA5 := hide hA17
  replace HR := hide (HR.out.below hb17)
  have HB0 := hide HB.out
  replace HB := hide (below_trans HB.out hb17)
  have HZ17 : Hid (w16.heap.size ≤ w17.heap.size) := hb17.size
  clear hA17 hb17
  have r0 := HR.out.c0
  have rz0 := HR.out.fz 0
  have r1 := HR.out.c1
  have rz1 := HR.out.fz 1
  have r2 := HR.out.c2
  have rz2 := HR.out.fz 2
  have r3 := HR.out.c3
  have rz3 := HR.out.fz 3
  go_wp2_with fail
  have hk := kp_four w17 r b.t (.slice a5 n1 c5) (.slice a6 n2 c6) (decide (xc + 1 = b.t))
  have hgq := HGQ.out
  have hss := HSZ.out
  have hdz := HDZ.out
  have hzz := HZ16.out
  have hzy := HZ15.out
  have hzx := HZ17.out
  have hbs := HB0.out.size
  have hza := HZA.out
  have hzw := HZW.out
  have hB : blmB b i j n = chg (hld b i) 0 j := by rw [HBB.out HEE.out, if_pos HBC.out]
  have hT : (chg (hld b i) 0 j).t = b.t ∧ (chg (hld b i) 0 j).f = decide (xc + 1 = b.t) := ⟨HH.out.2.2.1, by show decide ((tsk (hld b i) 0 j).c + 1 = (hld b i).t) = _; rw [HTE.out.1, HH.out.2.2.1]⟩
  refine bodyPost_ret (bc_ret3 rfl _ _ r b.t _ _ _ rfl (HR.out.set4 b.t (.slice a5 n1 c5) (.slice a6 n2 c6) (decide (xc + 1 = b.t)))) rfl ?_
  rw [hB, hT.1, hT.2, HBC.out, HEE.out]
  exact ⟨_, _, _, _, _, _, rfl, ans_mono (HA5.out.kp hk (fun i e => .inl (by have h1 : i = r := e; omega))) (by omega) hk.size, hk.below HB.out (fun i e => by have h1 : i = r := e; omega) (by omega)⟩
end Go.Proofs.YtgpfabblmoffiaaDoor.Lg
