/-
  Done, Died: the program's answers.
-/
import Derived.Test.YtgpfabblmoffiaaDoorLgCn
namespace Go.Proofs.YtgpfabblmoffiaaDoor.Lg
open Go.ChangeShapes Go.WideShapes Go.ChangeAt Go.RowKit
open Go.Proofs.YtgpfabblmoffiaaDoor.Base Go.Proofs.YtgpfabblmoffiaaDoor.Rf
set_option linter.unusedVariables false
/-- A book as it is handed in. -/
structure Inn (w : World) (b : Bk) (a1 : Option Addr) (n1 c1 : Nat) (a2 : Option Addr) (n2 c2 : Nat) : Prop where
  r1 : RdT w a1 n1 b.m
  r2 : RdT w a2 n2 b.r
  z1 : a1 = none → n1 = 0 ∧ c1 = 0
  z2 : a2 = none → n2 = 0 ∧ c2 = 0
theorem Inn.below {w w' : World} {b : Bk} {a1 : Option Addr} {n1 c1 : Nat} {a2 : Option Addr} {n2 c2 : Nat} (h : Inn w b a1 n1 c1 a2 n2 c2) (hb : Below w.heap.size w w') : Inn w' b a1 n1 c1 a2 n2 c2 := ⟨h.r1.below hb, h.r2.below hb, h.z1, h.z2⟩
theorem refE_bad {b : Bk} {K i : Int} (h : chk b = false) : refE b K i = 190 := by unfold refE; rw [if_pos h]
theorem refE_task {b : Bk} {K i : Int} (h : chk b = true) (h2 : thr b K i = false) : refE b K i = 191 := by unfold refE; rw [if_neg (by rw [h]; simp), if_pos h2]
theorem refE_ok {b : Bk} {K i : Int} (h : chk b = true) (h2 : thr b K i = true) : refE b K i = 0 := by unfold refE; rw [if_neg (by rw [h]; simp), if_neg (by rw [h2]; simp)]
theorem thrN_one (b : Bk) (K i : Int) : thrN b (fun _ => (K, i)) 1 = thr b K i := by simp [thrN]
theorem tsk_below {b : Bk} (h : Ok b) (hf : b.f = false) {K i : Int} (ht : thr b K i = true) : (tsk b K i).c < b.t := by
  obtain ⟨h1, h2, h3⟩ := thr_kind ht
  unfold tsk
  rcases h3 with ⟨rfl, h3⟩ | ⟨rfl, h3⟩ <;> rw [h3] at h2 ⊢
  · exact (h.below hf).1 _ h2
  · exact (h.below hf).2 _ h2
theorem aft1 {s : Int} (h : 0 ≤ s ∧ s ≤ 3) : (aft (1 : Nat) s ≠ -1 ↔ s = 1) ∧ aft (1 : Nat) 1 = 3 := by
  refine ⟨?_, by decide⟩
  rcases (show s = 0 ∨ s = 1 ∨ s = 2 ∨ s = 3 by omega) with rfl | rfl | rfl | rfl <;> decide
theorem aft2 {s : Int} (h : 0 ≤ s ∧ s ≤ 3) : (aft (2 : Nat) s ≠ -1 ↔ s = 1) ∧ aft (2 : Nat) 1 = 0 := by
  refine ⟨?_, by decide⟩
  rcases (show s = 0 ∨ s = 1 ∨ s = 2 ∨ s = 3 by omega) with rfl | rfl | rfl | rfl <;> decide
theorem aft3 {s : Int} (h : 0 ≤ s ∧ s ≤ 3) : (aft (3 : Nat) s ≠ -1 ↔ s = 1) ∧ aft (3 : Nat) 1 = 2 := by
  refine ⟨?_, by decide⟩
  rcases (show s = 0 ∨ s = 1 ∨ s = 2 ∨ s = 3 by omega) with rfl | rfl | rfl | rfl <;> decide
theorem aft4 {s : Int} (h : 0 ≤ s ∧ s ≤ 3) : (aft (4 : Nat) s ≠ -1 ↔ s = 3) ∧ aft (4 : Nat) 3 = 0 := by
  refine ⟨?_, by decide⟩
  rcases (show s = 0 ∨ s = 1 ∨ s = 2 ∨ s = 3 by omega) with rfl | rfl | rfl | rfl <;> decide
theorem aft0 {s : Int} (h : 0 ≤ s ∧ s ≤ 3) : (aft (0 : Nat) s ≠ -1 ↔ pBeg s = true) ∧ (pBeg s = true → aft (0 : Nat) s = 1) := by
  rcases (show s = 0 ∨ s = 1 ∨ s = 2 ∨ s = 3 by omega) with rfl | rfl | rfl | rfl <;> decide
theorem endE_ref {b : Bk} {K i : Int} (h : refE b K i ≠ 0) : endE b K i = refE b K i := by unfold endE; rw [if_pos h]
theorem endE_state {b : Bk} {K i : Int} (h : refE b K i = 0) (h2 : b.f = true ∨ (tsk b K i).s ≠ 1) : endE b K i = 192 := by unfold endE; rw [if_neg (by omega), if_pos h2]
theorem endE_ok {b : Bk} {K i : Int} (h : refE b K i = 0) (h1 : b.f = false) (h2 : (tsk b K i).s = 1) : endE b K i = 0 := by
  unfold endE
  rw [if_neg (by omega), if_neg (by rw [h1]; rintro (h | h); cases h; exact h h2)]
set_option maxHeartbeats 4000000 in
set_option maxRecDepth 100000 in
theorem done_any (b : Bk) (K i : Int) (a1 a2 : Option Addr) (n1 c1 n2 c2 : Nat) (w : World) (ht : Tab w) (hi : Inn w b a1 n1 c1 a2 n2 c2) :
    Calls Tryd.prog 42 #[.agg #[.int .i64 b.t, .slice a1 n1 c1, .slice a2 n2 c2, .bool b.f], .agg #[.int .i64 K, .int .i64 i]] w fun e w' => ∃ a3 n3 c3 a4 n4 c4, e = .returned (.tuple #[.agg #[.int .i64 (dneB b K i).t, .slice a3 n3 c3, .slice a4 n4 c4, .bool (dneB b K i).f], .int .i64 (endE b K i)]) ∧ Ans w' w.heap.size w'.heap.size a3 n3 c3 (dneB b K i).m a4 n4 c4 (dneB b K i).r ∧ Below w.heap.size w w' := by
  obtain ⟨w1, hw1⟩ : ∃ w1, w.alloc (.cells #[.int .i64 b.t, .slice a1 n1 c1, .slice a2 n2 c2, .bool b.f] 26) = w1 := ⟨_, rfl⟩
  have HB1 : Hid (Below w.heap.size w w1) := by rw [← hw1]; exact (Below.refl _ _).alloc (Nat.le_refl _) _
  have hC1 : BC w1 w.heap.size b.t (.slice a1 n1 c1) (.slice a2 n2 c2) b.f := by rw [← hw1]; exact bc_new _ _ _ _ _
  obtain ⟨w2, hw2⟩ : ∃ w2, w1.alloc (.cells #[.int .i64 K, .int .i64 i] 37) = w2 := ⟨_, rfl⟩
  have hb2 : Below w1.heap.size w1 w2 := by rw [← hw2]; exact (Below.refl _ _).alloc (Nat.le_refl _) _
  have hC2 : w2.heap[w1.heap.size]? = some (.cells #[.int .i64 K, .int .i64 i] 37) := by rw [← hw2]; exact heap_alloc_new _ _
  obtain ⟨w3, hw3⟩ : ∃ w3, w2.alloc (.cells #[.int .i64 0, .slice none 0 0, .slice none 0 0, .bool false] 26) = w3 := ⟨_, rfl⟩
  have hb3 : Below w2.heap.size w2 w3 := by rw [← hw3]; exact (Below.refl _ _).alloc (Nat.le_refl _) _
  have hC3 : BC w3 w2.heap.size 0 (.slice none 0 0) (.slice none 0 0) false := by rw [← hw3]; exact bc_new _ _ _ _ _
  obtain ⟨w4, hw4⟩ : ∃ w4, w3.alloc (.cells #[.int .i64 K, .int .i64 i] 37) = w4 := ⟨_, rfl⟩
  have hb4 : Below w3.heap.size w3 w4 := by rw [← hw4]; exact (Below.refl _ _).alloc (Nat.le_refl _) _
  have hC4 : w4.heap[w3.heap.size]? = some (.cells #[.int .i64 K, .int .i64 i] 37) := by rw [← hw4]; exact heap_alloc_new _ _
  have HB3 : Hid (Below w.heap.size w w3) := below_trans HB1.out (below_trans hb2 hb3)
  have HB4 : Hid (Below w.heap.size w w4) := below_trans HB3.out hb4
  have HC13 := hide ((hC1.below hb2).below hb3)
  have HC1 := hide (((hC1.below hb2).below hb3).below hb4)
  have hq1 : w1.heap.size < w2.heap.size := (Array.getElem?_eq_some_iff.1 hC2).1
  have HQ3 : Hid (w3.heap[w1.heap.size]? = some (.cells #[.int .i64 K, .int .i64 i] 37)) := (hb3.block _ hq1).trans hC2
  have HC2 : Hid (w4.heap[w1.heap.size]? = some (.cells #[.int .i64 K, .int .i64 i] 37)) := (hb4.block _ (Nat.lt_of_lt_of_le hq1 hb3.size)).trans HQ3.out
  have HC3 := hide (hC3.below hb4)
  have HTL : Hid (TL w4 w3.heap.size 1 (fun _ => (K, i))) := ⟨(Array.getElem?_eq_some_iff.1 hC4).1, fun j hj => by
    obtain rfl : j = 0 := by omega
    exact ⟨by rw [cell_of_row _ _ _ _ _ _ hC4]; rfl, by rw [cell_of_row _ _ _ _ _ _ hC4]; rfl⟩⟩
  have HLT : Hid (w.heap.size < w1.heap.size ∧ w1.heap.size < w2.heap.size ∧ w2.heap.size < w3.heap.size ∧ w3.heap.size < w4.heap.size) := ⟨hC1.lt, hq1, hC3.lt, (Array.getElem?_eq_some_iff.1 hC4).1⟩
  have HTA := hide ht
  have HIN := hide hi
  clear hC1 hC2 hC3 hC4 hb2 hb3 hb4 hq1 ht hi
  have HRF := hide (refuse_any b a1 a2 n1 c1 n2 c2 w3.heap.size 1 1 (fun _ => (K, i)) w4 (HTA.out.below HB4.out) (HIN.out.r1.below HB4.out) (HIN.out.r2.below HB4.out) HTL.out (by omega))
  obtain ⟨g, hg⟩ : ∃ g, w.heap.size = g := ⟨_, rfl⟩
  obtain ⟨q, hq⟩ : ∃ q, w1.heap.size = q := ⟨_, rfl⟩
  obtain ⟨r, hr⟩ : ∃ r, w2.heap.size = r := ⟨_, rfl⟩
  obtain ⟨p, hp⟩ : ∃ p, w3.heap.size = p := ⟨_, rfl⟩
  rw [hg] at HC1 HC13
  rw [hq] at HC2 HQ3
  rw [hr] at HC3
  rw [hp] at HRF
  have HGQ : Hid (w.heap.size = g ∧ g < q ∧ q < r ∧ r < p ∧ p < w4.heap.size) := by
    obtain ⟨l1, l2, l3, l4⟩ := HLT.out
    exact ⟨hg, by omega, by omega, by omega, by omega⟩
  have x0 := HC13.out.c0
  have x1 := HC13.out.c1
  have x2 := HC13.out.c2
  have x3 := HC13.out.c3
  have q0 : w3.cell? ⟨q, 0, none⟩ = some (.int .i64 K) := by rw [cell_of_row _ _ _ _ _ _ HQ3.out]; rfl
  have q1 : w3.cell? ⟨q, 1, none⟩ = some (.int .i64 i) := by rw [cell_of_row _ _ _ _ _ _ HQ3.out]; rfl
  have HE : Hid (∀ W, Below w4.heap.size w4 W → Below w.heap.size w (set4 W r 0 (.slice none 0 0) (.slice none 0 0) false)) := fun W hW => (below_trans HB4.out hW).grown (grown_set4 W r 0 _ _ false) (by have := HB4.out.size; have := hW.size; omega) (fun i e => by cases e; have := HGQ.out; omega)
  go_enter Tryd.func42, Tryd.ntmps42
  go_wp2_with fail
  refine HRF.out.mono ?_
  clear hw1 hw2 hw3 hw4 hg hq hr hp x0 x1 x2 x3 q0 q1
  rintro e w5 ⟨rfl, hb5⟩
  have HB5 := hide hb5
  have HC15 := hide (HC1.out.below hb5)
  have HC35 := hide (HC3.out.below hb5)
  have HQ5 : Hid (w5.heap[q]? = some (.cells #[.int .i64 K, .int .i64 i] 37)) := (hb5.block q (by have := HGQ.out; omega)).trans HC2.out
  clear hb5
  have r0 := HC35.out.c0
  have r1 := HC35.out.c1
  have r2 := HC35.out.c2
  have r3 := HC35.out.c3
  have z0' := HC35.out.fz 0
  have z1' := HC35.out.fz 1
  have z2' := HC35.out.fz 2
  have z3' := HC35.out.fz 3
  rcases Bool.eq_false_or_eq_true (chk b) with hc | hc
  · rcases Bool.eq_false_or_eq_true (thr b K i) with hth | hth
    · rw [refN_ok hc (by rw [thrN_one]; exact hth)]
      have hre := refE_ok hc hth
      have hok := chk_ok hc
      have hgd := good_small (tsk_good hok hth) hok.t2
      have HOK := hide hok
      have x0 := HC15.out.c0
      have x1 := HC15.out.c1
      have x2 := HC15.out.c2
      have x3 := HC15.out.c3
      have q0 : w5.cell? ⟨q, 0, none⟩ = some (.int .i64 K) := by rw [cell_of_row _ _ _ _ _ _ HQ5.out]; rfl
      have q1 : w5.cell? ⟨q, 1, none⟩ = some (.int .i64 i) := by rw [cell_of_row _ _ _ _ _ _ HQ5.out]; rfl
      have HB45 := hide (below_trans HB4.out HB5.out)
      have hin := HIN.out.below HB45.out
      by_cases hfs : b.f = false ∧ (tsk b K i).s = 1
      · obtain ⟨hf, hs⟩ := hfs
        have HCG := hide (changed_ok b K i 1 a1 a2 n1 c1 n2 c2 68 #[] (fun _ => False) (fun _ => True) (fun _ => True) (tsk b K i) w5 (HTA.out.below HB45.out) hin.r1 hin.r2 hok hth (by omega) hf (by rw [hs]; decide) hin.z1 hin.z2 (enterC Tryd.func68 (by kernel_rfl) (by kernel_rfl)) (acts_done _) (fun _ _ => trivial) (fun _ _ _ _ _ _ => trivial) (fun _ h => h.elim) rfl)
        have HEE := hide (endE_ok hre hf hs)
        have HBB : Hid (dneB b K i = put b K i ⟨aft (1 : Nat) 1, (tsk b K i).a, (tsk b K i).c⟩ (decide ((tsk b K i).c = b.t))) := by
          show _ = _
          unfold dneB
          rw [if_pos HEE.out]
          have hlt := tsk_below HOK.out hf hth
          rw [hf, show decide ((tsk b K i).c = b.t) = false from decide_eq_false (by omega)]
          rfl
        rw [hs] at HCG
        clear hc hre hok hgd hin hf hs hth
        go_wp2_with fail
        refine HCG.out.mono ?_
        clear x0 x1 x2 x3 q0 q1 r0 r1 r2 r3 z0' z1' z2' z3'
        rintro e w6 ⟨a3, c3, a4, c4, rfl, hA6, hK6, -⟩
        have HA6 := hide hA6
        have HB6 : Hid (Below w5.heap.size w5 w6) := hK6.below (Below.refl _ _) (fun i e => e.elim) (Nat.le_refl _)
        clear hA6 hK6
        have HC36 := hide (HC35.out.below HB6.out)
        have r0 := HC36.out.c0
        have r1 := HC36.out.c1
        have r2 := HC36.out.c2
        have r3 := HC36.out.c3
        have z0' := HC36.out.fz 0
        have z1' := HC36.out.fz 1
        have z2' := HC36.out.fz 2
        have z3' := HC36.out.fz 3
        go_wp2_with fail
        have hk7 := kp_four w6 r b.t (.slice a3 n1 c3) (.slice a4 n2 c4) (decide (((tsk b K i)).c = b.t))
        refine bodyPost_ret (bc_ret2 rfl _ _ r b.t _ _ _ rfl (HC36.out.set4 b.t (.slice a3 n1 c3) (.slice a4 n2 c4) (decide (((tsk b K i)).c = b.t)))) rfl ?_
        have hlt := HB5.out.size
        have hgq := HGQ.out
        have hA7 := ans_mono (HA6.out.kp hk7 (fun i e => .inl (by omega))) HB45.out.size hk7.size
        rw [HBB.out, HEE.out]
        exact ⟨_, _, _, _, _, _, rfl, hA7, hk7.below (below_trans HB45.out HB6.out) (fun i e => by omega) (by have := HB45.out.size; have := HB6.out.size; omega)⟩
      · have hfs2 : b.f = true ∨ (tsk b K i).s ≠ 1 := by
          cases hbf : b.f with
          | true => exact .inl rfl
          | false => exact .inr (fun e => hfs ⟨hbf, e⟩)
        have HCG := hide (changed_no b K i 1 a1 a2 n1 c1 n2 c2 68 #[] w5 (HTA.out.below HB45.out) hin.r1 hin.r2 hok hth (by omega) (by
          cases hbf : b.f with
          | true => exact .inl rfl
          | false => exact .inr ⟨rfl, by
            rcases hfs2 with h | h
            · rw [hbf] at h; cases h
            · exact Classical.byContradiction (fun h2 => h ((aft1 ⟨hgd.1, hgd.2.1⟩).1.1 h2))⟩))
        have HEE := hide (endE_state hre hfs2)
        have HBB : Hid (dneB b K i = nob) := by
          show _ = _
          unfold dneB
          rw [if_neg (by rw [HEE.out]; omega)]
        clear hc hre hok hgd hin hfs hfs2 hth
        go_wp2_with fail
        refine HCG.out.mono ?_
        clear x0 x1 x2 x3 q0 q1 r0 r1 r2 r3 z0' z1' z2' z3'
        rintro e w6 ⟨rfl, hb6⟩
        have HB6 := hide hb6
        clear hb6
        have HC36 := hide (HC35.out.below HB6.out)
        have r0 := HC36.out.c0
        have r1 := HC36.out.c1
        have r2 := HC36.out.c2
        have r3 := HC36.out.c3
        have z0' := HC36.out.fz 0
        have z1' := HC36.out.fz 1
        have z2' := HC36.out.fz 2
        have z3' := HC36.out.fz 3
        go_wp2_with fail
        refine bodyPost_ret (bc_ret2 rfl _ _ r 0 _ _ false rfl (HC36.out.set4 0 (.slice none 0 0) (.slice none 0 0) false)) rfl ?_
        rw [HBB.out, HEE.out]
        exact ⟨none, 0, 0, none, 0, 0, rfl, ans_nil _ _ _, HE.out _ (below_trans HB5.out HB6.out)⟩
    · rw [refN_task hc (by rw [thrN_one]; exact hth)]
      have HEE := hide ((endE_ref (by rw [refE_task hc hth]; omega)).trans (refE_task hc hth))
      have HBB : Hid (dneB b K i = nob) := by
        show _ = _
        unfold dneB
        rw [if_neg (by rw [HEE.out]; omega)]
      clear hc hth
      go_wp2_with fail
      refine bodyPost_ret (bc_ret2 rfl _ _ r 0 _ _ false rfl (HC35.out.set4 0 (.slice none 0 0) (.slice none 0 0) false)) rfl ?_
      rw [HBB.out, HEE.out]
      exact ⟨none, 0, 0, none, 0, 0, rfl, ans_nil _ _ _, HE.out _ HB5.out⟩
  · rw [refN_bad hc]
    have HEE := hide ((endE_ref (by rw [refE_bad (K := K) (i := i) hc]; omega)).trans (refE_bad (K := K) (i := i) hc))
    have HBB : Hid (dneB b K i = nob) := by
      show _ = _
      unfold dneB
      rw [if_neg (by rw [HEE.out]; omega)]
    clear hc
    go_wp2_with fail
    refine bodyPost_ret (bc_ret2 rfl _ _ r 0 _ _ false rfl (HC35.out.set4 0 (.slice none 0 0) (.slice none 0 0) false)) rfl ?_
    rw [HBB.out, HEE.out]
    exact ⟨none, 0, 0, none, 0, 0, rfl, ans_nil _ _ _, HE.out _ HB5.out⟩
set_option maxHeartbeats 4000000 in
set_option maxRecDepth 100000 in
theorem died_any (b : Bk) (K i : Int) (a1 a2 : Option Addr) (n1 c1 n2 c2 : Nat) (w : World) (ht : Tab w) (hi : Inn w b a1 n1 c1 a2 n2 c2) :
    Calls Tryd.prog 41 #[.agg #[.int .i64 b.t, .slice a1 n1 c1, .slice a2 n2 c2, .bool b.f], .agg #[.int .i64 K, .int .i64 i]] w fun e w' => ∃ a3 n3 c3 a4 n4 c4, e = .returned (.tuple #[.agg #[.int .i64 (dieB b K i).t, .slice a3 n3 c3, .slice a4 n4 c4, .bool (dieB b K i).f], .int .i64 (endE b K i)]) ∧ Ans w' w.heap.size w'.heap.size a3 n3 c3 (dieB b K i).m a4 n4 c4 (dieB b K i).r ∧ Below w.heap.size w w' := by
  obtain ⟨w1, hw1⟩ : ∃ w1, w.alloc (.cells #[.int .i64 b.t, .slice a1 n1 c1, .slice a2 n2 c2, .bool b.f] 26) = w1 := ⟨_, rfl⟩
  have HB1 : Hid (Below w.heap.size w w1) := by rw [← hw1]; exact (Below.refl _ _).alloc (Nat.le_refl _) _
  have hC1 : BC w1 w.heap.size b.t (.slice a1 n1 c1) (.slice a2 n2 c2) b.f := by rw [← hw1]; exact bc_new _ _ _ _ _
  obtain ⟨w2, hw2⟩ : ∃ w2, w1.alloc (.cells #[.int .i64 K, .int .i64 i] 37) = w2 := ⟨_, rfl⟩
  have hb2 : Below w1.heap.size w1 w2 := by rw [← hw2]; exact (Below.refl _ _).alloc (Nat.le_refl _) _
  have hC2 : w2.heap[w1.heap.size]? = some (.cells #[.int .i64 K, .int .i64 i] 37) := by rw [← hw2]; exact heap_alloc_new _ _
  obtain ⟨w3, hw3⟩ : ∃ w3, w2.alloc (.cells #[.int .i64 0, .slice none 0 0, .slice none 0 0, .bool false] 26) = w3 := ⟨_, rfl⟩
  have hb3 : Below w2.heap.size w2 w3 := by rw [← hw3]; exact (Below.refl _ _).alloc (Nat.le_refl _) _
  have hC3 : BC w3 w2.heap.size 0 (.slice none 0 0) (.slice none 0 0) false := by rw [← hw3]; exact bc_new _ _ _ _ _
  obtain ⟨w4, hw4⟩ : ∃ w4, w3.alloc (.cells #[.int .i64 K, .int .i64 i] 37) = w4 := ⟨_, rfl⟩
  have hb4 : Below w3.heap.size w3 w4 := by rw [← hw4]; exact (Below.refl _ _).alloc (Nat.le_refl _) _
  have hC4 : w4.heap[w3.heap.size]? = some (.cells #[.int .i64 K, .int .i64 i] 37) := by rw [← hw4]; exact heap_alloc_new _ _
  have HB3 : Hid (Below w.heap.size w w3) := below_trans HB1.out (below_trans hb2 hb3)
  have HB4 : Hid (Below w.heap.size w w4) := below_trans HB3.out hb4
  have HC13 := hide ((hC1.below hb2).below hb3)
  have HC1 := hide (((hC1.below hb2).below hb3).below hb4)
  have hq1 : w1.heap.size < w2.heap.size := (Array.getElem?_eq_some_iff.1 hC2).1
  have HQ3 : Hid (w3.heap[w1.heap.size]? = some (.cells #[.int .i64 K, .int .i64 i] 37)) := (hb3.block _ hq1).trans hC2
  have HC2 : Hid (w4.heap[w1.heap.size]? = some (.cells #[.int .i64 K, .int .i64 i] 37)) := (hb4.block _ (Nat.lt_of_lt_of_le hq1 hb3.size)).trans HQ3.out
  have HC3 := hide (hC3.below hb4)
  have HTL : Hid (TL w4 w3.heap.size 1 (fun _ => (K, i))) := ⟨(Array.getElem?_eq_some_iff.1 hC4).1, fun j hj => by
    obtain rfl : j = 0 := by omega
    exact ⟨by rw [cell_of_row _ _ _ _ _ _ hC4]; rfl, by rw [cell_of_row _ _ _ _ _ _ hC4]; rfl⟩⟩
  have HLT : Hid (w.heap.size < w1.heap.size ∧ w1.heap.size < w2.heap.size ∧ w2.heap.size < w3.heap.size ∧ w3.heap.size < w4.heap.size) := ⟨hC1.lt, hq1, hC3.lt, (Array.getElem?_eq_some_iff.1 hC4).1⟩
  have HTA := hide ht
  have HIN := hide hi
  clear hC1 hC2 hC3 hC4 hb2 hb3 hb4 hq1 ht hi
  have HRF := hide (refuse_any b a1 a2 n1 c1 n2 c2 w3.heap.size 1 1 (fun _ => (K, i)) w4 (HTA.out.below HB4.out) (HIN.out.r1.below HB4.out) (HIN.out.r2.below HB4.out) HTL.out (by omega))
  obtain ⟨g, hg⟩ : ∃ g, w.heap.size = g := ⟨_, rfl⟩
  obtain ⟨q, hq⟩ : ∃ q, w1.heap.size = q := ⟨_, rfl⟩
  obtain ⟨r, hr⟩ : ∃ r, w2.heap.size = r := ⟨_, rfl⟩
  obtain ⟨p, hp⟩ : ∃ p, w3.heap.size = p := ⟨_, rfl⟩
  rw [hg] at HC1 HC13
  rw [hq] at HC2 HQ3
  rw [hr] at HC3
  rw [hp] at HRF
  have HGQ : Hid (w.heap.size = g ∧ g < q ∧ q < r ∧ r < p ∧ p < w4.heap.size) := by
    obtain ⟨l1, l2, l3, l4⟩ := HLT.out
    exact ⟨hg, by omega, by omega, by omega, by omega⟩
  have x0 := HC13.out.c0
  have x1 := HC13.out.c1
  have x2 := HC13.out.c2
  have x3 := HC13.out.c3
  have q0 : w3.cell? ⟨q, 0, none⟩ = some (.int .i64 K) := by rw [cell_of_row _ _ _ _ _ _ HQ3.out]; rfl
  have q1 : w3.cell? ⟨q, 1, none⟩ = some (.int .i64 i) := by rw [cell_of_row _ _ _ _ _ _ HQ3.out]; rfl
  have HE : Hid (∀ W, Below w4.heap.size w4 W → Below w.heap.size w (set4 W r 0 (.slice none 0 0) (.slice none 0 0) false)) := fun W hW => (below_trans HB4.out hW).grown (grown_set4 W r 0 _ _ false) (by have := HB4.out.size; have := hW.size; omega) (fun i e => by cases e; have := HGQ.out; omega)
  go_enter Tryd.func41, Tryd.ntmps41
  go_wp2_with fail
  refine HRF.out.mono ?_
  clear hw1 hw2 hw3 hw4 hg hq hr hp x0 x1 x2 x3 q0 q1
  rintro e w5 ⟨rfl, hb5⟩
  have HB5 := hide hb5
  have HC15 := hide (HC1.out.below hb5)
  have HC35 := hide (HC3.out.below hb5)
  have HQ5 : Hid (w5.heap[q]? = some (.cells #[.int .i64 K, .int .i64 i] 37)) := (hb5.block q (by have := HGQ.out; omega)).trans HC2.out
  clear hb5
  have r0 := HC35.out.c0
  have r1 := HC35.out.c1
  have r2 := HC35.out.c2
  have r3 := HC35.out.c3
  have z0' := HC35.out.fz 0
  have z1' := HC35.out.fz 1
  have z2' := HC35.out.fz 2
  have z3' := HC35.out.fz 3
  rcases Bool.eq_false_or_eq_true (chk b) with hc | hc
  · rcases Bool.eq_false_or_eq_true (thr b K i) with hth | hth
    · rw [refN_ok hc (by rw [thrN_one]; exact hth)]
      have hre := refE_ok hc hth
      have hok := chk_ok hc
      have hgd := good_small (tsk_good hok hth) hok.t2
      have HOK := hide hok
      have x0 := HC15.out.c0
      have x1 := HC15.out.c1
      have x2 := HC15.out.c2
      have x3 := HC15.out.c3
      have q0 : w5.cell? ⟨q, 0, none⟩ = some (.int .i64 K) := by rw [cell_of_row _ _ _ _ _ _ HQ5.out]; rfl
      have q1 : w5.cell? ⟨q, 1, none⟩ = some (.int .i64 i) := by rw [cell_of_row _ _ _ _ _ _ HQ5.out]; rfl
      have HB45 := hide (below_trans HB4.out HB5.out)
      have hin := HIN.out.below HB45.out
      by_cases hfs : b.f = false ∧ (tsk b K i).s = 1
      · obtain ⟨hf, hs⟩ := hfs
        have HCG := hide (changed_ok b K i 2 a1 a2 n1 c1 n2 c2 67 #[] (fun _ => False) (fun _ => True) (fun _ => True) ⟨(tsk b K i).s, (tsk b K i).a, (tsk b K i).c + 1⟩ w5 (HTA.out.below HB45.out) hin.r1 hin.r2 hok hth (by omega) hf (by rw [hs]; decide) hin.z1 hin.z2 (enterC Tryd.func67 (by kernel_rfl) (by kernel_rfl)) (acts_die _ (by have := hgd; omega) (by have := hgd; omega)) (fun _ _ => trivial) (fun _ _ _ _ _ _ => trivial) (fun _ h => h.elim) rfl)
        have HEE := hide (endE_ok hre hf hs)
        have HBB : Hid (dieB b K i = put b K i ⟨aft (2 : Nat) 1, (tsk b K i).a, (tsk b K i).c + 1⟩ (decide ((tsk b K i).c + 1 = b.t))) := by
          show _ = _
          unfold dieB
          rw [if_pos HEE.out]
          rfl
        rw [hs] at HCG
        clear hc hre hok hgd hin hf hs hth
        go_wp2_with fail
        refine HCG.out.mono ?_
        clear x0 x1 x2 x3 q0 q1 r0 r1 r2 r3 z0' z1' z2' z3'
        rintro e w6 ⟨a3, c3, a4, c4, rfl, hA6, hK6, -⟩
        have HA6 := hide hA6
        have HB6 : Hid (Below w5.heap.size w5 w6) := hK6.below (Below.refl _ _) (fun i e => e.elim) (Nat.le_refl _)
        clear hA6 hK6
        have HC36 := hide (HC35.out.below HB6.out)
        have r0 := HC36.out.c0
        have r1 := HC36.out.c1
        have r2 := HC36.out.c2
        have r3 := HC36.out.c3
        have z0' := HC36.out.fz 0
        have z1' := HC36.out.fz 1
        have z2' := HC36.out.fz 2
        have z3' := HC36.out.fz 3
        go_wp2_with fail
        have hk7 := kp_four w6 r b.t (.slice a3 n1 c3) (.slice a4 n2 c4) (decide ((tsk b K i).c + 1 = b.t))
        refine bodyPost_ret (bc_ret2 rfl _ _ r b.t _ _ _ rfl (HC36.out.set4 b.t (.slice a3 n1 c3) (.slice a4 n2 c4) (decide ((tsk b K i).c + 1 = b.t)))) rfl ?_
        have hlt := HB5.out.size
        have hgq := HGQ.out
        have hA7 := ans_mono (HA6.out.kp hk7 (fun i e => .inl (by omega))) HB45.out.size hk7.size
        rw [HBB.out, HEE.out]
        exact ⟨_, _, _, _, _, _, rfl, hA7, hk7.below (below_trans HB45.out HB6.out) (fun i e => by omega) (by have := HB45.out.size; have := HB6.out.size; omega)⟩
      · have hfs2 : b.f = true ∨ (tsk b K i).s ≠ 1 := by
          cases hbf : b.f with
          | true => exact .inl rfl
          | false => exact .inr (fun e => hfs ⟨hbf, e⟩)
        have HCG := hide (changed_no b K i 2 a1 a2 n1 c1 n2 c2 67 #[] w5 (HTA.out.below HB45.out) hin.r1 hin.r2 hok hth (by omega) (by
          cases hbf : b.f with
          | true => exact .inl rfl
          | false => exact .inr ⟨rfl, by
            rcases hfs2 with h | h
            · rw [hbf] at h; cases h
            · exact Classical.byContradiction (fun h2 => h ((aft2 ⟨hgd.1, hgd.2.1⟩).1.1 h2))⟩))
        have HEE := hide (endE_state hre hfs2)
        have HBB : Hid (dieB b K i = nob) := by
          show _ = _
          unfold dieB
          rw [if_neg (by rw [HEE.out]; omega)]
        clear hc hre hok hgd hin hfs hfs2 hth
        go_wp2_with fail
        refine HCG.out.mono ?_
        clear x0 x1 x2 x3 q0 q1 r0 r1 r2 r3 z0' z1' z2' z3'
        rintro e w6 ⟨rfl, hb6⟩
        have HB6 := hide hb6
        clear hb6
        have HC36 := hide (HC35.out.below HB6.out)
        have r0 := HC36.out.c0
        have r1 := HC36.out.c1
        have r2 := HC36.out.c2
        have r3 := HC36.out.c3
        have z0' := HC36.out.fz 0
        have z1' := HC36.out.fz 1
        have z2' := HC36.out.fz 2
        have z3' := HC36.out.fz 3
        go_wp2_with fail
        refine bodyPost_ret (bc_ret2 rfl _ _ r 0 _ _ false rfl (HC36.out.set4 0 (.slice none 0 0) (.slice none 0 0) false)) rfl ?_
        rw [HBB.out, HEE.out]
        exact ⟨none, 0, 0, none, 0, 0, rfl, ans_nil _ _ _, HE.out _ (below_trans HB5.out HB6.out)⟩
    · rw [refN_task hc (by rw [thrN_one]; exact hth)]
      have HEE := hide ((endE_ref (by rw [refE_task hc hth]; omega)).trans (refE_task hc hth))
      have HBB : Hid (dieB b K i = nob) := by
        show _ = _
        unfold dieB
        rw [if_neg (by rw [HEE.out]; omega)]
      clear hc hth
      go_wp2_with fail
      refine bodyPost_ret (bc_ret2 rfl _ _ r 0 _ _ false rfl (HC35.out.set4 0 (.slice none 0 0) (.slice none 0 0) false)) rfl ?_
      rw [HBB.out, HEE.out]
      exact ⟨none, 0, 0, none, 0, 0, rfl, ans_nil _ _ _, HE.out _ HB5.out⟩
  · rw [refN_bad hc]
    have HEE := hide ((endE_ref (by rw [refE_bad (K := K) (i := i) hc]; omega)).trans (refE_bad (K := K) (i := i) hc))
    have HBB : Hid (dieB b K i = nob) := by
      show _ = _
      unfold dieB
      rw [if_neg (by rw [HEE.out]; omega)]
    clear hc
    go_wp2_with fail
    refine bodyPost_ret (bc_ret2 rfl _ _ r 0 _ _ false rfl (HC35.out.set4 0 (.slice none 0 0) (.slice none 0 0) false)) rfl ?_
    rw [HBB.out, HEE.out]
    exact ⟨none, 0, 0, none, 0, 0, rfl, ans_nil _ _ _, HE.out _ HB5.out⟩
end Go.Proofs.YtgpfabblmoffiaaDoor.Lg
