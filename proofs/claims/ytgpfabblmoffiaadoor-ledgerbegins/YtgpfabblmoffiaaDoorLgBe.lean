/-
  Begin: the program's answer.
-/
import Derived.Test.YtgpfabblmoffiaaDoorLgO
namespace Go.Proofs.YtgpfabblmoffiaaDoor.Lg
open Go.ChangeShapes Go.WideShapes Go.ChangeAt Go.RowKit
open Go.Proofs.YtgpfabblmoffiaaDoor.Base Go.Proofs.YtgpfabblmoffiaaDoor.Rf
set_option linter.unusedVariables false
theorem cell_same {w : World} {g j : Nat} {cs : Array Value} {t : TypeId} {v : Value} (h : w.heap[g]? = some (.cells cs t)) (hv : cs[j]? = some v) : w.setCell ⟨g, j, none⟩ v = w := by
  have hc : cs.setIfInBounds j v = cs := by
    obtain ⟨hj, hj2⟩ := Array.getElem?_eq_some_iff.1 hv
    apply Array.ext
    · simp
    · intro i h1 h2
      rw [Array.getElem_setIfInBounds h2]
      split
      · rename_i e; subst e; exact hj2.symm
      · rfl
  have hm : (w.setCell ⟨g, j, none⟩ v).heap = w.heap := by
    apply Array.ext_getElem?
    intro i
    by_cases e : i = g
    · subst e
      rw [heap_setCell_same _ _ _ _ _ _ h, hc, h]
    · unfold World.setCell
      rw [Array.getElem?_modify]
      split
      · rename_i e2; exact absurd e2.symm e
      · rfl
  unfold World.setCell at hm ⊢
  rw [show w.heap.modify g _ = w.heap from hm]
theorem bgnE_ref {b : Bk} {K i : Int} (h : refE b K i ≠ 0) : bgnE b K i = refE b K i := by unfold bgnE; rw [if_pos h]
theorem bgnE_state {b : Bk} {K i : Int} (h : refE b K i = 0) (h2 : b.f = true ∨ pBeg (tsk b K i).s = false ∨ K = 1 ∧ dn b.m = false) : bgnE b K i = 192 := by unfold bgnE; rw [if_neg (by omega), if_pos h2]
theorem bgnE_ok {b : Bk} {K i : Int} (h : refE b K i = 0) (h2 : ¬ (b.f = true ∨ pBeg (tsk b K i).s = false ∨ K = 1 ∧ dn b.m = false)) : bgnE b K i = 0 := by unfold bgnE; rw [if_neg (by omega), if_neg h2]
theorem bgn_no {b : Bk} {K i : Int} (h : bgnE b K i ≠ 0) : bgnB b K i = nob ∧ bgnN b K i = 0 ∧ bgnF b K i = false := by
  unfold bgnB bgnN bgnF
  exact ⟨if_neg h, if_neg h, decide_eq_false (fun e => h e.1)⟩
theorem capb_kp {p q : Nat} {n : Bool} {a : Int} {W W' : World} {S : Nat → Prop} (h : CapB p q n a W) (k : Kp S W W') (hS : ∀ i, S i → ¬ (i = p ∨ i = q)) : CapB p q n a W' :=
  ⟨(k.block p (Array.getElem?_eq_some_iff.1 h.1).1 (fun e => hS p e (.inl rfl))).trans h.1, (k.block q (Array.getElem?_eq_some_iff.1 h.2).1 (fun e => hS q e (.inr rfl))).trans h.2⟩
set_option maxHeartbeats 4000000 in
set_option maxRecDepth 100000 in
theorem begin_any (b : Bk) (K i : Int) (a1 a2 : Option Addr) (n1 c1 n2 c2 : Nat) (w : World) (ht : Tab w) (hi : Inn w b a1 n1 c1 a2 n2 c2) :
    Calls Tryd.prog 14 #[.agg #[.int .i64 b.t, .slice a1 n1 c1, .slice a2 n2 c2, .bool b.f], .agg #[.int .i64 K, .int .i64 i]] w fun e w' => ∃ a3 n3 c3 a4 n4 c4, e = .returned (.tuple #[.agg #[.int .i64 (bgnB b K i).t, .slice a3 n3 c3, .slice a4 n4 c4, .bool (bgnB b K i).f], .int .i64 (bgnN b K i), .bool (bgnF b K i), .int .i64 (bgnE b K i)]) ∧ Ans w' w.heap.size w'.heap.size a3 n3 c3 (bgnB b K i).m a4 n4 c4 (bgnB b K i).r ∧ Below w.heap.size w w' := by
  obtain ⟨w1, hw1⟩ : ∃ w1, w.alloc (.cells #[.int .i64 b.t, .slice a1 n1 c1, .slice a2 n2 c2, .bool b.f] 26) = w1 := ⟨_, rfl⟩
  have HB1 : Hid (Below w.heap.size w w1) := by rw [← hw1]; exact (Below.refl _ _).alloc (Nat.le_refl _) _
  have hC1 : BC w1 w.heap.size b.t (.slice a1 n1 c1) (.slice a2 n2 c2) b.f := by rw [← hw1]; exact bc_new _ _ _ _ _
  obtain ⟨w2, hw2⟩ : ∃ w2, w1.alloc (.cells #[.int .i64 K, .int .i64 i] 37) = w2 := ⟨_, rfl⟩
  have hb2 : Below w1.heap.size w1 w2 := by rw [← hw2]; exact (Below.refl _ _).alloc (Nat.le_refl _) _
  have hC2 : w2.heap[w1.heap.size]? = some (.cells #[.int .i64 K, .int .i64 i] 37) := by rw [← hw2]; exact heap_alloc_new _ _
  obtain ⟨w3, hw3⟩ : ∃ w3, w2.alloc (.cells #[.int .i64 0, .slice none 0 0, .slice none 0 0, .bool false] 26) = w3 := ⟨_, rfl⟩
  have hb3 : Below w2.heap.size w2 w3 := by rw [← hw3]; exact (Below.refl _ _).alloc (Nat.le_refl _) _
  have hC3 : BC w3 w2.heap.size 0 (.slice none 0 0) (.slice none 0 0) false := by rw [← hw3]; exact bc_new _ _ _ _ _
  obtain ⟨w4, hw4⟩ : ∃ w4, w3.alloc (.cells #[.int .i64 K, .int .i64 i] 37) = w4 := ⟨_, rfl⟩
  have hb4 : Below w3.heap.size w3 w4 := by rw [← hw4]; exact (Below.refl _ _).alloc (Nat.le_refl _) _
  have hC4 : w4.heap[w3.heap.size]? = some (.cells #[.int .i64 K, .int .i64 i] 37) := by rw [← hw4]; exact heap_alloc_new _ _
  have HB3 : Hid (Below w.heap.size w w3) := below_trans HB1.out (below_trans hb2 hb3)
  have HB4 : Hid (Below w.heap.size w w4) := below_trans HB3.out hb4
  have HC13 := hide ((hC1.below hb2).below hb3)
  have HC1 := hide (((hC1.below hb2).below hb3).below hb4)
  have hq1 : w1.heap.size < w2.heap.size := (Array.getElem?_eq_some_iff.1 hC2).1
  have HQ3 : Hid (w3.heap[w1.heap.size]? = some (.cells #[.int .i64 K, .int .i64 i] 37)) := (hb3.block _ hq1).trans hC2
  have HC2 : Hid (w4.heap[w1.heap.size]? = some (.cells #[.int .i64 K, .int .i64 i] 37)) := (hb4.block _ (Nat.lt_of_lt_of_le hq1 hb3.size)).trans HQ3.out
  have HC3 := hide (hC3.below hb4)
  have HTL : Hid (TL w4 w3.heap.size 1 (fun _ => (K, i))) := ⟨(Array.getElem?_eq_some_iff.1 hC4).1, fun j hj => by
    obtain rfl : j = 0 := by omega
    exact ⟨by rw [cell_of_row _ _ _ _ _ _ hC4]; rfl, by rw [cell_of_row _ _ _ _ _ _ hC4]; rfl⟩⟩
  have HLT : Hid (w.heap.size < w1.heap.size ∧ w1.heap.size < w2.heap.size ∧ w2.heap.size < w3.heap.size ∧ w3.heap.size < w4.heap.size) := ⟨hC1.lt, hq1, hC3.lt, (Array.getElem?_eq_some_iff.1 hC4).1⟩
  have HTA := hide ht
  have HIN := hide hi
  clear hC1 hC2 hC3 hC4 hb2 hb3 hb4 hq1 ht hi
  have HRF := hide (refuse_any b a1 a2 n1 c1 n2 c2 w3.heap.size 1 1 (fun _ => (K, i)) w4 (HTA.out.below HB4.out) (HIN.out.r1.below HB4.out) (HIN.out.r2.below HB4.out) HTL.out (by omega))
  obtain ⟨g, hg⟩ : ∃ g, w.heap.size = g := ⟨_, rfl⟩
  obtain ⟨q, hq⟩ : ∃ q, w1.heap.size = q := ⟨_, rfl⟩
  obtain ⟨r, hr⟩ : ∃ r, w2.heap.size = r := ⟨_, rfl⟩
  obtain ⟨p, hp⟩ : ∃ p, w3.heap.size = p := ⟨_, rfl⟩
  rw [hg] at HC1 HC13
  rw [hq] at HC2 HQ3
  rw [hr] at HC3
  rw [hp] at HRF
  have HGQ : Hid (w.heap.size = g ∧ g < q ∧ q < r ∧ r < p ∧ p < w4.heap.size) := by
    obtain ⟨l1, l2, l3, l4⟩ := HLT.out
    exact ⟨hg, by omega, by omega, by omega, by omega⟩
  have x0 := HC13.out.c0
  have x1 := HC13.out.c1
  have x2 := HC13.out.c2
  have x3 := HC13.out.c3
  have q0 : w3.cell? ⟨q, 0, none⟩ = some (.int .i64 K) := by rw [cell_of_row _ _ _ _ _ _ HQ3.out]; rfl
  have q1 : w3.cell? ⟨q, 1, none⟩ = some (.int .i64 i) := by rw [cell_of_row _ _ _ _ _ _ HQ3.out]; rfl
  have HE : Hid (∀ W, Below w4.heap.size w4 W → Below w.heap.size w (set4 W r 0 (.slice none 0 0) (.slice none 0 0) false)) := fun W hW => (below_trans HB4.out hW).grown (grown_set4 W r 0 _ _ false) (by have := HB4.out.size; have := hW.size; omega) (fun i e => by cases e; have := HGQ.out; omega)
  go_enter Tryd.func14, Tryd.ntmps14
  go_wp2_with fail
  refine HRF.out.mono ?_
  clear hw1 hw2 hw3 hw4 hg hq hr hp x0 x1 x2 x3 q0 q1
  rintro e w5 ⟨rfl, hb5⟩
  have HB5 := hide hb5
  have HC15 := hide (HC1.out.below hb5)
  have HC35 := hide (HC3.out.below hb5)
  have HQ5 : Hid (w5.heap[q]? = some (.cells #[.int .i64 K, .int .i64 i] 37)) := (hb5.block q (by have := HGQ.out; omega)).trans HC2.out
  clear hb5
  have r0 := HC35.out.c0
  have r1 := HC35.out.c1
  have r2 := HC35.out.c2
  have r3 := HC35.out.c3
  have z0' := HC35.out.fz 0
  have z1' := HC35.out.fz 1
  have z2' := HC35.out.fz 2
  have z3' := HC35.out.fz 3
  rcases Bool.eq_false_or_eq_true (chk b) with hc | hc
  · rcases Bool.eq_false_or_eq_true (thr b K i) with hth | hth
    · rw [refN_ok hc (by rw [thrN_one]; exact hth)]
      have hre := refE_ok hc hth
      have hok := chk_ok hc
      have hgd := good_small (tsk_good hok hth) hok.t2
      have HOK := hide hok
      have x0 := HC15.out.c0
      have x1 := HC15.out.c1
      have x2 := HC15.out.c2
      have x3 := HC15.out.c3
      have q0 : w5.cell? ⟨q, 0, none⟩ = some (.int .i64 K) := by rw [cell_of_row _ _ _ _ _ _ HQ5.out]; rfl
      have q1 : w5.cell? ⟨q, 1, none⟩ = some (.int .i64 i) := by rw [cell_of_row _ _ _ _ _ _ HQ5.out]; rfl
      have HB45 := hide (below_trans HB4.out HB5.out)
      have hin := HIN.out.below HB45.out
      obtain ⟨h0i', hlt', hkk⟩ := thr_kind hth
      have HOP := hide (isOpen_any b K a1 a2 n1 c1 n2 c2 w5 hin.r1)
      have hHL5 := HB45.out.size
      rcases Bool.eq_false_or_eq_true (isOp b K) with hop | hop
      · have hop2 : b.f = false ∧ ¬ (K = 1 ∧ dn b.m = false) := by
          unfold isOp at hop
          simp only [Bool.and_eq_true, Bool.not_eq_true', Bool.or_eq_true, decide_eq_true_eq] at hop
          refine ⟨hop.1, fun e => ?_⟩
          rcases hop.2 with h | h
          · omega
          · rw [e.2] at h; cases h
        obtain ⟨hf, hdn⟩ := hop2
        have HOPB := hide hop
        rw [hop] at HOP
        have HPB : Hid (∀ W W' : World, ∀ p q n a S, CapB p q n a W → Kp S W W' → (∀ i, S i → ¬ (i = p ∨ i = q)) → CapB p q n a W') := fun W W' p q n a S h1 h2 h3 => capb_kp h1 h2 h3
        have HFF := hide hf
        have HDN := hide hdn
        have HTH := hide hth
        have HREE := hide hre
        have HGD := hide hgd
        clear hc hre hok hgd hin hf hdn hth hop hkk h0i' hlt'
        go_wp2_with (first
          | (go_at_call 35; refine HOP.out.mono ?_; clear x0 x1 x2 x3 q0 q1 r0 r1 r2 r3 z0' z1' z2' z3'; rintro e w6 ⟨rfl, hb6⟩
             have HB6 := hide hb6
             have HC16 := hide (HC15.out.below hb6)
             have HC36 := hide (HC35.out.below hb6)
             have HQ6 : Hid (w6.heap[q]? = some (.cells #[.int .i64 K, .int .i64 i] 37)) := hide ((hb6.block q (by have := HGQ.out; have := HB5.out.size; omega)).trans HQ5.out)
             clear hb6
             obtain ⟨w7, hw7⟩ : ∃ w7, w6.alloc (.cells #[.int .i64 0] 3) = w7 := ⟨_, rfl⟩
             have hb7 : Below w6.heap.size w6 w7 := by rw [← hw7]; exact (Below.refl _ _).alloc (Nat.le_refl _) _
             have hq7 : w7.heap[w6.heap.size]? = some (.cells #[.int .i64 0] 3) := by rw [← hw7]; exact heap_alloc_new _ _
             obtain ⟨w8, hw8⟩ : ∃ w8, w7.alloc (.cells #[.bool false] 4) = w8 := ⟨_, rfl⟩
             have hb8 : Below w7.heap.size w7 w8 := by rw [← hw8]; exact (Below.refl _ _).alloc (Nat.le_refl _) _
             have hq8 : w8.heap[w7.heap.size]? = some (.cells #[.bool false] 4) := by rw [← hw8]; exact heap_alloc_new _ _
             obtain ⟨u, hu⟩ : ∃ u, w6.heap.size = u := ⟨_, rfl⟩
             obtain ⟨v, hv⟩ : ∃ v, w7.heap.size = v := ⟨_, rfl⟩
             have hu7 : u < w7.heap.size := by rw [← hu]; exact (Array.getElem?_eq_some_iff.1 hq7).1
             have hv8 : v < w8.heap.size := by rw [← hv]; exact (Array.getElem?_eq_some_iff.1 hq8).1
             rw [hu] at hq7
             rw [hv] at hq8
             have HCAP : Hid (CapB v u false 0 w8) := ⟨hq8, (hb8.block u hu7).trans hq7⟩
             have HB58 := hide (below_trans HB6.out (below_trans hb7 hb8))
             have HC18 := hide ((HC16.out.below hb7).below hb8)
             have HC38 := hide ((HC36.out.below hb7).below hb8)
             have HQ8 : Hid (w8.heap[q]? = some (.cells #[.int .i64 K, .int .i64 i] 37)) := hide (((below_trans hb7 hb8).block q (Array.getElem?_eq_some_iff.1 HQ6.out).1).trans HQ6.out)
             have HUV : Hid (w5.heap.size ≤ u ∧ u < v ∧ v < w8.heap.size) := ⟨by rw [← hu]; exact HB6.out.size, by omega, hv8⟩
             clear hb7 hb8 hq7 hq8 hu7 hv8
             have uc : w8.cell? ⟨u, 0, none⟩ = some (.int .i64 0) := by rw [cell_of_row _ _ _ _ _ _ HCAP.out.2]; rfl
             have vc : w8.cell? ⟨v, 0, none⟩ = some (.bool false) := by rw [cell_of_row _ _ _ _ _ _ HCAP.out.1]; rfl
             have uz : w8.frozen? ⟨u, 0, none⟩ = false := frozen_of_row _ _ _ _ _ HCAP.out.2
             have vz : w8.frozen? ⟨v, 0, none⟩ = false := frozen_of_row _ _ _ _ _ HCAP.out.1
             have us : w8.setCell ⟨u, 0, none⟩ (.int .i64 0) = w8 := cell_same HCAP.out.2 rfl
             have vs : w8.setCell ⟨v, 0, none⟩ (.bool false) = w8 := cell_same HCAP.out.1 rfl
             have HB48 := hide (below_trans HB45.out HB58.out)
             have hin := HIN.out.below HB48.out
             have x0 := HC18.out.c0
             have x1 := HC18.out.c1
             have x2 := HC18.out.c2
             have x3 := HC18.out.c3
             have q0 : w8.cell? ⟨q, 0, none⟩ = some (.int .i64 K) := by rw [cell_of_row _ _ _ _ _ _ HQ8.out]; rfl
             have q1 : w8.cell? ⟨q, 1, none⟩ = some (.int .i64 i) := by rw [cell_of_row _ _ _ _ _ _ HQ8.out]; rfl))
        by_cases hpb : pBeg (tsk b K i).s = true
        · have hgd := HGD.out
          have haft := aft0 ⟨hgd.1, hgd.2.1⟩
          have HCG := hide (changed_ok b K i 0 a1 a2 n1 c1 n2 c2 40 #[.pointer (some ⟨v, 0, none⟩), .pointer (some ⟨u, 0, none⟩)] (fun i => i = v ∨ i = u) (CapB v u false 0) (CapB v u ((tsk b K i).s == 0) ((tsk b K i).a + (if (tsk b K i).s = 0 then 1 else 0))) ⟨(tsk b K i).s, (tsk b K i).a + (if (tsk b K i).s = 0 then 1 else 0), (tsk b K i).c⟩ w8 (HTA.out.below HB48.out) hin.r1 hin.r2 HOK.out HTH.out (by omega) HFF.out (haft.1.2 hpb) hin.z1 hin.z2 (enterC Tryd.func40 (by kernel_rfl) (by kernel_rfl)) (acts_begin _ v u (by have := HUV.out; omega) (by omega) (by omega)) (fun W hW => capb_kp HCAP.out (Kp.of_below (S := fun _ => False) hW) (fun i e => e.elim)) (fun W W' S h1 h2 h3 => capb_kp h1 h2 h3) (fun i e => by have h1 := HUV.out; have h2 := HTA.out.1; have h3 := HB45.out.size; rcases e with e | e <;> omega) rfl)
          have HEE := hide (bgnE_ok HREE.out (by rintro (h | h | h); rw [HFF.out] at h; cases h; rw [hpb] at h; cases h; exact HDN.out h))
          have HBB : Hid (bgnB b K i = put b K i ⟨aft (0 : Nat) (tsk b K i).s, (tsk b K i).a + (if (tsk b K i).s = 0 then 1 else 0), (tsk b K i).c⟩ (decide ((tsk b K i).c = b.t))) := by
            show _ = _
            unfold bgnB bgnS
            have hlt := tsk_below HOK.out HFF.out HTH.out
            rw [if_pos HEE.out, HFF.out, show decide ((tsk b K i).c = b.t) = false from decide_eq_false (by omega), haft.2 hpb]
          have HBN : Hid (bgnN b K i = (tsk b K i).a + (if (tsk b K i).s = 0 then 1 else 0)) := by show _ = _; unfold bgnN bgnS; rw [if_pos HEE.out]
          have HBF : Hid (bgnF b K i = ((tsk b K i).s == 0)) := by show _ = _; unfold bgnF; rw [HEE.out]; by_cases h : (tsk b K i).s = 0 <;> simp [h]
          clear haft hgd hpb hin
          generalize (tsk b K i).a + (if (tsk b K i).s = 0 then 1 else 0) = YA at *
          generalize ((tsk b K i).s == 0) = YF at *
          go_wp2_with fail
          refine HCG.out.mono ?_
          clear hw7 hw8 hu hv x0 x1 x2 x3 q0 q1 uc vc uz vz us vs
          rintro e w9 ⟨a3, c3, a4, c4, rfl, hA9, hK9, hP9⟩
          have HA9 := hide hA9
          have HK9 := hide hK9
          have HP9 := hide hP9
          clear hA9 hK9 hP9
          have HC19 := hide (HC18.out.kp HK9.out (by have := HUV.out; have := HGQ.out; have := HB5.out.size; omega))
          have HC39 := hide (HC38.out.kp HK9.out (by have := HUV.out; have := HGQ.out; have := HB5.out.size; omega))
          have g0 := HC19.out.c0
          have g1 := HC19.out.c1
          have g2 := HC19.out.c2
          have g3 := HC19.out.c3
          have gz0 := HC19.out.fz 0
          have gz1 := HC19.out.fz 1
          have gz2 := HC19.out.fz 2
          have gz3 := HC19.out.fz 3
          obtain ⟨D, hD⟩ : ∃ D, decide ((tsk b K i).c = b.t) = D := ⟨_, rfl⟩
          rw [hD] at HBB HA9
          try rw [hD]
          have HDD := hide hD
          clear hD
          obtain ⟨wa, hwa⟩ : ∃ wa, (((w9.setCell ⟨g, 0, none⟩ (.int .i64 b.t)).setCell ⟨g, 1, none⟩ (.slice a3 n1 c3)).setCell ⟨g, 2, none⟩ (.slice a4 n2 c4)).setCell ⟨g, 3, none⟩ (.bool D) = wa := ⟨_, rfl⟩
          have hwa' : set4 w9 g b.t (.slice a3 n1 c3) (.slice a4 n2 c4) D = wa := hwa
          have HKA : Hid (Kp (fun j => j = g) w9 wa) := by rw [← hwa']; exact kp_four _ _ _ _ _ _
          have HCA : Hid (BC wa g b.t (.slice a3 n1 c3) (.slice a4 n2 c4) D) := by rw [← hwa']; exact HC19.out.set4 _ _ _ _
          have HRA := hide (HC39.out.kp HKA.out (by have := HGQ.out; omega))
          have HPA := hide (capb_kp HP9.out HKA.out (fun i e => by have h1 : i = g := e; have := HUV.out; have := HGQ.out; have := HB5.out.size; omega))
          clear hwa'
          have v0 := HCA.out.c0
          have v1 := HCA.out.c1
          have v2 := HCA.out.c2
          have v3 := HCA.out.c3
          have r0 := HRA.out.c0
          have r1 := HRA.out.c1
          have r2 := HRA.out.c2
          have r3 := HRA.out.c3
          have rz0 := HRA.out.fz 0
          have rz1 := HRA.out.fz 1
          have rz2 := HRA.out.fz 2
          have rz3 := HRA.out.fz 3
          have k1 : wa.cell? ⟨v, 0, none⟩ = some (.bool YF) := by rw [cell_of_row _ _ _ _ _ _ HPA.out.1]; rfl
          have k2 : wa.cell? ⟨u, 0, none⟩ = some (.int .i64 YA) := by rw [cell_of_row _ _ _ _ _ _ HPA.out.2]; rfl
          obtain ⟨wz, hwz⟩ : ∃ wz, (((wa.setCell ⟨r, 0, none⟩ (.int .i64 b.t)).setCell ⟨r, 1, none⟩ (.slice a3 n1 c3)).setCell ⟨r, 2, none⟩ (.slice a4 n2 c4)).setCell ⟨r, 3, none⟩ (.bool D) = wz := ⟨_, rfl⟩
          have HWZ : Hid (set4 wa r b.t (.slice a3 n1 c3) (.slice a4 n2 c4) D = wz) := hwz
          have HPZ := hide (capb_kp HPA.out (kp_four wa r b.t (.slice a3 n1 c3) (.slice a4 n2 c4) D) (fun i e => by have h1 : i = r := e; have := HUV.out; have := HGQ.out; have := HB5.out.size; omega))
          rw [HWZ.out] at HPZ
          have HCZ := hide (HCA.out.kp (kp_four wa r b.t (.slice a3 n1 c3) (.slice a4 n2 c4) D) (by have := HGQ.out; omega))
          rw [HWZ.out] at HCZ
          have m1 : wz.cell? ⟨v, 0, none⟩ = some (.bool YF) := by rw [cell_of_row _ _ _ _ _ _ HPZ.out.1]; rfl
          have m2 : wz.cell? ⟨u, 0, none⟩ = some (.int .i64 YA) := by rw [cell_of_row _ _ _ _ _ _ HPZ.out.2]; rfl
          go_wp2_with fail
          go_region
          all_goals
            go_wp2_with fail
            rw [← HWZ.out]
            have hk := kp_four wa r b.t (.slice a3 n1 c3) (.slice a4 n2 c4) D
            have hgq := HGQ.out
            have huv := HUV.out
            have hb5 := HB5.out.size
            have hb48 := HB48.out.size
            have hb58 := HB58.out.size
            refine bodyPost_ret (bc_ret4 rfl _ _ r b.t _ _ _ rfl (HRA.out.set4 b.t (.slice a3 n1 c3) (.slice a4 n2 c4) D)) rfl ?_
            have hAA := (HA9.out.kp HKA.out (fun i e => .inl (by have h1 : i = g := e; omega))).kp hk (fun i e => .inl (by have h1 : i = r := e; omega))
            rw [HBB.out, HBN.out, HBF.out, HEE.out]
            exact ⟨_, _, _, _, _, _, rfl, ans_mono (hAA.below ((Below.refl _ _).drew)) HB48.out.size (Nat.le_trans HKA.out.size hk.size), (hk.below (HKA.out.below (HK9.out.below HB48.out (fun i e => by rcases e with e | e <;> omega) HB48.out.size) (fun i e => by have h1 : i = g := e; omega) (by have := HK9.out.size; omega)) (fun i e => by have h1 : i = r := e; omega) (by have := HK9.out.size; have := HKA.out.size; omega)).drew⟩
        · have hgd := HGD.out
          have haft := aft0 ⟨hgd.1, hgd.2.1⟩
          have HCG := hide (changed_no b K i 0 a1 a2 n1 c1 n2 c2 40 #[.pointer (some ⟨v, 0, none⟩), .pointer (some ⟨u, 0, none⟩)] w8 (HTA.out.below HB48.out) hin.r1 hin.r2 HOK.out HTH.out (by omega) (.inr ⟨HFF.out, Classical.byContradiction (fun h2 => hpb (haft.1.1 h2))⟩))
          have hee := bgnE_state HREE.out (.inr (.inl (by simpa using hpb)))
          have HEE := hide hee
          have HNN := hide (bgn_no (b := b) (K := K) (i := i) (by rw [hee]; omega))
          clear hee haft hgd hpb hin
          go_wp2_with fail
          refine HCG.out.mono ?_
          clear hw7 hw8 hu hv x0 x1 x2 x3 q0 q1 uc vc uz vz us vs
          rintro e w9 ⟨rfl, hb9⟩
          have HB9 := hide hb9
          have HP9 := hide (capb_kp HCAP.out (Kp.of_below (S := fun _ => False) hb9) (fun i e => e.elim))
          have HC19 := hide (HC18.out.below hb9)
          have HC39 := hide (HC38.out.below hb9)
          clear hb9
          have g0 := HC19.out.c0
          have g1 := HC19.out.c1
          have g2 := HC19.out.c2
          have g3 := HC19.out.c3
          have gz0 := HC19.out.fz 0
          have gz1 := HC19.out.fz 1
          have gz2 := HC19.out.fz 2
          have gz3 := HC19.out.fz 3
          obtain ⟨wa, hwa⟩ : ∃ wa, (((w9.setCell ⟨g, 0, none⟩ (.int .i64 0)).setCell ⟨g, 1, none⟩ (.slice none 0 0)).setCell ⟨g, 2, none⟩ (.slice none 0 0)).setCell ⟨g, 3, none⟩ (.bool false) = wa := ⟨_, rfl⟩
          have hwa' : set4 w9 g 0 (.slice none 0 0) (.slice none 0 0) false = wa := hwa
          have HKA : Hid (Kp (fun j => j = g) w9 wa) := by rw [← hwa']; exact kp_four _ _ _ _ _ _
          have HCA : Hid (BC wa g 0 (.slice none 0 0) (.slice none 0 0) false) := by rw [← hwa']; exact HC19.out.set4 _ _ _ _
          have HRA := hide (HC39.out.kp HKA.out (by have := HGQ.out; omega))
          have HPA := hide (capb_kp HP9.out HKA.out (fun i e => by have h1 : i = g := e; have := HUV.out; have := HGQ.out; have := HB5.out.size; omega))
          clear hwa'
          have v0 := HCA.out.c0
          have v1 := HCA.out.c1
          have v2 := HCA.out.c2
          have v3 := HCA.out.c3
          have r0 := HRA.out.c0
          have r1 := HRA.out.c1
          have r2 := HRA.out.c2
          have r3 := HRA.out.c3
          have rz0 := HRA.out.fz 0
          have rz1 := HRA.out.fz 1
          have rz2 := HRA.out.fz 2
          have rz3 := HRA.out.fz 3
          have k1 : wa.cell? ⟨v, 0, none⟩ = some (.bool false) := by rw [cell_of_row _ _ _ _ _ _ HPA.out.1]; rfl
          have k2 : wa.cell? ⟨u, 0, none⟩ = some (.int .i64 0) := by rw [cell_of_row _ _ _ _ _ _ HPA.out.2]; rfl
          obtain ⟨wz, hwz⟩ : ∃ wz, (((wa.setCell ⟨r, 0, none⟩ (.int .i64 0)).setCell ⟨r, 1, none⟩ (.slice none 0 0)).setCell ⟨r, 2, none⟩ (.slice none 0 0)).setCell ⟨r, 3, none⟩ (.bool false) = wz := ⟨_, rfl⟩
          have HWZ : Hid (set4 wa r 0 (.slice none 0 0) (.slice none 0 0) false = wz) := hwz
          have HPZ := hide (capb_kp HPA.out (kp_four wa r 0 (.slice none 0 0) (.slice none 0 0) false) (fun i e => by have h1 : i = r := e; have := HUV.out; have := HGQ.out; have := HB5.out.size; omega))
          rw [HWZ.out] at HPZ
          have m1 : wz.cell? ⟨v, 0, none⟩ = some (.bool false) := by rw [cell_of_row _ _ _ _ _ _ HPZ.out.1]; rfl
          have m2 : wz.cell? ⟨u, 0, none⟩ = some (.int .i64 0) := by rw [cell_of_row _ _ _ _ _ _ HPZ.out.2]; rfl
          go_wp2_with fail
          go_region
          all_goals
            go_wp2_with fail
            rw [← HWZ.out]
            have hk := kp_four wa r 0 (.slice none 0 0) (.slice none 0 0) false
            have hgq := HGQ.out
            have hb48 := HB48.out.size
            refine bodyPost_ret (bc_ret4 rfl _ _ r 0 _ _ _ rfl (HRA.out.set4 0 (.slice none 0 0) (.slice none 0 0) false)) rfl ?_
            rw [HNN.out.1, HNN.out.2.1, HNN.out.2.2, HEE.out]
            exact ⟨none, 0, 0, none, 0, 0, rfl, ans_nil _ _ _, (hk.below (HKA.out.below (below_trans HB48.out HB9.out) (fun i e => by have h1 : i = g := e; omega) (by have := HB9.out.size; omega)) (fun i e => by have h1 : i = r := e; omega) (by have := HB9.out.size; have := HKA.out.size; omega)).drew⟩
      · have hee := bgnE_state hre (by
          unfold isOp at hop
          cases hbf : b.f with
          | true => exact .inl rfl
          | false =>
            rw [hbf] at hop
            simp only [Bool.not_false, Bool.true_and, Bool.or_eq_false_iff, decide_eq_false_iff_not] at hop
            exact .inr (.inr ⟨by rcases hkk with ⟨h, -⟩ | ⟨h, -⟩; exact absurd h hop.1; exact h, hop.2⟩))
        have HEE := hide hee
        have HNN := hide (bgn_no (b := b) (K := K) (i := i) (by rw [hee]; omega))
        rw [hop] at HOP
        clear hee hop hc hre hok hgd hin hth hkk h0i' hlt'
        go_wp2_with fail
        refine HOP.out.mono ?_
        clear x0 x1 x2 x3 q0 q1 r0 r1 r2 r3 z0' z1' z2' z3'
        rintro e w6 ⟨rfl, hb6⟩
        have HB6 := hide hb6
        clear hb6
        have HC36 := hide (HC35.out.below HB6.out)
        have r0 := HC36.out.c0
        have r1 := HC36.out.c1
        have r2 := HC36.out.c2
        have r3 := HC36.out.c3
        have z0' := HC36.out.fz 0
        have z1' := HC36.out.fz 1
        have z2' := HC36.out.fz 2
        have z3' := HC36.out.fz 3
        go_wp2_with fail
        refine bodyPost_ret (bc_ret4 rfl _ _ r 0 _ _ false rfl (HC36.out.set4 0 (.slice none 0 0) (.slice none 0 0) false)) rfl ?_
        rw [HNN.out.1, HNN.out.2.1, HNN.out.2.2, HEE.out]
        exact ⟨none, 0, 0, none, 0, 0, rfl, ans_nil _ _ _, HE.out _ (below_trans HB5.out HB6.out)⟩
    · rw [refN_task hc (by rw [thrN_one]; exact hth)]
      have hee := (bgnE_ref (by rw [refE_task hc hth]; omega)).trans (refE_task hc hth)
      have HEE := hide hee
      have HNN := hide (bgn_no (b := b) (K := K) (i := i) (by rw [hee]; omega))
      clear hee
      clear hc hth
      go_wp2_with fail
      refine bodyPost_ret (bc_ret4 rfl _ _ r 0 _ _ false rfl (HC35.out.set4 0 (.slice none 0 0) (.slice none 0 0) false)) rfl ?_
      rw [HNN.out.1, HNN.out.2.1, HNN.out.2.2, HEE.out]
      exact ⟨none, 0, 0, none, 0, 0, rfl, ans_nil _ _ _, HE.out _ HB5.out⟩
  · rw [refN_bad hc]
    have hee := (bgnE_ref (by rw [refE_bad (K := K) (i := i) hc]; omega)).trans (refE_bad (K := K) (i := i) hc)
    have HEE := hide hee
    have HNN := hide (bgn_no (b := b) (K := K) (i := i) (by rw [hee]; omega))
    clear hee
    clear hc
    go_wp2_with fail
    refine bodyPost_ret (bc_ret4 rfl _ _ r 0 _ _ false rfl (HC35.out.set4 0 (.slice none 0 0) (.slice none 0 0) false)) rfl ?_
    rw [HNN.out.1, HNN.out.2.1, HNN.out.2.2, HEE.out]
    exact ⟨none, 0, 0, none, 0, 0, rfl, ans_nil _ _ _, HE.out _ HB5.out⟩
end Go.Proofs.YtgpfabblmoffiaaDoor.Lg
