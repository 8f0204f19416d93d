/-
  MergeTells, walked, with the contract of the document's run as its premise.
-/
import Derived.Test.YtoobgocnooeojaaMeTells0
import Derived.Test.YtoobgocnooeojaaMeRunE
import Derived.Deep.DeepCutAuto
import Derived.Laws.StructEq
namespace Go.Proofs.Ytoobgocnooeojaa.Me
open Go.ChangeShapes Go.WideShapes Go.ChangeAt Go.RowKit
open Go.Proofs.Ytoobgocnooeojaa.Base
set_option linter.unusedVariables false
set_option linter.unusedSimpArgs false
set_option maxHeartbeats 16000000 in
set_option maxRecDepth 100000 in
theorem tewalk (a : Option Addr) (c : Nat) (ss : List Src) (w : World) (hR : Rdy w a ss) (hl : ∀ j, j < ss.length → (ss.getD j src0).ts.length ≤ 1048576) (hn : ss.length ≤ 1048576)
    (hrr : ∀ (w : World), Rdy w a ss → ss.length ≤ 64 → Calls Try.prog 11 #[.slice a ss.length c] w fun e w' => ∃ (al : Option Addr) (cl : Nat) (L : List Th) (x : Int) (gk : Nat) (A : Nat → Nat), e = .returned (.tuple #[.agg #[.slice al L.length cl, .int .i64 x], .slice (some ⟨gk, 0, none⟩) ss.length ss.length]) ∧ RunsA (plays ss) ss.length L x A ∧ OwnT w' w.heap.size (.slice al L.length cl) L ∧ IA w' gk ss.length A ∧ Below w.heap.size w w') :
    Calls Try.prog 5 #[.slice a ss.length c] w fun e w' => e = .returned (.bool true) ∧ Below w.heap.size w w' := by
  obtain ⟨gr, hgr⟩ : ∃ g, w.heap.size = g := ⟨_, rfl⟩
  obtain ⟨w1, hw1⟩ : ∃ w1, w.alloc (.cells #[.bool false] 4) = w1 := ⟨_, rfl⟩
  have HB1 : Hid (Below w.heap.size w w1) := by rw [← hw1]; exact (Below.refl _ _).alloc (Nat.le_refl _) _
  have HR1 : Hid (w1.heap[gr]? = some (.cells #[.bool false] 4)) := by rw [← hw1, ← hgr]; exact heap_alloc_new _ _
  have HGR := hide hgr
  have HRY := hide (hR.below HB1.out)
  have HLE := hide hl
  have HFE := hide (feeds_any a c ss w1 HRY.out.rdq (by omega))
  have HER := hide (all_any)
  have HRR := hide hrr
  have HR0 := hide hR
  clear hR hl hrr
  refine calls_marks Try.func5 rfl ?_
  simp only [Try.ntmps5, List.size_toArray, List.length_cons, List.length_nil, Nat.reduceAdd, Nat.reduceSub, Array.replicate_succ, Array.replicate_zero, List.push_toArray, List.append_toArray, List.nil_append, List.cons_append]
  obtain ⟨n, hN⟩ : ∃ n, ss.length = n := ⟨_, rfl⟩
  have HN := hide hN
  rw [hN] at hn HFE HRR ⊢
  clear hN
  go_upto_region 2 with (go_at_call 9; refine HFE.out.mono ?_; rintro e w2 ⟨v2, gs, rfl, hg2, hrow2, hb2⟩; have HG2 := hide hg2; have HRW := hide hrow2; have HB2 := hide hb2; clear hg2 hrow2 hb2)
  obtain ⟨al, cl, hv2⟩ := HRW.out.shape
  subst hv2
  rw [HG2.out]
  have HMA := hide (made_any al cl w1.heap.size gs (fun j => (ss.getD j src0).fd) w2 HRW.out (by rw [HG2.out]; omega))
  rw [HG2.out] at HMA
  have HAS : Hid (∀ W, Below w2.heap.size w2 W → Calls Try.prog 18 #[.slice al n cl] W fun e w' => e = .returned (.int .i64 0) ∧ w' = W) := fun W hW => by
    have hRW := HRW.out.below hW
    have hz : sumN (asksOf (fun j => (ss.getD j src0).fd)) gs.length = 0 := (sum_zero gs.length)
    have h := asked_any al cl w1.heap.size gs (fun j => (ss.getD j src0).fd) W hRW.row hRW.fb (by rw [HG2.out]; omega) (by rw [hz]; omega)
    rw [hz, HG2.out] at h
    exact h
  by_cases hn6 : n ≤ 64
  · have HMB : Hid (Calls Try.prog 10 #[.slice al n cl] w2 fun e w' => ∃ gm g2, e = .returned (.tuple #[.pointer (some ⟨gm, 0, none⟩), .int .i64 0]) ∧ w2.heap.size ≤ gm ∧ w2.heap.size ≤ g2 ∧ AtA w' gm g2 n (fun j => gs.getD j 0) (plays ss) [] ∧ Below w2.heap.size w2 w') := hide (HMA.out.mono fun e w' ⟨h1, h2⟩ => by
      rcases h2 with ⟨h, _⟩ | ⟨_, gm, g2, h3, h4, h5, h6⟩
      · omega
      · have hfed : Fed w2 w1.heap.size (.slice al gs.length cl) gs (plays ss) := by
          refine ⟨HRW.out, fun j hj => ?_, fun j hj b off e1 e2 => ?_, fun j hj => ⟨rfl, rfl, rfl, rfl⟩, fun j hj => ?_⟩
          · exact (HRY.out.rdh j (by rw [HN.out]; rw [HG2.out] at hj; exact hj)).below HB2.out
          · obtain ⟨b', off', e3, e4, _⟩ := HRY.out.rdh j (by rw [HN.out]; rw [HG2.out] at hj; exact hj) e2
            have e5 : some (⟨b, off, none⟩ : Addr) = some ⟨b', off', none⟩ := e1.symm.trans e3
            simp only [Option.some.injEq, Addr.mk.injEq] at e5
            omega
          · have := HLE.out j (by rw [HN.out]; rw [HG2.out] at hj; exact hj)
            show (ss.getD j src0).ts.length + 2 ≤ _
            omega
        rw [← HG2.out] at h6
        have hnw := hfed.newly HB2.out.size h1 h6 h4 h5
        rw [HG2.out] at hnw
        exact ⟨gm, g2, h3, h4, h5, .inl ⟨rfl, hnw⟩, h1⟩)
    have hni : ¬ (64 : Int) < (n : Int) := by omega
    go_upto_region 5 with (go_at_call 10; refine HMB.out.mono ?_; rintro e w3 ⟨gm, g2, rfl, hgm, hg2, hat, hb3⟩; have HGM := hide hgm; have HG22 := hide hg2; have HAT := hide hat; have HB3 := hide hb3; clear hgm hg2 hat hb3)
    have HER3 := hide HAT.out.err
    go_upto_region 7 with (first | (go_at_call 18; refine (HAS.out _ HB3.out).mono ?_; rintro e w4 ⟨rfl, e4⟩; have e5 := e4.symm; clear e4; subst e5) | (go_at_call 14; refine HER3.out.mono ?_; rintro e w4 ⟨rfl, e4⟩; have e5 := e4.symm; clear e4; subst e5))
    have HRY3 := hide (HRY.out.below (below_trans HB2.out HB3.out))
    go_upto_region 8 with (go_at_call 11; refine (HRR.out _ HRY3.out hn6).mono ?_; rintro e w4 ⟨aL, cL, L, x, gk, A, rfl, hruns, hown, hia, hb4⟩; have HRU := hide hruns; have HOL := hide hown; have HIA := hide hia; have HB4 := hide hb4; clear hruns hown hia hb4)
    obtain ⟨K, hK⟩ : ∃ K, L.length = K := ⟨_, rfl⟩
    rw [hK] at HOL ⊢
    have HK := hide hK
    clear hK
    obtain ⟨w5, hw5⟩ : ∃ w5, w4.alloc (.cells #[.slice aL K cL, .int .i64 x] 32) = w5 := ⟨_, rfl⟩
    obtain ⟨gb, hgb⟩ : ∃ g, w4.heap.size = g := ⟨_, rfl⟩
    have HB5 : Hid (Below w4.heap.size w4 w5) := hide (by rw [← hw5]; exact (Below.refl _ _).alloc (Nat.le_refl _) _)
    have HWB : Hid (w5.heap[gb]? = some (.cells #[.slice aL K cL, .int .i64 x] 32)) := hide (by rw [← hw5, ← hgb]; exact heap_alloc_new _ _)
    have HGB := hide hgb
    rw [hw5, hgb]
    clear hw5 hgb
    have HAT5 := hide (HAT.out.below (below_trans HB4.out HB5.out))
    have HOL5 := hide (HOL.out.below HB5.out)
    have HIA5 := hide (HIA.out.same (HB5.out.block gk HIA.out.lt))
    have HB25 := hide (below_trans HB3.out (below_trans HB4.out HB5.out))
    have HRW5 : Hid (Row w5 w1.heap.size (.slice al n cl) gs (fun j => (ss.getD j src0).fd)) := hide (by have h := HRW.out.below HB25.out; rw [HG2.out] at h; exact h)
    have HRB5 : Hid (w5.heap[gr]? = some (.cells #[.bool false] 4)) := hide (((below_trans HB2.out HB25.out).block gr (Array.getElem?_eq_some_iff.1 HR1.out).1).trans HR1.out)
    have HGR1 : Hid (gr < w1.heap.size) := (Array.getElem?_eq_some_iff.1 HR1.out).1
    have HNL : Hid (∀ b, w3.heap.size ≤ b → ¬ All n gm g2 (fun j => gs.getD j 0) b) := fun b hb h => by have := HAT.out.lt b h; omega
    have HNR : Hid (¬ All n gm g2 (fun j => gs.getD j 0) gr) := fun h => by
      have q0 := HGR1.out
      have q1 := HB2.out.size
      rcases h with h | h | ⟨k, hk, h⟩
      · have := HGM.out; omega
      · have := HG22.out; omega
      · have h' : gr = gs.getD k 0 := h
        have := HRW.out.lo k (by rw [HG2.out]; exact hk); omega
    have HNF : Hid (∀ b, (Value.slice al n cl).ownBlock = some b → b < w5.heap.size ∧ ¬ All n gm g2 (fun j => gs.getD j 0) b) := fun b hb => by
      have e1 : (Value.slice al gs.length cl).ownBlock = some b := by rw [HG2.out]; exact hb
      have q1 := row_blk HRW.out.row b e1
      refine ⟨Nat.lt_of_lt_of_le q1.2 HB25.out.size, fun h => ?_⟩
      rcases h with h | h | ⟨k, hk, h⟩
      · have := HGM.out; omega
      · have := HG22.out; omega
      · have h' : b = gs.getD k 0 := h
        exact HRW.out.ap k (by rw [HG2.out]; exact hk) (by rw [← h']; exact e1)
    have HNK : Hid (¬ All n gm g2 (fun j => gs.getD j 0) gk) := HAT5.out.int HIA5.out
    have HNB : Hid (¬ All n gm g2 (fun j => gs.getD j 0) gb) := HNL.out gb (by rw [← HGB.out]; exact HB4.out.size)
    have HLP : Hid (∀ j, j < n → (plays ss j).ts.length + 2 ≤ 4611686018427387904) := fun j hj => by
      have := HLE.out j (by rw [HN.out]; exact hj)
      show (ss.getD j src0).ts.length + 2 ≤ _
      omega
    have HKS : Hid (K ≤ 67108864) := hide (by
      have h1 := HRU.out.len
      have h2 : sumN (lens (plays ss)) n ≤ n * 1048576 := sum_bound (fun j hj => HLE.out j (by rw [HN.out]; exact hj))
      rw [HK.out] at h1
      omega)
    have hKS := HKS.out
    go_wp2_with fail
    go_loopw [8] (fun s8 wr => ∃ i : Nat, i ≤ K ∧ s8 = .int .i64 (i : Int) ∧ Hid (AtA wr gm g2 n (fun j => gs.getD j 0) (plays ss) (L.take i)) ∧ Hid (Tn w5 wr (All n gm g2 (fun j => gs.getD j 0)))) (fun s8 _ => K - (intOf s8).toNat)
    case atStart => exact ⟨0, Nat.zero_le _, rfl, HAT5, Tn.refl _ _⟩
    case round =>
      obtain ⟨i, hi, rfl, HAi, HTi⟩ := hrel
      have HWr := hide ((HTi.out.block gb (Array.getElem?_eq_some_iff.1 HWB.out).1 HNB.out).trans HWB.out)
      have g0 : wr.cell? ⟨gb, 0, none⟩ = some (.slice aL K cL) := by rw [cell_of_row _ _ _ _ _ _ HWr.out]; rfl
      by_cases hlt : i < K
      · have hki : (i : Int) < (K : Int) := by omega
        have HNX : Hid (Calls Try.prog 12 #[.pointer (some ⟨gm, 0, none⟩)] wr fun e w' => e = .returned (.tuple #[(L.getD i th0).val, .bool true, .int .i64 0]) ∧ Tn wr w' (All n gm g2 (fun j => gs.getD j 0)) ∧ AtA w' gm g2 n (fun j => gs.getD j 0) (plays ss) (L.take (i + 1))) := hide ((next_tells gm g2 n (fun j => gs.getD j 0) (plays ss) i L x A wr (by rw [HK.out]; exact hi) HAi.out HRU.out HLP.out).mono fun e w' ⟨h1, h2⟩ => by
          rcases h2 with ⟨h3, _⟩ | ⟨_, h4, h5⟩
          · rw [HK.out] at h3; omega
          · exact ⟨h4, h1, h5⟩)
        unfold Th.val at HNX
        generalize hTk : (L.getD i th0).key = tk at HNX
        generalize hTn : (L.getD i th0).name = tn at HNX
        have HTK := hide hTk
        have HTN := hide hTn
        clear hTk hTn
        go_upto_region 12 with (go_at_call 12; refine HNX.out.mono ?_; rintro e w6 ⟨rfl, ht6, ha6⟩; have HT6 := hide (HTi.out.trans ht6); have HA6 := hide ha6; clear ht6 ha6)
        obtain ⟨w7, hw7⟩ : ∃ w7, w6.alloc (.cells #[.int .i64 tk, .int .i64 tn] 36) = w7 := ⟨_, rfl⟩
        obtain ⟨gx, hgx⟩ : ∃ g, w6.heap.size = g := ⟨_, rfl⟩
        have HB7 : Hid (Below w6.heap.size w6 w7) := hide (by rw [← hw7]; exact (Below.refl _ _).alloc (Nat.le_refl _) _)
        have HX7 : Hid (w7.heap[gx]? = some (.cells #[.int .i64 tk, .int .i64 tn] 36)) := hide (by rw [← hw7, ← hgx]; exact heap_alloc_new _ _)
        rw [hw7, hgx]
        clear hw7 hgx g0
        have HT7 := hide (HT6.out.trans (Tn.of_below _ HB7.out))
        have HA7 := hide (HA6.out.below HB7.out)
        have HW7 := hide ((HT7.out.block gb (Array.getElem?_eq_some_iff.1 HWB.out).1 HNB.out).trans HWB.out)
        have y0 : w7.cell? ⟨gb, 0, none⟩ = some (.slice aL K cL) := by rw [cell_of_row _ _ _ _ _ _ HW7.out]; rfl
        have z0 : w7.cell? ⟨gx, 0, none⟩ = some (.int .i64 tk) := by rw [cell_of_row _ _ _ _ _ _ HX7.out]; rfl
        have z1 : w7.cell? ⟨gx, 1, none⟩ = some (.int .i64 tn) := by rw [cell_of_row _ _ _ _ _ _ HX7.out]; rfl
        have HO7 : Hid (OwnT w7 w3.heap.size (.slice aL K cL) L) := hide (HOL5.out.same (fun b hb => HT7.out.block b (row_blk HOL5.out b hb).2 (HNL.out b (row_blk HOL5.out b hb).1)))
        obtain ⟨gL, rfl⟩ : ∃ g, aL = some ⟨g, 0, none⟩ := by
          rcases HO7.out.shape with ⟨h1, _⟩ | ⟨g, c9, h1, _⟩
          · have h2 := HK.out; rw [h1] at h2; simp at h2; omega
          · simp only [Value.slice.injEq] at h1; exact ⟨g, h1.1⟩
        obtain ⟨l0, l1⟩ := HO7.out.cells i (by rw [HK.out]; exact hlt)
        rw [HTK.out] at l0
        rw [HTN.out] at l1
        have HRW7 : Hid (w7.ownsRow w1.heap.size 54 1 (.slice al n cl) n (ptrs gs)) := hide (by
          have h := row_same HRW5.out.row (fun b hb => HT7.out.block b (HNF.out b hb).1 (HNF.out b hb).2)
          rw [HG2.out] at h
          exact h)
        have HASK : Hid (∀ W, Below w7.heap.size w7 W → Calls Try.prog 18 #[.slice al n cl] W fun e w' => e = .returned (.int .i64 ((n : Int) + (i : Int))) ∧ w' = W) := fun W hW => by
          have hat := HA7.out.below hW
          rw [← HG2.out] at hat
          have hrow := row_same HRW7.out (fun b hb => hW.block b (row_blk HRW7.out b hb).2)
          obtain ⟨q, _, q2, q3⟩ := hat.asks al cl (lo := w1.heap.size) (by rw [HG2.out]; exact hrow) (by rw [HG2.out]; exact hn6) (by rw [List.length_take, HK.out]; omega)
          have q4 := q2 (by rw [List.length_take, HK.out]; omega)
          rw [List.length_take, HK.out, HG2.out] at q4
          rw [HG2.out] at q3
          have q5 : (q : Int) = (n : Int) + (i : Int) := by omega
          rw [q5] at q3
          exact q3
        have HERR : Hid (∀ W, Below w7.heap.size w7 W → Calls Try.prog 14 #[.pointer (some ⟨gm, 0, none⟩)] W fun e w' => e = .returned (.int .i64 0) ∧ w' = W) := fun W hW => (HA7.out.below hW).err
        have d1 : ((n : Int) + (i : Int) != (n : Int) + (i : Int)) = false := by simp
        refine only_normal ?_
        go_quiet (first
          | (go_at_call 18; exact Calls.quiet_of_same (HASK.out _ (below_drewN' _ _ _)))
          | (go_at_call 14; exact Calls.quiet_of_same (HERR.out _ (below_drewN' _ _ _))))
        simp only [onlyNormal]
        have HB8 := hide (below_drewN' w7.heap.size w7 nq)
        clear y0 z0 z1 l0 l1 d1
        go_wp2_with fail
        go_roundw
        case rel => exact ⟨i + 1, by omega, by go_num, HA7.out.below HB8.out, HT7.out.trans (Tn.of_below _ HB8.out)⟩
        case measure => (simp [intOf] <;> omega)
      · have hiK : i = K := by omega
        subst hiK
        have hki : ¬ (i : Int) < (i : Int) := by omega
        have HLT : Hid (L.take i = L) := hide (List.take_of_length_le (by rw [HK.out]; exact Nat.le_refl _))
        rw [HLT.out] at HAi
        rename World => V0
        have HEB : Hid (∀ (W W' : World) , EndA W gm n (fun j => gs.getD j 0) x A → Below W.heap.size W W' → EndA W' gm n (fun j => gs.getD j 0) x A) := fun W W' ⟨h1, fd, h2, h3⟩ hb => ⟨h1.below hb, fd, fun j hj => (h2 j hj).same (hb.block _ (lt_row (h2 j hj))), h3⟩
        go_wp2_with fail
        clear g0
        go_loopw [12] (fun s12 wr => ∃ j : Nat, j ≤ 3 ∧ s12 = .int .i64 (j : Int) ∧ Hid (Tn w5 wr (All n gm g2 (fun j => gs.getD j 0))) ∧ Hid ((j = 0 ∧ AtA wr gm g2 n (fun j => gs.getD j 0) (plays ss) L) ∨ (0 < j ∧ EndA wr gm n (fun j => gs.getD j 0) x A))) (fun s12 _ => 3 - (intOf s12).toNat)
        case atStart => exact ⟨0, by omega, rfl, HTi, .inl ⟨rfl, HAi.out⟩⟩
        case round =>
          obtain ⟨j, hj, rfl, HTj, HSj⟩ := hrel
          by_cases hj3 : j < 3
          · have hji : (j : Int) < 3 := by omega
            have HNX : Hid (Calls Try.prog 12 #[.pointer (some ⟨gm, 0, none⟩)] wr fun e w' => e = .returned (.tuple #[.agg #[.int .i64 0, .int .i64 0], .bool false, .int .i64 x]) ∧ Tn wr w' (All n gm g2 (fun j => gs.getD j 0)) ∧ EndA w' gm n (fun j => gs.getD j 0) x A) := by
              rcases HSj.out with ⟨_, h⟩ | ⟨_, h⟩
              · rw [← HLT.out] at h
                refine (next_tells gm g2 n (fun j => gs.getD j 0) (plays ss) i L x A wr (by rw [HK.out]; exact Nat.le_refl _) h HRU.out HLP.out).mono fun e w' ⟨h1, h2⟩ => ?_
                rcases h2 with ⟨_, h4, h5⟩ | ⟨h3, _⟩
                · exact ⟨h4, h1, h5⟩
                · rw [HK.out] at h3; omega
              · exact (next_over gm x wr h.1).mono fun e w' ⟨h1, h2⟩ => ⟨h1, Tn.of_below _ h2, HEB.out wr w' h h2⟩
            go_upto_region 18 with (go_at_call 12; refine HNX.out.mono ?_; rintro e w6 ⟨rfl, ht6, ha6⟩; have HT6 := hide (HTj.out.trans ht6); have HA6 := hide ha6; clear ht6 ha6)
            obtain ⟨w7, hw7⟩ : ∃ w7, w6.alloc (.cells #[.int .i64 0, .int .i64 0] 36) = w7 := ⟨_, rfl⟩
            obtain ⟨gx, hgx⟩ : ∃ g, w6.heap.size = g := ⟨_, rfl⟩
            have HB7 : Hid (Below w6.heap.size w6 w7) := hide (by rw [← hw7]; exact (Below.refl _ _).alloc (Nat.le_refl _) _)
            have HX7 : Hid (w7.heap[gx]? = some (.cells #[.int .i64 0, .int .i64 0] 36)) := hide (by rw [← hw7, ← hgx]; exact heap_alloc_new _ _)
            rw [hw7, hgx]
            clear hw7 hgx
            have HT7 := hide (HT6.out.trans (Tn.of_below _ HB7.out))
            have HA7 := hide (HEB.out _ _ HA6.out HB7.out)
            have HW7 := hide ((HT7.out.block gb (Array.getElem?_eq_some_iff.1 HWB.out).1 HNB.out).trans HWB.out)
            have y1 : w7.cell? ⟨gb, 1, none⟩ = some (.int .i64 x) := by rw [cell_of_row _ _ _ _ _ _ HW7.out]; rfl
            have z0 : w7.cell? ⟨gx, 0, none⟩ = some (.int .i64 0) := by rw [cell_of_row _ _ _ _ _ _ HX7.out]; rfl
            have z1 : w7.cell? ⟨gx, 1, none⟩ = some (.int .i64 0) := by rw [cell_of_row _ _ _ _ _ _ HX7.out]; rfl
            have HERR : Hid (∀ W, Below w7.heap.size w7 W → Calls Try.prog 14 #[.pointer (some ⟨gm, 0, none⟩)] W fun e w' => e = .returned (.int .i64 x) ∧ w' = W) := fun W hW => err_over gm x W (HA7.out.1.below hW)
            have d1 : ((x : Int) != x) = false := by simp
            refine only_normal ?_
            go_quiet (first
              | (go_at_call 14; exact Calls.quiet_of_same (HERR.out _ (below_drewN' _ _ _))))
            simp only [onlyNormal]
            have HB8 := hide (below_drewN' w7.heap.size w7 nq)
            clear y1 z0 z1 d1
            go_wp2_with fail
            go_roundw
            case rel => exact ⟨j + 1, by omega, by go_num, HT7.out.trans (Tn.of_below _ HB8.out), .inr ⟨by omega, HEB.out _ _ HA7.out HB8.out⟩⟩
            case measure => (simp [intOf] <;> omega)
          · have hj3' : j = 3 := by omega
            subst hj3'
            have HEN : Hid (EndA wr gm n (fun j => gs.getD j 0) x A) := by
              rcases HSj.out with ⟨h, _⟩ | ⟨_, h⟩
              · omega
              · exact h
            rename World => V1
            have hfn : ∀ (W : World) (g : Nat), (binOp .eql 40 (.func (.func 29) #[] #[.pointer (some ⟨g, 0, none⟩)]) .nilFunc).run Try.prog W = .ok (.bool false) W := fun W g => fnil _ _ _ _ W Try.underlying40
            obtain ⟨V2, hV2⟩ : ∃ V2, V1.alloc (.cells #[.pointer (some ⟨gm, 0, none⟩)] 26) = V2 := ⟨_, rfl⟩
            obtain ⟨gy, hgy⟩ : ∃ g, V1.heap.size = g := ⟨_, rfl⟩
            have HB2' : Hid (Below V1.heap.size V1 V2) := hide (by rw [← hV2]; exact (Below.refl _ _).alloc (Nat.le_refl _) _)
            have HY2 : Hid (V2.heap[gy]? = some (.cells #[.pointer (some ⟨gm, 0, none⟩)] 26)) := hide (by rw [← hV2, ← hgy]; exact heap_alloc_new _ _)
            have HEN2 := hide (HEB.out _ _ HEN.out HB2'.out)
            go_wp2_with (go_at_call 13; refine (HER.out _ _).mono ?_; rintro e w9 ⟨rfl, e9⟩; rw [hV2] at e9; obtain rfl := e9.symm)
            clear hV2 hgy hfn
            refine wp_range_none (gf := 29) (lb := #[.pointer (some ⟨gy, 0, none⟩)]) ?hg ?eg ?hcall ?hQ
            case hg => rfl
            case eg => exact enter_fn Try.func29 (by kernel_rfl) rfl
            case hcall => exact fun l W hb => iter_over _ gy gm x W (by rw [cell_of_row _ _ _ _ _ _ ((hb.block gy (lt_row HY2.out)).trans HY2.out)]; rfl) (HEN2.out.1.below hb)
            intro D V3 hb3 hs3
            have HT3 := hide ((HTj.out.trans (Tn.of_below _ HB2'.out)).trans (Tn.of_below _ hb3))
            have HE3 := hide (HEB.out _ _ HEN2.out hb3)
            have HS3 := hide hs3
            have HVL : Hid (w5.heap.size ≤ V2.heap.size) := Nat.le_trans HTj.out.size HB2'.out.size
            clear hb3 hs3 HY2 HEN2 HEN HB2'
            have HRW3 : Hid (V3.ownsRow w1.heap.size 54 1 (.slice al n cl) gs.length (ptrs gs)) := hide (row_same HRW5.out.row (fun b hb => HT3.out.block b (HNF.out b hb).1 (HNF.out b hb).2))
            have HIA3 : Hid (IA V3 gk n A) := hide (HIA5.out.same (HT3.out.block gk HIA5.out.lt HNK.out))
            have HRB3 := hide ((HT3.out.block gr (Array.getElem?_eq_some_iff.1 HRB5.out).1 HNR.out).trans HRB5.out)
            obtain ⟨HOV, fd, hfb, hfa⟩ := HE3.out
            have HFB := hide hfb
            have HFA := hide hfa
            clear hfb hfa HOV
            go_wp2_with fail
            go_loopw [17] (fun s17 wr => ∃ t : Nat, t ≤ n ∧ s17 = .int .i64 (t : Int) ∧ Hid (∃ q, wr = V3.drewN q)) (fun s17 _ => n - (intOf s17).toNat)
            case atStart => exact ⟨0, Nat.zero_le _, rfl, 0, rfl⟩
            case round =>
              obtain ⟨t, ht, rfl, q, rfl⟩ := hrel
              by_cases htn : t < n
              · have hti : (t : Int) < (n : Int) := by omega
                obtain ⟨bf, hbf, _, cf⟩ := ptr_at HRW3.out t (by rw [HG2.out]; exact htn)
                subst hbf
                have hF := HFB.out t htn
                obtain ⟨_, _, _, c3, _, c5⟩ := FB.cells hF
                obtain ⟨ha, hbd⟩ := HFA.out t htn
                have ka := (HIA3.out.cell t htn).1
                have c3' : V3.cell? ⟨gs.getD t 0, 3, none⟩ = some (.int .i64 (A t : Int)) := by rw [← ha]; exact c3
                have c5' : V3.cell? ⟨gs.getD t 0, 5, none⟩ = some (.bool false) := by rw [← hbd]; exact c5
                clear hF c3 c5 ha hbd
                generalize gs.getD t 0 = gf at cf c3' c5'
                generalize A t = At at ka c3'
                have d1 : ((At : Int) != (At : Int)) = false := by simp
                go_upto_region 28 with (fail)
                refine only_normal ?_
                go_quiet (fail)
                simp only [onlyNormal]
                go_wp2_with fail
                go_roundw
                case rel => exact ⟨t + 1, by omega, by go_num, _, rfl⟩
                case measure => (simp [intOf] <;> omega)
              · have htn' : t = n := by omega
                subst htn'
                have hti : ¬ (t : Int) < (t : Int) := by omega
                have HB9 := hide (below_drewN' V3.heap.size V3 q)
                have HRX := hide ((HB9.out.block gr (lt_row HRB3.out)).trans HRB3.out)
                have HS9 := hide (HS3.out.below HB9.out)
                have hne : gr ≠ D := fun e => by have h1 := HS3.out.1; have h2 := HVL.out; have h3 := lt_row HRB5.out; omega
                generalize V3.drewN q = V9 at HB9 HRX HS9 ⊢
                have c0 : V9.cell? ⟨gr, 0, none⟩ = some (.bool false) := by rw [cell_of_row _ _ _ _ _ _ HRX.out]; rfl
                have f0 : V9.frozen? ⟨gr, 0, none⟩ = false := frozen_of_row _ _ _ _ _ HRX.out
                have HSH : Hid (Shut w (V9.setCell ⟨gr, 0, none⟩ (.bool true)) D) := by
                  have h1 := HS9.out
                  have hl : D < V9.heap.size := (Array.getElem?_eq_some_iff.1 h1.2).1
                  refine ⟨?_, ((grown_cell (World.grownBy.refl V9 (some gr)) 0 (.bool true)).block D hl (fun e => hne (Option.some.inj e).symm)).trans h1.2⟩
                  have := h1.1; have := HVL.out; have := (below_trans HB1.out (below_trans HB2.out HB25.out)).size; omega
                have HB0 : Hid (Below w.heap.size w (V9.setCell ⟨gr, 0, none⟩ (.bool true))) := by
                  have hw5 : Below w.heap.size w w5 := below_trans HB1.out (below_trans HB2.out HB25.out)
                  have hT : Below w.heap.size w V3 := ⟨HT3.out.os.trans hw5.os, HT3.out.tape.trans hw5.tape, HT3.out.output.trans hw5.output, Nat.le_trans hw5.size HT3.out.size, fun k hk => (HT3.out.block k (Nat.lt_of_lt_of_le hk hw5.size) (fun h => by
                    have q0 := HB1.out.size
                    have q1 := HB2.out.size
                    rcases h with h | h | ⟨z, hz, h⟩
                    · have := HGM.out; omega
                    · have := HG22.out; omega
                    · have h' : k = gs.getD z 0 := h
                      have := HRW.out.lo z (by rw [HG2.out]; exact hz); omega)).trans (hw5.block k hk)⟩
                  exact (hT.trans (HB9.out.mono hT.size)).setCell (by show w.heap.size ≤ gr; rw [HGR.out]; exact Nat.le_refl _) _
                go_wp2_with fail
                refine leaves_cell (p := 2) (ty := 4) (gc := gr) (v := .bool true) rfl HSH.out (by rw [cell_of_row _ _ _ _ _ _ (heap_setCell_same _ _ _ _ _ _ HRX.out)]; rfl) hne rfl (load_bool rfl gr true rfl) ?_
                intro V hV
                have h9 := HB0.out.trans hV
                rw [HGR.out] at h9
                exact ⟨rfl, h9⟩
  · have hni : (64 : Int) < (n : Int) := by omega
    have HMB : Hid (Calls Try.prog 10 #[.slice al n cl] w2 fun e w' => e = .returned (.tuple #[.pointer none, .int .i64 3]) ∧ Below w2.heap.size w2 w') := hide (HMA.out.mono fun e w' ⟨h1, h2⟩ => by
      rcases h2 with ⟨_, h⟩ | ⟨h, _⟩
      · exact ⟨h, h1⟩
      · omega)
    go_upto_region 4 with (go_at_call 10; refine HMB.out.mono ?_; rintro e w3 ⟨rfl, hb3⟩; have HB3 := hide hb3; clear hb3)
    have HR3 := hide ((below_trans HB2.out HB3.out).block gr (Array.getElem?_eq_some_iff.1 HR1.out).1 |>.trans HR1.out)
    have r1 : w3.cell? ⟨gr, 0, none⟩ = some (.bool false) := by rw [cell_of_row _ _ _ _ _ _ HR3.out]; rfl
    have r2 : w3.frozen? ⟨gr, 0, none⟩ = false := frozen_of_row _ _ _ _ _ HR3.out
    go_wp2_with (go_at_call 18; refine (HAS.out _ HB3.out).mono ?_; rintro e w4 ⟨rfl, e4⟩; subst e4)
    refine leaves_cell0 (gc := gr) (v := .bool true) ?_ (load_bool rfl gr true rfl) ⟨rfl, ?_⟩
    · rw [cell_of_row _ _ _ _ _ _ (heap_setCell_same _ _ _ _ _ _ HR3.out)]; rfl
    · exact (below_trans HB1.out (below_trans HB2.out HB3.out)).setCell (by show w.heap.size ≤ gr; rw [HGR.out]; exact Nat.le_refl _) _
end Go.Proofs.Ytoobgocnooeojaa.Me
