/-
  MergeAll, walked, with the contract of the document's run as its premise.
-/
import Derived.Test.YtcnfkgmefikcjaaMaSt
import Derived.Deep.LoopGhost
import Derived.Test.YtcnfkgmefikcjaaRgQuiet
import Derived.TacticsInMore
import Derived.OwnWalkIn
import Derived.Test.YtcnfkgmefikcjaaMeRunE
import Derived.Deep.DeepCutAuto
import Derived.Laws.StructEq
namespace Go.Proofs.Ytcnfkgmefikcjaa.Me
open Go.ChangeShapes Go.WideShapes Go.ChangeAt Go.RowKit
open Go.Proofs.Ytcnfkgmefikcjaa.Base Go.Proofs.Ytcnfkgmefikcjaa.Rg
set_option linter.unusedVariables false
attribute [local go_sem] Oper.semAt_some
set_option linter.unusedSimpArgs false
set_option maxHeartbeats 16000000 in
set_option maxRecDepth 100000 in
theorem alwalk (a : Option Addr) (c : Nat) (ss : List Src) (ta : Option Addr) (tl tc : Nat) (ks : List Int) (w : World) (hR : Rdy w a ss) (hl : ∀ j, j < ss.length → (ss.getD j src0).ts.length ≤ 1048576) (hn : ss.length ≤ 1048576) (hT : RdI w ta tl ks) (htl : tl ≤ 1048576) (hk9 : ∀ v ∈ ks, v ≤ 9223372036854775807)
    (hrr : ∀ (w : World), Rdy w a ss → ss.length ≤ 64 → Calls Try.prog 6 #[.slice a ss.length c] w fun e w' => ∃ (al : Option Addr) (cl : Nat) (L : List Th) (x : Int) (gk : Nat) (A : Nat → Nat), e = .returned (.tuple #[.agg #[.slice al L.length cl, .int .i64 x], .slice (some ⟨gk, 0, none⟩) ss.length ss.length]) ∧ RunsA (plays ss) ss.length L x A ∧ OwnT w' w.heap.size (.slice al L.length cl) L ∧ IA w' gk ss.length A ∧ Below w.heap.size w w') :
    Calls Try.prog 3 #[.slice a ss.length c, .slice ta tl tc] w fun e w' => e = .returned (.bool true) ∧ Below w.heap.size w w' := by
  obtain ⟨gr, hgr⟩ : ∃ g, w.heap.size = g := ⟨_, rfl⟩
  obtain ⟨w1, hw1⟩ : ∃ w1, w.alloc (.cells #[.bool false] 4) = w1 := ⟨_, rfl⟩
  have HB1 : Hid (Below w.heap.size w w1) := by rw [← hw1]; exact (Below.refl _ _).alloc (Nat.le_refl _) _
  have HR1 : Hid (w1.heap[gr]? = some (.cells #[.bool false] 4)) := by rw [← hw1, ← hgr]; exact heap_alloc_new _ _
  have HGR := hide hgr
  have HRY := hide (hR.below HB1.out)
  have HLE := hide hl
  have HFE := hide (feeds_any a c ss w1 HRY.out.rdq (by omega))
  have HER := hide (all_any)
  have HRR := hide hrr
  have HTK := hide hT
  have HK9 := hide hk9
  clear hR hl hrr hT hk9
  refine calls_marks Try.func3 rfl ?_
  simp only [Try.ntmps3, List.size_toArray, List.length_cons, List.length_nil, Nat.reduceAdd, Nat.reduceSub, Array.replicate_succ, Array.replicate_zero, List.push_toArray, List.append_toArray, List.nil_append, List.cons_append]
  obtain ⟨n, hN⟩ : ∃ n, ss.length = n := ⟨_, rfl⟩
  have HN := hide hN
  rw [hN] at hn HFE HRR ⊢
  clear hN
  go_upto_region 2 with (go_at_call 4; refine HFE.out.mono ?_; rintro e w2 ⟨v2, gs, rfl, hg2, hrow2, hb2⟩; have HG2 := hide hg2; have HRW := hide hrow2; have HB2 := hide hb2; clear hg2 hrow2 hb2)
  obtain ⟨al, cl, hv2⟩ := HRW.out.shape
  subst hv2
  rw [HG2.out]
  have HMA := hide (made_any al cl w1.heap.size gs (fun j => (ss.getD j src0).fd) w2 HRW.out (by rw [HG2.out]; omega))
  rw [HG2.out] at HMA
  by_cases hn6 : n ≤ 64
  · have HMB : Hid (Calls Try.prog 5 #[.slice al n cl] w2 fun e w' => ∃ gm g2, e = .returned (.tuple #[.pointer (some ⟨gm, 0, none⟩), .int .i64 0]) ∧ w2.heap.size ≤ gm ∧ w2.heap.size ≤ g2 ∧ AtA w' gm g2 n (fun j => gs.getD j 0) (plays ss) [] ∧ Below w2.heap.size w2 w') := hide (HMA.out.mono fun e w' ⟨h1, h2⟩ => by
      rcases h2 with ⟨h, _⟩ | ⟨_, gm, g2, h3, h4, h5, h6⟩
      · omega
      · have hfed : Fed w2 w1.heap.size (.slice al gs.length cl) gs (plays ss) := by
          refine ⟨HRW.out, fun j hj => ?_, fun j hj b off e1 e2 => ?_, fun j hj => ⟨rfl, rfl, rfl, rfl⟩, fun j hj => ?_⟩
          · exact (HRY.out.rdh j (by rw [HN.out]; rw [HG2.out] at hj; exact hj)).below HB2.out
          · obtain ⟨b', off', e3, e4, _⟩ := HRY.out.rdh j (by rw [HN.out]; rw [HG2.out] at hj; exact hj) e2
            have e5 : some (⟨b, off, none⟩ : Addr) = some ⟨b', off', none⟩ := e1.symm.trans e3
            simp only [Option.some.injEq, Addr.mk.injEq] at e5
            omega
          · have := HLE.out j (by rw [HN.out]; rw [HG2.out] at hj; exact hj)
            show (ss.getD j src0).ts.length + 2 ≤ _
            omega
        rw [← HG2.out] at h6
        have hnw := hfed.newly HB2.out.size h1 h6 h4 h5
        rw [HG2.out] at hnw
        exact ⟨gm, g2, h3, h4, h5, .inl ⟨rfl, hnw⟩, h1⟩)
    have hni : ¬ (64 : Int) < (n : Int) := by omega
    go_upto_region 3 with (go_at_call 5; refine HMB.out.mono ?_; rintro e w3 ⟨gm, g2, rfl, hgm, hg2, hat, hb3⟩; have HGM := hide hgm; have HG22 := hide hg2; have HAT := hide hat; have HB3 := hide hb3; clear hgm hg2 hat hb3)
    have HRY3 := hide (HRY.out.below (below_trans HB2.out HB3.out))
    go_upto_region 8 with (go_at_call 6; refine (HRR.out _ HRY3.out hn6).mono ?_; rintro e w4 ⟨aL, cL, L, x, gk, A, rfl, hruns, hown, hia, hb4⟩; have HRU := hide hruns; have HOL := hide hown; have HIA := hide hia; have HB4 := hide hb4; clear hruns hown hia hb4)
    obtain ⟨K, hK⟩ : ∃ K, L.length = K := ⟨_, rfl⟩
    rw [hK] at HOL ⊢
    have HK := hide hK
    clear hK
    obtain ⟨w5, hw5⟩ : ∃ w5, w4.alloc (.cells #[.slice aL K cL, .int .i64 x] 32) = w5 := ⟨_, rfl⟩
    obtain ⟨gb, hgb⟩ : ∃ g, w4.heap.size = g := ⟨_, rfl⟩
    have HB5 : Hid (Below w4.heap.size w4 w5) := hide (by rw [← hw5]; exact (Below.refl _ _).alloc (Nat.le_refl _) _)
    have HWB : Hid (w5.heap[gb]? = some (.cells #[.slice aL K cL, .int .i64 x] 32)) := hide (by rw [← hw5, ← hgb]; exact heap_alloc_new _ _)
    have HGB := hide hgb
    rw [hw5, hgb]
    clear hw5 hgb
    have HAT5 := hide (HAT.out.below (below_trans HB4.out HB5.out))
    have HOL5 := hide (HOL.out.below HB5.out)
    have HIA5 := hide (HIA.out.same (HB5.out.block gk HIA.out.lt))
    have HB25 := hide (below_trans HB3.out (below_trans HB4.out HB5.out))
    have HRW5 : Hid (Row w5 w1.heap.size (.slice al n cl) gs (fun j => (ss.getD j src0).fd)) := hide (by have h := HRW.out.below HB25.out; rw [HG2.out] at h; exact h)
    have HRB5 : Hid (w5.heap[gr]? = some (.cells #[.bool false] 4)) := hide (((below_trans HB2.out HB25.out).block gr (Array.getElem?_eq_some_iff.1 HR1.out).1).trans HR1.out)
    have HGR1 : Hid (gr < w1.heap.size) := (Array.getElem?_eq_some_iff.1 HR1.out).1
    have HNL : Hid (∀ b, w3.heap.size ≤ b → ¬ All n gm g2 (fun j => gs.getD j 0) b) := fun b hb h => by have := HAT.out.lt b h; omega
    have HNR : Hid (¬ All n gm g2 (fun j => gs.getD j 0) gr) := fun h => by
      have q0 := HGR1.out
      have q1 := HB2.out.size
      rcases h with h | h | ⟨k, hk, h⟩
      · have := HGM.out; omega
      · have := HG22.out; omega
      · have h' : gr = gs.getD k 0 := h
        have := HRW.out.lo k (by rw [HG2.out]; exact hk); omega
    have HNF : Hid (∀ b, (Value.slice al n cl).ownBlock = some b → b < w5.heap.size ∧ ¬ All n gm g2 (fun j => gs.getD j 0) b) := fun b hb => by
      have e1 : (Value.slice al gs.length cl).ownBlock = some b := by rw [HG2.out]; exact hb
      have q1 := row_blk HRW.out.row b e1
      refine ⟨Nat.lt_of_lt_of_le q1.2 HB25.out.size, fun h => ?_⟩
      rcases h with h | h | ⟨k, hk, h⟩
      · have := HGM.out; omega
      · have := HG22.out; omega
      · have h' : b = gs.getD k 0 := h
        exact HRW.out.ap k (by rw [HG2.out]; exact hk) (by rw [← h']; exact e1)
    have HNK : Hid (¬ All n gm g2 (fun j => gs.getD j 0) gk) := HAT5.out.int HIA5.out
    have HNB : Hid (¬ All n gm g2 (fun j => gs.getD j 0) gb) := HNL.out gb (by rw [← HGB.out]; exact HB4.out.size)
    have HLP : Hid (∀ j, j < n → (plays ss j).ts.length + 2 ≤ 4611686018427387904) := fun j hj => by
      have := HLE.out j (by rw [HN.out]; exact hj)
      show (ss.getD j src0).ts.length + 2 ≤ _
      omega
    have HKS : Hid (K ≤ 67108864) := hide (by
      have h1 := HRU.out.len
      have h2 : sumN (lens (plays ss)) n ≤ n * 1048576 := sum_bound (fun j hj => HLE.out j (by rw [HN.out]; exact hj))
      rw [HK.out] at h1
      omega)
    have hKS := HKS.out
    go_upto_region 9 with (fail)
    obtain ⟨w6, hw6⟩ : ∃ w6, w5.alloc (.cells #[.int .i64 0] 3) = w6 := ⟨_, rfl⟩
    obtain ⟨gn, hgn⟩ : ∃ g, w5.heap.size = g := ⟨_, rfl⟩
    have HB6 : Hid (Below w5.heap.size w5 w6) := by rw [← hw6]; exact (Below.refl _ _).alloc (Nat.le_refl _) _
    have HN6 : Hid (w6.heap[gn]? = some (.cells #[.int .i64 0] 3)) := by rw [← hw6, ← hgn]; exact heap_alloc_new _ _
    have HGN := hide hgn
    rw [hw6, hgn]
    clear hw6 hgn
    have HG56 : Hid (gn < w6.heap.size) := lt_row HN6.out
    have HFX : Hid (Fx w6 gm g2 n gn (fun j => gs.getD j 0) (plays ss)) := ⟨fun b hb => by
      have h1 := HAT5.out.lt b hb
      have h2 := HB6.out.size
      have h3 := HGN.out
      exact ⟨by omega, by omega⟩, fun j hj b off e1 e2 => by
      obtain ⟨b', off', e3, e4, _⟩ := HRY3.out.rdh j (by rw [HN.out]; exact hj) e2
      have e5 : some (⟨b, off, none⟩ : Addr) = some ⟨b', off', none⟩ := e1.symm.trans e3
      simp only [Option.some.injEq, Addr.mk.injEq] at e5
      have h1 := (below_trans HB4.out HB5.out).size
      have h2 := HB6.out.size
      have h3 := HGN.out
      exact ⟨by omega, by omega⟩, HG56.out⟩
    have HNW : Hid (∀ b, b < w.heap.size → ¬ All n gm g2 (fun j => gs.getD j 0) b) := fun b hb h => by
      have q0 := HB1.out.size
      have q1 := HB2.out.size
      rcases h with h | h | ⟨k, hk, h⟩
      · have := HGM.out; omega
      · have := HG22.out; omega
      · have h' : b = gs.getD k 0 := h
        have := HRW.out.lo k (by rw [HG2.out]; exact hk); omega
    have HB06 := hide (below_trans HB1.out (below_trans HB2.out (below_trans HB25.out HB6.out)))
    have HKW : Hid (∀ W b, b < w.heap.size → Tn w6 W (fun b => All n gm g2 (fun j => gs.getD j 0) b ∨ b = gn) → W.heap[b]? = w.heap[b]?) := fun W b hb ht => by
      have h1 := HB06.out.size
      have h2 := (below_trans HB1.out (below_trans HB2.out HB25.out)).size
      have h3 := HGN.out
      exact (ht.block b (by omega) (fun e => e.elim (HNW.out b hb) (by omega))).trans (HB06.out.block b hb)
    have HTA : Hid (∀ W, Tn w6 W (fun b => All n gm g2 (fun j => gs.getD j 0) b ∨ b = gn) → RdI W ta tl ks) := fun W ht => by
      obtain ⟨h1, h2, h3⟩ := HTK.out
      refine ⟨h1, h2, fun hp => ?_⟩
      obtain ⟨b, off, e1, e2, e3⟩ := h3 hp
      have e4 := HKW.out W b e2 ht
      refine ⟨b, off, e1, Nat.lt_of_lt_of_le e2 (Nat.le_trans HB06.out.size ht.size), fun i hi => ?_⟩
      rw [← e3 i hi]
      exact cell_of_block e4
    have HTO : Hid (∀ W, Tn w6 W (fun b => All n gm g2 (fun j => gs.getD j 0) b ∨ b = gn) → OwnT W w3.heap.size (.slice aL K cL) L ∧ W.heap[gb]? = some (.cells #[.slice aL K cL, .int .i64 x] 32) ∧ W.heap[gr]? = some (.cells #[.bool false] 4)) := fun W ht => by
      have h3 := HGN.out
      refine ⟨?_, ?_, ?_⟩
      · refine (HOL5.out.below HB6.out).same (fun b hb => ?_)
        have q := row_blk HOL5.out b hb
        exact ht.block b (Nat.lt_of_lt_of_le q.2 HB6.out.size) (fun e => e.elim (HNL.out b q.1) (by omega))
      · have q := lt_row HWB.out
        exact (ht.block gb (Nat.lt_of_lt_of_le q HB6.out.size) (fun e => e.elim HNB.out (by omega))).trans ((HB6.out.block gb q).trans HWB.out)
      · have q := lt_row HRB5.out
        exact (ht.block gr (Nat.lt_of_lt_of_le q HB6.out.size) (fun e => e.elim HNR.out (by omega))).trans ((HB6.out.block gr q).trans HRB5.out)
    have HAL : Hid (AL w6 w6 gm g2 n gn (fun j => gs.getD j 0) (plays ss) L 0 0) := ⟨by rw [List.take_zero]; exact HAT5.out.below HB6.out, HN6.out, Tn.refl _ _⟩
    have HGRW : Hid (w.heap.size ≤ gr ∧ gr < w6.heap.size) := ⟨Nat.le_of_eq HGR.out, by have h1 := HGR1.out; have h2 := (below_trans HB2.out (below_trans HB25.out HB6.out)).size; omega⟩
    clear HB1 HB2 HB3 HB4 HB5 HB25 HRW HRW5 HRB5 HWB HAT HAT5 HOL HOL5 HIA HIA5 HGM HG22 HGB HGR1 HNL HNR HNF HNK HNB HN6 HGN HR1 HRY HRY3 HLE HMB HFE HMA HRR
    have htli : (tl : Int) ≤ 1048576 := by omega
    go_wp2_with fail
    refine wp_loop_ghost_k (fun m ac W => ∃ (i p : Nat), m + i = tl ∧ p ≤ K ∧ Frm ta tl tc gr gm gb gn i ac.tmps ∧ Marks w6.heap.size W ac.defers ∧ AL w6 W gm g2 n gn (fun j => gs.getD j 0) (plays ss) L p p) tl ?start ?round
    case start => exact ⟨0, 0, by omega, by omega, ⟨rfl, rfl, rfl, rfl, rfl, rfl, rfl⟩, trivial, HAL.out⟩
    case round =>
      rintro gk ⟨t, ds⟩ wk ⟨i, p, hgk, hp, ⟨hsz, f1, f4, f6, f8, f10, f11⟩, hmk, hal⟩ J K' hJ hK
      have HJ := hide hJ
      have HM := hide hmk
      have HA := hide hal
      have HGK := hide hgk
      have HPK := hide hp
      obtain ⟨U, hU, ht⟩ := spread t hsz
      have u1 := (hU 1).trans f1
      have u4 := (hU 4).trans f4
      have u6 := (hU 6).trans f6
      have u8 := (hU 8).trans f8
      have u10 := (hU 10).trans f10
      have u11 := (hU 11).trans f11
      rw [u1, u4, u6, u8, u10, u11] at ht
      clear hU f1 f4 f6 f8 f10 f11 hsz u1 u4 u6 u8 u10 u11 hJ hmk hal hgk
      subst ht
      by_cases hlt : i < tl
      · have hki : (i : Int) < (tl : Int) := by omega
        obtain ⟨tb, toff, hta, _, hcs⟩ := (HTA.out wk HA.out.tn).2.2 (by omega)
        subst hta
        have hck := hcs i hlt
        obtain ⟨kk, hkk⟩ : ∃ k, ks.getD i 0 = k := ⟨_, rfl⟩
        rw [hkk] at hck
        have HKX : Hid (kk ≤ 9223372036854775807) := by
          rw [← hkk, List.getD_eq_getElem?_getD, List.getElem?_eq_getElem (by rw [HTK.out.1]; exact hlt)]
          exact HK9.out _ (List.getElem_mem _)
        clear hcs hkk
        go_upto_region 13 with (fail)
        obtain ⟨v1, hv1⟩ : ∃ v1, wk.alloc (.cells #[.int .i64 kk] 3) = v1 := ⟨_, rfl⟩
        obtain ⟨gq, hgq⟩ : ∃ g, wk.heap.size = g := ⟨_, rfl⟩
        have HBV1 : Hid (Below wk.heap.size wk v1) := by rw [← hv1]; exact (Below.refl _ _).alloc (Nat.le_refl _) _
        have HQ1 : Hid (v1.heap[gq]? = some (.cells #[.int .i64 kk] 3)) := by rw [← hv1, ← hgq]; exact heap_alloc_new _ _
        have HGQ : Hid (w6.heap.size ≤ gq) := by have h1 := HA.out.tn.size; show w6.heap.size ≤ gq; omega
        rw [hv1, hgq]
        clear hv1 hgq hck
        have HA1 := hide (HA.out.below HBV1.out)
        have HM1 := hide (HM.out.below HBV1.out)
        have q1 : v1.cell? ⟨gq, 0, none⟩ = some (.int .i64 kk) := by rw [cell_of_row _ _ _ _ _ _ HQ1.out]; rfl
        by_cases hpar : i % 2 = 1
        · have hr1 : (i : Int).tmod 2 = 1 := by rw [Int.tmod_eq_emod_of_nonneg (by omega)]; omega
          have hr2 : (i : Int) % 2 = 1 := by omega
          go_upto_region 14 with (fail)
          clear hr1 hr2 q1
          go_wp2_with fail
          go_loopw [13] (fun s13 wr => ∃ (j q : Nat), j + p = q ∧ q ≤ K ∧ s13 = .int .i64 (j : Int) ∧ Hid (AL w6 wr gm g2 n gn (fun j => gs.getD j 0) (plays ss) L q q) ∧ Hid (wr.heap[gq]? = some (.cells #[.int .i64 kk] 3)) ∧ Hid (Marks w6.heap.size wr ds)) (fun s13 _ => K - (intOf s13).toNat)
          case atStart => exact ⟨0, p, by omega, HPK.out, rfl, HA1.out, HQ1.out, HM1.out⟩
          case round =>
            obtain ⟨j, q, hjq, hqK, rfl, HAr, HQr, HMr⟩ := hrel
            have HTr := hide (HTO.out wr HAr.out.tn)
            have x0 : wr.cell? ⟨gq, 0, none⟩ = some (.int .i64 kk) := by rw [cell_of_row _ _ _ _ _ _ HQr.out]; rfl
            have x1 := HAr.out.cell
            have x2 : wr.cell? ⟨gb, 0, none⟩ = some (.slice aL K cL) := by rw [cell_of_row _ _ _ _ _ _ HTr.out.2.1]; rfl
            by_cases hjk : (j : Int) < kk
            · by_cases hqk : q < K
              · have hqi : (q : Int) < (K : Int) := by omega
                have HNX : Hid (Calls Try.prog 7 #[.pointer (some ⟨gm, 0, none⟩)] wr fun e w' => e = .returned (.tuple #[(L.getD q th0).val, .bool true, .int .i64 0]) ∧ Tn wr w' (All n gm g2 (fun j => gs.getD j 0)) ∧ AtA w' gm g2 n (fun j => gs.getD j 0) (plays ss) (L.take (q + 1))) := hide ((next_tells gm g2 n (fun j => gs.getD j 0) (plays ss) q L x A wr (by rw [HK.out]; exact hqK) HAr.out.at_ HRU.out HLP.out).mono fun e w' ⟨h1, h2⟩ => by
                  rcases h2 with ⟨h3, _⟩ | ⟨_, h4, h5⟩
                  · rw [HK.out] at h3; omega
                  · exact ⟨h4, h1, h5⟩)
                unfold Th.val at HNX
                generalize hTk : (L.getD q th0).key = tk at HNX
                generalize hTn : (L.getD q th0).name = tn at HNX
                have HTKK := hide hTk
                have HTN := hide hTn
                clear hTk hTn
                go_upto_region 18 with (go_at_call 7; refine HNX.out.mono ?_; rintro e w7 ⟨rfl, ht7, ha7⟩; have HA7 := hide (HAr.out.next HFX.out ht7 ha7); have HQ7 := hide ((ht7.block gq (lt_row HQr.out) (fun e => by have := (HFX.out.all gq e).1; have := HGQ.out; omega)).trans HQr.out); have HM7 := hide (HMr.out.kept (fun D hD h => tn_mark ht7 HAr.out.at_ h)); clear ht7 ha7)
                obtain ⟨w8, hw8⟩ : ∃ w8, w7.alloc (.cells #[.int .i64 tk, .int .i64 tn] 36) = w8 := ⟨_, rfl⟩
                obtain ⟨gx, hgx⟩ : ∃ g, w7.heap.size = g := ⟨_, rfl⟩
                have HB8 : Hid (Below w7.heap.size w7 w8) := hide (by rw [← hw8]; exact (Below.refl _ _).alloc (Nat.le_refl _) _)
                have HX8 : Hid (w8.heap[gx]? = some (.cells #[.int .i64 tk, .int .i64 tn] 36)) := hide (by rw [← hw8, ← hgx]; exact heap_alloc_new _ _)
                rw [hw8, hgx]
                clear hw8 hgx x0 x1 x2
                have HA8 := hide (HA7.out.below HB8.out)
                have HM8 := hide (HM7.out.below HB8.out)
                have HQ8 := hide ((HB8.out.block gq (lt_row HQ7.out)).trans HQ7.out)
                have HT8 := hide (HTO.out w8 HA8.out.tn)
                have y0 : w8.cell? ⟨gb, 0, none⟩ = some (.slice aL K cL) := by rw [cell_of_row _ _ _ _ _ _ HT8.out.2.1]; rfl
                have z0 : w8.cell? ⟨gx, 0, none⟩ = some (.int .i64 tk) := by rw [cell_of_row _ _ _ _ _ _ HX8.out]; rfl
                have z1 : w8.cell? ⟨gx, 1, none⟩ = some (.int .i64 tn) := by rw [cell_of_row _ _ _ _ _ _ HX8.out]; rfl
                have n0 := HA8.out.cell
                obtain ⟨gL, hgL⟩ : ∃ g, aL = some ⟨g, 0, none⟩ := by
                  rcases HT8.out.1.shape with ⟨h1, _⟩ | ⟨g, c9, h1, _⟩
                  · have h2 := HK.out; rw [h1] at h2; simp at h2; omega
                  · simp only [Value.slice.injEq] at h1; exact ⟨g, h1.1⟩
                subst hgL
                obtain ⟨l0, l1⟩ := HT8.out.1.cells q (by rw [HK.out]; exact hqk)
                rw [HTKK.out] at l0
                rw [HTN.out] at l1
                refine only_normal ?_
                go_quiet (fail)
                simp only [onlyNormal]
                have HB9 := hide (below_drewN' w8.heap.size w8 nq)
                have HA9 := hide (HA8.out.below HB9.out)
                have n1 := HA9.out.cell
                have n2 := HA9.out.frozen
                have HM9 := hide (HM8.out.below HB9.out)
                have HQ9 := hide ((HB9.out.block gq (lt_row HQ8.out)).trans HQ8.out)
                have HA10 := hide (HA9.out.step HFX.out)
                clear y0 z0 z1 l0 l1 n0
                go_wp2_with fail
                go_roundw
                case rel => exact ⟨j + 1, q + 1, by omega, by omega, by go_num, HA10.out, ((grown_cell (World.grownBy.refl _ (some gn)) 0 _).block gq (lt_row HQ9.out) (fun e => by have e2 : gq = gn := Option.some.inj e; have := HFX.out.lt; have := HGQ.out; omega)).trans HQ9.out, mark_cell HM9.out HA9.out.num⟩
                case measure => (simp [intOf] <;> omega)
              · obtain rfl : K = q := by omega
                have hqi : ¬ (K : Int) < (K : Int) := by omega
                go_wp2_with fail
                refine Handed.intro (gk - 1) (by have := HGK.out; omega) (HJ.out _ _ _ ⟨i + 1, K, by have := HGK.out; omega, by omega, ⟨rfl, rfl, rfl, rfl, rfl, rfl, by first | rfl | (show Value.int .i64 ((i : Int) + 1) = _; go_num)⟩, HMr.out, HAr.out⟩)
            · go_wp2_with fail
              refine Handed.intro (gk - 1) (by have := HGK.out; omega) (HJ.out _ _ _ ⟨i + 1, q, by have := HGK.out; omega, by omega, ⟨rfl, rfl, rfl, rfl, rfl, rfl, by first | rfl | (show Value.int .i64 ((i : Int) + 1) = _; go_num)⟩, HMr.out, HAr.out⟩)
        · have hr1 : (i : Int).tmod 2 = 0 := by rw [Int.tmod_eq_emod_of_nonneg (by omega)]; omega
          have hr2 : (i : Int) % 2 = 0 := by omega
          have hr3 : ((0 : Int) == 1) = false := by decide
          go_upto_region 21 with (fail)
          clear hr1 hr2 hr3
          have HT1 := hide (HTO.out v1 HA1.out.tn)
          have x1 := HA1.out.cell
          have x2 : v1.cell? ⟨gb, 0, none⟩ = some (.slice aL K cL) := by rw [cell_of_row _ _ _ _ _ _ HT1.out.2.1]; rfl
          by_cases hk1 : kk < 1
          · go_wp2_with fail
            refine Handed.intro (gk - 1) (by have := HGK.out; omega) (HJ.out _ _ _ ⟨i + 1, p, by have := HGK.out; omega, by omega, ⟨rfl, rfl, rfl, rfl, rfl, rfl, by first | rfl | (show Value.int .i64 ((i : Int) + 1) = _; go_num)⟩, HM1.out, HA1.out⟩)
          · by_cases hpK : p = K
            · subst hpK
              have hpp : ((p : Int) == (p : Int)) = true := by simp
              go_wp2_with fail
              refine Handed.intro (gk - 1) (by have := HGK.out; omega) (HJ.out _ _ _ ⟨i + 1, p, by have := HGK.out; omega, by omega, ⟨rfl, rfl, rfl, rfl, rfl, rfl, by first | rfl | (show Value.int .i64 ((i : Int) + 1) = _; go_num)⟩, HM1.out, HA1.out⟩)
            · have hpi : ((p : Int) == (K : Int)) = false := by simp; omega
              have hpn : (p == K) = false := by simp; omega
              have HP2 : Hid (p < K) := by have := HPK.out; show p < K; omega
              go_upto_region 22 with (fail)
              clear x1 x2 q1 hpi hpn
              have hfn : ∀ (W : World) (g : Nat), (binOp .eql 40 (.func (.func 15) #[] #[.pointer (some ⟨g, 0, none⟩)]) .nilFunc).run Try.prog W = .ok (.bool false) W := fun W g => fnil _ _ _ _ W Try.underlying40
              obtain ⟨v2, hv2⟩ : ∃ v2, v1.alloc (.cells #[.pointer (some ⟨gm, 0, none⟩)] 26) = v2 := ⟨_, rfl⟩
              obtain ⟨gc, hgc⟩ : ∃ g, v1.heap.size = g := ⟨_, rfl⟩
              have HB2 : Hid (Below v1.heap.size v1 v2) := by rw [← hv2]; exact (Below.refl _ _).alloc (Nat.le_refl _) _
              have HC2 : Hid (v2.heap[gc]? = some (.cells #[.pointer (some ⟨gm, 0, none⟩)] 26)) := by rw [← hv2, ← hgc]; exact heap_alloc_new _ _
              have HGC := hide hgc
              have HA2 := hide (HA1.out.below HB2.out)
              have HM2 := hide (HM1.out.below HB2.out)
              have HQ2 := hide ((HB2.out.block gq (lt_row HQ1.out)).trans HQ1.out)
              have HNE : Hid (gc ≠ gq) := fun e => by have h1 := lt_row HQ1.out; have h2 := HGC.out; omega
              have HSZ : Hid (w6.heap.size ≤ v2.heap.size ∧ w6.heap.size ≤ gc) := by have h1 := HA1.out.tn.size; have h2 := HB2.out.size; have h3 := HGC.out; exact ⟨by omega, by omega⟩
              have HIT := hide (iter_live gc gm g2 n (fun j => gs.getD j 0) (plays ss) L x A p (by rw [HK.out]; exact HPK.out) HRU.out HLP.out)
              rw [HK.out] at HIT
              go_wp2_with (go_at_call 8; refine (HER.out _ _).mono ?_; rintro e w9 ⟨rfl, e9⟩; rw [hv2] at e9; obtain rfl := e9.symm)
              clear hv2 hgc hfn
              refine wp_range_live_b (gf := 15) (lb := #[.pointer (some ⟨gc, 0, none⟩)]) (N := K - p) (E := fun k => #[(L.getD (p + k) th0).val]) ?hg ?eg HIT.out (fun k W W' h => h.2.1) (fun W W' h => h.2.1) (fun _ _ => rfl)
                36 (fun k => #[.int .i64 (L.getD (p + k) th0).key, .int .i64 (L.getD (p + k) th0).name])
                (fun k gx t => (t.setIfInBounds 106 (L.getD (p + k) th0).val).setIfInBounds 18 (.pointer (some ⟨gx, 0, none⟩)))
                (fun k W => LI w6 v2 W gm g2 n gn gq (fun j => gs.getD j 0) (plays ss) L kk p K k (p + k)) (fun k W => LI w6 v2 W gm g2 n gn gq (fun j => gs.getD j 0) (plays ss) L kk p K k (p + k + 1)) (fun c k W => c = .exit 4 ∧ LX w6 v2 W gm g2 n gn gq (fun j => gs.getD j 0) (plays ss) L p K k) (fun _ => False)
                ?lI ?lI2 ?lX ?lE ?sI ?sE ?rG ?i0 ?iB ?assign ?body ?done ?stop
              case hg => rfl
              case eg => exact Rg.enter_fn Try.func15 (by kernel_rfl) rfl
              case lI => exact fun k W j o o' h hj hjo ho => h.put HFX.out HSZ.out.1 o' hj (lt_row HQ2.out)
              case lI2 => exact fun k W j o o' h hj hjo ho => h.put HFX.out HSZ.out.1 o' hj (lt_row HQ2.out)
              case lX => exact fun c k W j o o' h hj hjo ho => ⟨h.1, h.2.put HFX.out HSZ.out.1 o' hj⟩
              case lE => exact fun W j o o' h _ _ _ => h
              case sI => exact fun k W W' hk h hs => h.next HFX.out HGQ.out hs.1 hs.2.2
              case sE => exact fun W W' h _ => by have := h.lt; have := HPK.out; omega
              case rG => exact fun k W hk h => ⟨h.al.at_, (h.tn.block gc (lt_row HC2.out) (fun e => by
                rcases e with e | e | e
                · have := (HFX.out.all gc e).1; have := HSZ.out.2; omega
                · have := HFX.out.lt; have := HSZ.out.2; omega
                · exact HNE.out e)).trans HC2.out⟩
              case i0 => exact fun W hb => LI.below ⟨HA2.out, by rw [show kk - ((0 : Nat) : Int) = kk by omega]; exact HQ2.out, Tn.refl _ _, HP2.out, by omega⟩ hb
              case iB => exact fun k W W' h hb => h.below hb
              case assign =>
                intro l k W K2 hk hK2
                unfold Th.val
                gi_wp2
                exact hK2 _ _ ((Below.refl _ _).alloc (Nat.le_refl _) _) (heap_alloc_new _ _)
              case body =>
                rintro l k gx W hl hk ⟨rr, hr⟩ hI hx
                have HI := hide hI
                have hpk := hI.lt
                have hkl := hI.kl
                have HXX := hide hx
                have HTW := hide (HTO.out W hI.al.tn)
                have HMM : Hid (p + (k + 1) = p + k + 1) := rfl
                clear hI hx hr
                obtain ⟨tk, htk⟩ : ∃ t, (L.getD (p + k) th0).key = t := ⟨_, rfl⟩
                obtain ⟨tn, htn⟩ : ∃ t, (L.getD (p + k) th0).name = t := ⟨_, rfl⟩
                obtain ⟨gL, hgL⟩ : ∃ g, aL = some ⟨g, 0, none⟩ := by
                  rcases HTW.out.1.shape with ⟨h1, _⟩ | ⟨g, c9, h1, _⟩
                  · have h2 := HK.out; rw [h1] at h2; simp at h2; omega
                  · simp only [Value.slice.injEq] at h1; exact ⟨g, h1.1⟩
                subst hgL
                obtain ⟨l0, l1⟩ := HTW.out.1.cells (p + k) (by rw [HK.out]; exact hpk)
                have z0 : W.cell? ⟨gx, 0, none⟩ = some (.int .i64 tk) := by rw [cell_of_row _ _ _ _ _ _ HXX.out, ← htk]; rfl
                have z1 : W.cell? ⟨gx, 1, none⟩ = some (.int .i64 tn) := by rw [cell_of_row _ _ _ _ _ _ HXX.out, ← htn]; rfl
                have y0 : W.cell? ⟨gb, 0, none⟩ = some (.slice (some ⟨gL, 0, none⟩) K cL) := by rw [cell_of_row _ _ _ _ _ _ HTW.out.2.1]; rfl
                have n0 := HI.out.al.cell
                unfold Th.val
                rw [htk] at l0 ⊢
                rw [htn] at l1 ⊢
                rw [HMM.out]
                clear htk htn
                obtain ⟨z, hz⟩ : ∃ z, kk - (k : Int) - 1 = z := ⟨_, rfl⟩
                have hz0 : 0 ≤ z := by omega
                have hz9 : z ≤ 9223372036854775806 := by have := HKX.out; omega
                have hkz : kk - (k : Int) = z + 1 := by omega
                have HCT := hide (fun V (hV : LI w6 v2 V gm g2 n gn gq (fun j => gs.getD j 0) (plays ss) L kk p K k (p + k + 1)) => hV.count HFX.out HGQ.out z hz)
                have HKB : Hid (∀ V, LI w6 v2 V gm g2 n gn gq (fun j => gs.getD j 0) (plays ss) L kk p K k (p + k + 1) → V.heap[gq]? = some (.cells #[.int .i64 (z + 1)] 3)) := fun V hV => by rw [← hkz]; exact hV.kb
                have HKZ : Hid (kk - ((k + 1 : Nat) : Int) = z) := by show kk - ((k + 1 : Nat) : Int) = z; omega
                obtain ⟨m, hm⟩ : ∃ m, p + k = m := ⟨_, rfl⟩
                rw [hm] at hpk l0 l1 n0 HCT HI HMM HKB ⊢
                have HM0 := hide hm
                have hmi : ¬ (K : Int) ≤ (m : Int) := by omega
                have hmd : decide ((K : Int) ≤ (m : Int)) = false := by simp; omega
                have hmn : decide (K ≤ m) = false := by simp; omega
                have hml : (m : Int) < (K : Int) := by omega
                have HKL : Hid ((k : Int) < kk) := hkl
                clear hm hz hkz hkl
                gi_wp2
                refine region_quiet (by kernel_rfl) (by kernel_rfl) (by kernel_rfl) ?_
                repeat (gi_big_quiet_step (fail))
                refine wpQuietIn_nil ?_
                rintro _ ⟨nq, rfl⟩
                obtain ⟨Wq, hWq⟩ : ∃ Wq, W.drewN nq = Wq := ⟨_, rfl⟩
                rw [hWq]
                have HBQ : Hid (Below W.heap.size W Wq) := by rw [← hWq]; exact below_drewN' _ _ _
                have HIQ := hide (HI.out.below HBQ.out)
                clear hWq l0 l1 z0 z1 y0 n0
                have HTQ := hide (HTO.out Wq HIQ.out.al.tn)
                have n1 := HIQ.out.al.cell
                rw [HM0.out] at n1
                have n2 := HIQ.out.al.frozen
                have HKQ := hide (HKB.out Wq HIQ.out)
                have HCQ := hide (HCT.out Wq HIQ.out)
                have HG1 := hide (grown_cell (World.grownBy.refl Wq (some gn)) 0 (.int .i64 ((m : Int) + 1)))
                obtain ⟨V1, hV1⟩ : ∃ V1, Wq.setCell ⟨gn, 0, none⟩ (.int .i64 ((m : Int) + 1)) = V1 := ⟨_, rfl⟩
                rw [hV1] at HCQ HG1
                have HGNQ : Hid (gq ≠ gn) := fun e => by have := HFX.out.lt; have := HGQ.out; omega
                have HK1 := hide ((HG1.out.block gq (lt_row HKQ.out) (fun e => HGNQ.out (Option.some.inj e))).trans HKQ.out)
                have k1 : V1.cell? ⟨gq, 0, none⟩ = some (.int .i64 (z + 1)) := by rw [cell_of_row _ _ _ _ _ _ HK1.out]; rfl
                have k2 : V1.frozen? ⟨gq, 0, none⟩ = false := frozen_of_row _ _ _ _ _ HK1.out
                obtain ⟨V2, hV2⟩ : ∃ V2, V1.setCell ⟨gq, 0, none⟩ (.int .i64 z) = V2 := ⟨_, rfl⟩
                rw [hV2] at HCQ
                have k3 : V2.cell? ⟨gq, 0, none⟩ = some (.int .i64 z) := by rw [cell_of_row _ _ _ _ _ _ HCQ.out.2.1]; rfl
                have n3 : V2.cell? ⟨gn, 0, none⟩ = some (.int .i64 ((m : Int) + 1)) := HCQ.out.1.cell
                have HT2 := hide (HTO.out V2 HCQ.out.1.tn)
                have y2 : V2.cell? ⟨gb, 0, none⟩ = some (.slice (some ⟨gL, 0, none⟩) K cL) := by rw [cell_of_row _ _ _ _ _ _ HT2.out.2.1]; rfl
                have hzz : z + 1 - 1 = z := by omega
                have HKF : Hid (KeepsFrom v2.heap.size W V2) := ((keeps_below _ _ HBQ.out).from _).trans (HCQ.out.2.2.2 _)
                have HLX : Hid (LX w6 v2 V2 gm g2 n gn gq (fun j => gs.getD j 0) (plays ss) L p K k) := ⟨by rw [HM0.out]; exact HCQ.out.1, HCQ.out.2.2.1, by have := HM0.out; omega⟩
                by_cases hz1 : z = 0
                · subst hz1
                  gi_wp2
                  exact ⟨HKF.out, rfl, HLX.out⟩
                · have hzb : (z == 0) = false := by simpa using hz1
                  by_cases hmK : m + 1 = K
                  · have hme : (((m : Int) + 1) == (K : Int)) = true := by simp; omega
                    gi_wp2
                    exact ⟨HKF.out, rfl, HLX.out⟩
                  · have hme : (((m : Int) + 1) == (K : Int)) = false := by simp; omega
                    have HLI : Hid (LI w6 v2 V2 gm g2 n gn gq (fun j => gs.getD j 0) (plays ss) L kk p K (k + 1) (m + 1)) := ⟨by rw [HMM.out]; exact HCQ.out.1, by rw [HKZ.out]; exact HCQ.out.2.1, HCQ.out.2.2.1, by have := HM0.out; omega, by have := HKZ.out; omega⟩
                    gi_wp2
                    exact ⟨HKF.out, HLI.out⟩
              case done => exact fun D W hD h _ => h.elim
              case stop =>
                rintro D c' k W hD hk ⟨rfl, hx⟩ hDW
                have HX := hide hx
                have HMW := hide (tn_marks HM2.out hx.tn HA2.out.at_ HA2.out.num HQ2.out)
                have HMD := hide (Marks.more HM2.out HSZ.out.1 hD hDW HMW.out)
                have hpk1 := hx.lt
                clear hx hDW
                go_wp2_with fail
                refine Handed.intro (gk - 1) (by have := HGK.out; omega) (HJ.out _ _ _ ⟨i + 1, p + k + 1, by have := HGK.out; omega, by omega, ⟨rfl, rfl, rfl, rfl, rfl, rfl, by first | rfl | (show Value.int .i64 ((i : Int) + 1) = _; go_num)⟩, HMD.out, HX.out.al⟩)
      · have hki : ¬ (i : Int) < (tl : Int) := by omega
        have HER1 := hide HA.out.at_.err
        go_upto_region 34 with (go_at_call 9; refine HER1.out.mono ?_; rintro e w4 ⟨rfl, e4⟩; have e5 := e4.symm; clear e4; subst e5)
        have hfn : ∀ (W : World) (g : Nat), (binOp .eql 40 (.func (.func 15) #[] #[.pointer (some ⟨g, 0, none⟩)]) .nilFunc).run Try.prog W = .ok (.bool false) W := fun W g => fnil _ _ _ _ W Try.underlying40
        obtain ⟨v2, hv2⟩ : ∃ v2, wk.alloc (.cells #[.pointer (some ⟨gm, 0, none⟩)] 26) = v2 := ⟨_, rfl⟩
        obtain ⟨gc, hgc⟩ : ∃ g, wk.heap.size = g := ⟨_, rfl⟩
        have HB2 : Hid (Below wk.heap.size wk v2) := by rw [← hv2]; exact (Below.refl _ _).alloc (Nat.le_refl _) _
        have HC2 : Hid (v2.heap[gc]? = some (.cells #[.pointer (some ⟨gm, 0, none⟩)] 26)) := by rw [← hv2, ← hgc]; exact heap_alloc_new _ _
        have HGC := hide hgc
        have HA2 := hide (HA.out.below HB2.out)
        have HM2 := hide (HM.out.below HB2.out)
        have HSZ : Hid (w6.heap.size ≤ v2.heap.size ∧ w6.heap.size ≤ gc) := by have h1 := HA.out.tn.size; have h2 := HB2.out.size; have h3 := HGC.out; exact ⟨by omega, by omega⟩
        have HIT := hide (iter_live gc gm g2 n (fun j => gs.getD j 0) (plays ss) L x A p (by rw [HK.out]; exact HPK.out) HRU.out HLP.out)
        rw [HK.out] at HIT
        go_wp2_with (go_at_call 8; refine (HER.out _ _).mono ?_; rintro e w9 ⟨rfl, e9⟩; rw [hv2] at e9; obtain rfl := e9.symm)
        clear hv2 hgc hfn
        refine wp_range_live_b (gf := 15) (lb := #[.pointer (some ⟨gc, 0, none⟩)]) (N := K - p) (E := fun k => #[(L.getD (p + k) th0).val]) ?hg2 ?eg2 HIT.out (fun k W W' h => h.2.1) (fun W W' h => h.2.1) (fun _ _ => rfl)
          36 (fun k => #[.int .i64 (L.getD (p + k) th0).key, .int .i64 (L.getD (p + k) th0).name])
          (fun k gx t => (t.setIfInBounds 142 (L.getD (p + k) th0).val).setIfInBounds 20 (.pointer (some ⟨gx, 0, none⟩)))
          (fun k W => LE w6 v2 W gm g2 n gn (fun j => gs.getD j 0) (plays ss) L p k (p + k)) (fun k W => LE w6 v2 W gm g2 n gn (fun j => gs.getD j 0) (plays ss) L p k (p + k + 1)) (fun _ _ _ => False) (fun W => LF v2 W gm g2 n gn (fun j => gs.getD j 0) x A K)
          ?lI3 ?lI4 ?lX3 ?lE3 ?sI3 ?sE3 ?rG3 ?i03 ?iB3 ?assign3 ?body3 ?done3 ?stop3
        case hg2 => rfl
        case eg2 => exact Rg.enter_fn Try.func15 (by kernel_rfl) rfl
        case lI3 => exact fun k W j o o' h hj hjo ho => h.put HFX.out HSZ.out.1 o' hj
        case lI4 => exact fun k W j o o' h hj hjo ho => h.put HFX.out HSZ.out.1 o' hj
        case lX3 => exact fun c k W j o o' h _ _ _ => h
        case lE3 => exact fun W j o o' h hj hjo ho => h.put (Nat.lt_of_lt_of_le (HFX.out.all gm (.inl rfl)).1 HSZ.out.1) (fun j hj => Nat.lt_of_lt_of_le (HFX.out.all _ (.inr (.inr ⟨j, hj, rfl⟩))).1 HSZ.out.1) (Nat.lt_of_lt_of_le HFX.out.lt HSZ.out.1) o' hj
        case sI3 => exact fun k W W' hk h hs => h.next HFX.out hs.1 hs.2.2
        case sE3 => exact fun W W' h hs => h.last HFX.out (by have := HPK.out; omega) hs.1 hs.2.2
        case rG3 => exact fun k W hk h => ⟨h.al.at_, (h.tn.block gc (lt_row HC2.out) (fun e => by
          rcases e with e | e
          · have := (HFX.out.all gc e).1; have := HSZ.out.2; omega
          · have := HFX.out.lt; have := HSZ.out.2; omega)).trans HC2.out⟩
        case i03 => exact fun W hb => LE.below ⟨HA2.out, Tn.refl _ _⟩ hb
        case iB3 => exact fun k W W' h hb => h.below hb
        case assign3 =>
          intro l k W K2 hk hK2
          unfold Th.val
          gi_wp2
          exact hK2 _ _ ((Below.refl _ _).alloc (Nat.le_refl _) _) (heap_alloc_new _ _)
        case body3 =>
          rintro l k gx W hl hk ⟨rr, hr⟩ hI hx
          have HI := hide hI
          have hpk : p + k < K := by omega
          have HXX := hide hx
          have HTW := hide (HTO.out W hI.al.tn)
          have HMM : Hid (p + (k + 1) = p + k + 1) := rfl
          clear hI hx hr
          obtain ⟨tk, htk⟩ : ∃ t, (L.getD (p + k) th0).key = t := ⟨_, rfl⟩
          obtain ⟨tn, htn⟩ : ∃ t, (L.getD (p + k) th0).name = t := ⟨_, rfl⟩
          obtain ⟨gL, hgL⟩ : ∃ g, aL = some ⟨g, 0, none⟩ := by
            rcases HTW.out.1.shape with ⟨h1, _⟩ | ⟨g, c9, h1, _⟩
            · have h2 := HK.out; rw [h1] at h2; simp at h2; omega
            · simp only [Value.slice.injEq] at h1; exact ⟨g, h1.1⟩
          subst hgL
          obtain ⟨l0, l1⟩ := HTW.out.1.cells (p + k) (by rw [HK.out]; exact hpk)
          have z0 : W.cell? ⟨gx, 0, none⟩ = some (.int .i64 tk) := by rw [cell_of_row _ _ _ _ _ _ HXX.out, ← htk]; rfl
          have z1 : W.cell? ⟨gx, 1, none⟩ = some (.int .i64 tn) := by rw [cell_of_row _ _ _ _ _ _ HXX.out, ← htn]; rfl
          have y0 : W.cell? ⟨gb, 0, none⟩ = some (.slice (some ⟨gL, 0, none⟩) K cL) := by rw [cell_of_row _ _ _ _ _ _ HTW.out.2.1]; rfl
          have n0 := HI.out.al.cell
          unfold Th.val
          rw [htk] at l0 ⊢
          rw [htn] at l1 ⊢
          rw [HMM.out]
          clear htk htn
          have HCT := hide (fun V (hV : LE w6 v2 V gm g2 n gn (fun j => gs.getD j 0) (plays ss) L p k (p + k + 1)) => hV.count HFX.out)
          obtain ⟨m, hm⟩ : ∃ m, p + k = m := ⟨_, rfl⟩
          rw [hm] at hpk l0 l1 n0 HCT HI HMM ⊢
          have HM0 := hide hm
          have hmi : ¬ (K : Int) ≤ (m : Int) := by omega
          have hmd : decide ((K : Int) ≤ (m : Int)) = false := by simp; omega
          have hmn : decide (K ≤ m) = false := by simp; omega
          have hml : (m : Int) < (K : Int) := by omega
          clear hm
          gi_wp2
          refine region_quiet (by kernel_rfl) (by kernel_rfl) (by kernel_rfl) ?_
          repeat (gi_big_quiet_step (fail))
          refine wpQuietIn_nil ?_
          rintro _ ⟨nq, rfl⟩
          obtain ⟨Wq, hWq⟩ : ∃ Wq, W.drewN nq = Wq := ⟨_, rfl⟩
          rw [hWq]
          have HBQ : Hid (Below W.heap.size W Wq) := by rw [← hWq]; exact below_drewN' _ _ _
          have HIQ := hide (HI.out.below HBQ.out)
          clear hWq l0 l1 z0 z1 y0 n0
          have n1 := HIQ.out.al.cell
          rw [HM0.out] at n1
          have n2 := HIQ.out.al.frozen
          have HCQ := hide (HCT.out Wq HIQ.out)
          have HKF := hide (((keeps_below _ _ HBQ.out).from v2.heap.size).trans (HCQ.out.2 _))
          gi_wp2
          exact ⟨HKF.out, HCQ.out.1⟩
        case done3 =>
          intro D V hD hF hDV
          have HF := hide hF
          have HMV := hide (tn_marks2 HM2.out hF.tn HA2.out.at_ HA2.out.num)
          have HMD := hide (Marks.more HM2.out HSZ.out.1 hD hDV HMV.out)
          have HTV := hide (HTO.out V (HA2.out.tn.trans hF.tn))
          have HEV := hide (fun W hW => err_over gm x W (hF.en.1.below hW))
          have HSV : Hid (w6.heap.size ≤ V.heap.size) := Nat.le_trans HSZ.out.1 hF.tn.size
          have c1 : V.cell? ⟨gn, 0, none⟩ = some (.int .i64 (K : Int)) := by rw [cell_of_row _ _ _ _ _ _ hF.num]; rfl
          have y0 : V.cell? ⟨gb, 0, none⟩ = some (.slice aL K cL) := by rw [cell_of_row _ _ _ _ _ _ HTV.out.2.1]; rfl
          have y1 : V.cell? ⟨gb, 1, none⟩ = some (.int .i64 x) := by rw [cell_of_row _ _ _ _ _ _ HTV.out.2.1]; rfl
          have r1 : V.cell? ⟨gr, 0, none⟩ = some (.bool false) := by rw [cell_of_row _ _ _ _ _ _ HTV.out.2.2]; rfl
          have r2 : V.frozen? ⟨gr, 0, none⟩ = false := frozen_of_row _ _ _ _ _ HTV.out.2.2
          have hKK : ((K : Int) == (K : Int)) = true := by simp
          have hxx : (x == x) = true := by simp
          have HG1 : Hid (gn ≠ gr) := fun e => by
            have h1 := hF.num
            rw [e, HTV.out.2.2] at h1
            cases h1
          have HG2 : Hid (gb ≠ gr) := fun e => by
            have h1 := HTV.out.2.1
            rw [e, HTV.out.2.2] at h1
            cases h1
          have hTT := HA2.out.tn.trans hF.tn
          have HBW : Hid (Below w.heap.size w V) := ⟨hTT.os.trans HB06.out.os, hTT.tape.trans HB06.out.tape, hTT.output.trans HB06.out.output, Nat.le_trans HB06.out.size hTT.size, fun b hb => HKW.out V b hb hTT⟩
          clear hTT
          have HGV := hide (grown_cell (World.grownBy.refl V (some gr)) 0 (.bool true))
          have hn2 := (HGV.out.block gn (lt_row hF.num) (fun e => HG1.out (Option.some.inj e))).trans hF.num
          have hb2 := (HGV.out.block gb (lt_row HTV.out.2.1) (fun e => HG2.out (Option.some.inj e))).trans HTV.out.2.1
          have E12 : Hid ((V.setCell ⟨gr, 0, none⟩ (.bool true)).cell? ⟨gn, 0, none⟩ = some (.int .i64 (K : Int)) ∧ (V.setCell ⟨gr, 0, none⟩ (.bool true)).cell? ⟨gb, 0, none⟩ = some (.slice aL K cL) ∧ (V.setCell ⟨gr, 0, none⟩ (.bool true)).cell? ⟨gb, 1, none⟩ = some (.int .i64 x)) := ⟨by rw [cell_of_row _ _ _ _ _ _ hn2]; rfl, by rw [cell_of_row _ _ _ _ _ _ hb2]; rfl, by rw [cell_of_row _ _ _ _ _ _ hb2]; rfl⟩
          clear hF hDV hn2 hb2
          go_upto_region 42 with (fail)
          refine only_normal ?_
          go_region_held (fun U => U.cell? ⟨gn, 0, none⟩ = some (.int .i64 (K : Int)) ∧ U.cell? ⟨gb, 0, none⟩ = some (.slice aL K cL) ∧ U.cell? ⟨gb, 1, none⟩ = some (.int .i64 x)) (first | exact E12.out | go_keep) (first | (go_at_call 9; refine (HEV.out _ (by first | exact Below.refl _ _ | exact (Below.refl _ _).drew | exact below_drewN' _ _ _)).mono ?_; rintro e w9 ⟨rfl, hq⟩; obtain rfl := hq.symm))
          all_goals
            simp only [onlyNormal]
            go_wp2_with fail
            exact leave_true2 (W := V.drew) rfl rfl HTV.out.2.2 HGRW.out.1 HGRW.out.2 HSV.out HBW.out.drew (HMD.out.below (Below.refl _ _).drew)
        case stop3 => exact fun D c' k W _ _ h _ => h.elim
  · have hni : (64 : Int) < (n : Int) := by omega
    have HMB : Hid (Calls Try.prog 5 #[.slice al n cl] w2 fun e w' => e = .returned (.tuple #[.pointer none, .int .i64 3]) ∧ Below w2.heap.size w2 w') := hide (HMA.out.mono fun e w' ⟨h1, h2⟩ => by
      rcases h2 with ⟨_, h⟩ | ⟨h, _⟩
      · exact ⟨h, h1⟩
      · omega)
    go_upto_region 4 with (go_at_call 5; refine HMB.out.mono ?_; rintro e w3 ⟨rfl, hb3⟩; have HB3 := hide hb3; clear hb3)
    have HR3 := hide ((below_trans HB2.out HB3.out).block gr (Array.getElem?_eq_some_iff.1 HR1.out).1 |>.trans HR1.out)
    have r1 : w3.cell? ⟨gr, 0, none⟩ = some (.bool false) := by rw [cell_of_row _ _ _ _ _ _ HR3.out]; rfl
    have r2 : w3.frozen? ⟨gr, 0, none⟩ = false := frozen_of_row _ _ _ _ _ HR3.out
    go_wp2_with fail
    refine leaves_cell0 (gc := gr) (v := .bool true) ?_ (load_bool rfl gr true rfl) ⟨rfl, ?_⟩
    · rw [cell_of_row _ _ _ _ _ _ (heap_setCell_same _ _ _ _ _ _ HR3.out)]; rfl
    · exact (below_trans HB1.out (below_trans HB2.out HB3.out)).setCell (by show w.heap.size ≤ gr; rw [HGR.out]; exact Nat.le_refl _) _
end Go.Proofs.Ytcnfkgmefikcjaa.Me
