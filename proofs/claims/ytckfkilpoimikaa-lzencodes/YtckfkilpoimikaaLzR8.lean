/-
  The document's own answer: a text's own tokens.
-/
import Derived.Test.YtckfkilpoimikaaLzR7
import Derived.Deep.LoopGhost
namespace Go.Proofs.Ytckfkilpoimikaa.Lz
open Go.ChangeShapes Go.WideShapes Go.ChangeAt Go.RowKit
open Go.Proofs.Ytckfkilpoimikaa.Base Go.Proofs.Ytckfkilpoimikaa.Nums
set_option linter.unusedVariables false
theorem kp_facts {w : World} {g1 g2 : Nat} {x : Txt} {len c : Nat} (h : Kp w g1 g2 x len c) (hc : c ≤ len) : ∃ s pv v : Nat, Hid (refSlot x c = s) ∧ (s : Int) ≤ 4095 ∧ w.cell? ⟨g1, s, none⟩ = some (.int .i64 (pv : Int)) ∧ w.cell? ⟨g2, c, none⟩ = some (.int .i64 (v : Int)) ∧ w.frozen? ⟨g1, s, none⟩ = false ∧ w.frozen? ⟨g2, c, none⟩ = false ∧
    Hid (∀ u : Int, u = (c : Int) + 1 → Kp ((w.setCell ⟨g2, c, none⟩ (.int .i64 (pv : Int))).setCell ⟨g1, s, none⟩ (.int .i64 u)) g1 g2 x len (c + 1)) := by
  obtain ⟨v, hv, _⟩ := h.ahead c hc
  have hs := refSlot_lt x c
  refine ⟨refSlot x c, prev (refSlot x) (refSlot x c) c, v, rfl, by omega, h.last _ hs, hv, h.fr1 _, h.fr2 _, fun u hu => ?_⟩
  have := h.add hc
  subst hu
  exact this
theorem refSlot_named (b off len cap i s : Nat) (x : Txt) (w : World) (hr : Rd w (some ⟨b, off, none⟩) len x) (hcap : len ≤ cap) (hm : cap ≤ 9223372036854775807) (hi : i + 4 ≤ len) (hs : refSlot x i = s) :
    Calls Try.prog 43 #[.slice (some ⟨b, off, none⟩) len cap, .int .i64 (i : Int)] w fun e w' => e = .returned (.int .i64 (s : Int)) ∧ Below w.heap.size w w' := by
  have h := refSlot_any b off len cap i x w hr hcap hm hi
  rw [hs] at h
  exact h
/-- 'b[p:e]'. -/
theorem slice_lh (b off len cap p c e r : Nat) (he : p + c = e) (h : e ≤ cap) (hr : p + r = cap) (h0 : 0 < r) : ∀ W, (Instr.sliceAt 23 (.slice (some ⟨b, off, none⟩) len cap) (some (.int .i64 (p : Int))) (some (.int .i64 (e : Int))) none).run Try.prog W = .ok (.slice (some ⟨b, off + p, none⟩) c r) W := by
  intro W
  rw [run_sliceAt_slice (h := elem8), run_slice_lh (ht := elem8) (h0 := by omega) (h1 := by omega) (h2 := by omega), size8]
  simp only [Result.andThen, sliced, Int.toNat_natCast]
  rw [if_neg (by omega), show e - p = c by omega, show cap - p = r by omega]
  simp [Addr.add]
theorem best_at (x : Txt) (i : Nat) (h : i + 4 ≤ x.length) : best x i = search x i (min 259 (x.length - i)) i 0 (0, 0) := by unfold best; rw [if_neg (by omega)]
theorem grown_one {w : World} {g : Nat} (a : Nat) (u : Value) : w.grownBy (w.setCell ⟨g, a, none⟩ u) (some g) := grown_cell (World.grownBy.refl _ _) a u
set_option maxHeartbeats 2000000 in
set_option maxRecDepth 100000 in
theorem refOwn_any (a : Option Addr) (len cap : Nat) (x : Txt) (w : World) (hr : Rd w a len x) (hcap : len ≤ cap) (hm : cap ≤ 9223372036854775807) (hl : len ≤ 65536) (hz : a = none → len = 0 ∧ cap = 0) :
    Calls Try.prog 35 #[.slice a len cap] w fun e w' => ∃ v ps, e = .returned v ∧ RToks w' w.heap.size v ps ∧ ps.map (·.2) = ownFrom x 0 0 ∧ Below w.heap.size w w' := by
  have HR := hide hr
  have HL := hide hr.1
  clear hr
  obtain ⟨iT, hiT, hT0, hT1, hT2⟩ := info_parts infoT
  obtain ⟨M, hM, HM⟩ := make_ints 4096 (by omega)
  obtain ⟨N, hN, HN⟩ := make_ints (len + 1) (by omega)
  have hM2 : ∀ W, (Instr.makeSlice 67 (.int .i64 4096) (.int .i64 4096)).run Try.prog W = .ok (.slice (some ⟨W.heap.size, 0, none⟩) 4096 4096) (W.alloc (.cells M 3)) := fun W => hM W
  have hN2 : ∀ W, (Instr.makeSlice 67 (.int .i64 ((len : Int) + 1)) (.int .i64 ((len : Int) + 1))).run Try.prog W = .ok (.slice (some ⟨W.heap.size, 0, none⟩) (len + 1) (len + 1)) (W.alloc (.cells N 3)) := fun W => hN W
  have hli : (len : Int) ≤ 65536 := by omega
  clear hM hN
  have HK0 := hide (kp_new w M N x len HM.out HN.out)
  have HB0 : Hid (Below w.heap.size w ((w.alloc (.cells M 3)).alloc (.cells N 3))) := by
    have h1 : Below w.heap.size w (w.alloc (.cells M 3)) := (Below.refl _ _).alloc (Nat.le_refl _) _
    exact h1.alloc h1.size _
  have hsz : (w.alloc (.cells M 3)).heap.size = w.heap.size + 1 := by simp
  have hS0 : w.heap.size + 2 ≤ ((w.alloc (.cells M 3)).alloc (.cells N 3)).heap.size := by simp
  go_enter Try.func35, Try.ntmps35
  go_wp2_with fail
  clear hM2 hN2 HM HN hsz
  generalize (w.alloc (.cells M 3)).alloc (.cells N 3) = w0 at HK0 HB0 hS0 ⊢
  obtain ⟨g1, hg1⟩ : ∃ g1, w.heap.size = g1 := ⟨_, rfl⟩
  have HG1 := hide hg1
  have hg2 : ∃ g2, g1 + 1 = g2 := ⟨_, rfl⟩
  obtain ⟨g2, hg2⟩ := hg2
  rw [hg1] at HK0 hS0
  rw [hg2] at HK0
  rw [hg1]
  rw [hg2]
  have hb1 : g1 < g1 + 2 := by omega
  have hb2 : g2 < g1 + 2 := by omega
  rw [hg1] at HB0
  have hne : g1 ≠ g2 := by omega
  have hg12 : g1 ≤ g2 := by omega
  have hne2 : g2 ≠ g1 := by omega
  obtain ⟨bs, hbs⟩ : ∃ bs, g1 + 2 = bs := ⟨_, rfl⟩
  rw [hbs] at hb1 hb2 hS0
  have hg1b : g1 ≤ bs := by omega
  have HBS := hide hbs
  have HTR : Hid (∀ u v : World, Below g1 w u → bs ≤ u.heap.size → Below u.heap.size u v → Below g1 w v) := fun u v h1 h2 h3 => h1.trans (h3.mono (by omega))
  have HG2 := hide hg2
  clear hg1 hg2 hbs
  go_loopg [3, 6, 7, 8] len (fun gq s3 s6 s7 s8 wr => ∃ (i frm dn : Nat) (va : Option Addr) (vn vc : Nat) (ps : List (Value × Tok)), len - i ≤ gq ∧ i ≤ len ∧ frm ≤ i ∧ dn ≤ i ∧ ps.length ≤ i ∧ s8 = .int .i64 (i : Int) ∧ s6 = .int .i64 (frm : Int) ∧ s7 = .int .i64 (dn : Int) ∧ s3 = .slice va vn vc ∧ Hid (RToks wr bs (.slice va vn vc) ps) ∧ Hid (ps.map (·.2) ++ ownFrom x i frm = ownFrom x 0 0) ∧ Hid (Kp wr g1 g2 x len dn) ∧ Hid (Below g1 w wr) ∧ Hid (bs ≤ wr.heap.size))
  case atStart => exact ⟨0, 0, 0, _, _, _, [], by omega, Nat.zero_le _, Nat.le_refl _, Nat.le_refl _, Nat.le_refl _, rfl, rfl, rfl, rfl, rtoks_none _ _, rfl, HK0, HB0, hS0⟩
  case round =>
    clear HK0 HB0 hS0
    obtain ⟨i, frm, dn, va, vn, vc, ps, hig, hil, hfi, hdi, hpl, rfl, rfl, rfl, rfl, HT, HE, HK, HB, HS⟩ := hrel
    have hii : (i : Int) ≤ 65536 := by omega
    have hfii : (frm : Int) ≤ (i : Int) := by omega
    by_cases hi4 : i + 4 ≤ len
    · have hi4i : (i : Int) + 4 ≤ (len : Int) := by omega
      obtain ⟨b, off, rfl, hblt, _⟩ := HR.out.2.2 (by omega)
      rw [HG1.out] at hblt
      clear hz
      obtain ⟨gq, rfl⟩ : ∃ gq, gk = gq + 1 := ⟨gk - 1, by omega⟩
      go_wp2_with fail
      go_loopg [7] (i - dn) (fun g2' s7 wy => ∃ k : Nat, k + g2' = i ∧ s7 = .int .i64 (k : Int) ∧ Hid (RToks wy bs (.slice va vn vc) ps) ∧ Hid (Kp wy g1 g2 x len k) ∧ Hid (Below g1 w wy) ∧ Hid (bs ≤ wy.heap.size))
      case atStart => exact ⟨dn, by omega, rfl, HT, HK, HB, HS⟩
      case round =>
        clear HT HK HB HS hdi
        obtain ⟨k, hkg, rfl, HT, HK, HB, HS⟩ := hrel
        have HR1 : Hid (Rd wr (some ⟨b, off, none⟩) len x) := HR.out.below (by rw [HG1.out]; exact HB.out)
        cases gk with
        | succ g2' =>
          have hki : (k : Int) < (i : Int) := by omega
          have hkl : (k : Int) < (len : Int) + 1 := by omega
          have hkl2 : k < len + 1 := by omega
          obtain ⟨s, hs⟩ : ∃ s, refSlot x k = s := ⟨_, rfl⟩
          have HSL := hide (refSlot_named b off len cap k s x wr HR1.out hcap hm (by omega) hs)
          have HSS := hide hs
          clear hs
          go_wp2_with fail
          refine HSL.out.mono ?_
          rintro e w1 ⟨rfl, hbw⟩
          have HB1 : Hid (Below g1 w w1) := HTR.out _ _ HB.out HS.out hbw
          have HT1 := hide (HT.out.below hbw)
          have HK1 := hide (HK.out.below hbw)
          have HS1 : Hid (bs ≤ w1.heap.size) := Nat.le_trans HS.out hbw.size
          obtain ⟨s', pv, v, hs', hsi, c1, c2, f1, f2, HA⟩ := kp_facts HK1.out (by omega)
          have hss : s' = s := by rw [← hs'.out, ← HSS.out]
          subst hss
          clear hs' hbw HSL HB HT HK HS HR1
          go_wp2_with fail
          go_roundg g2'
          case measure => omega
          case rel =>
            have hA := HA.out _ rfl
            refine ⟨k + 1, by omega, by first | rfl | go_num, ?_, hA, ?_, ?_⟩
            · exact (HT1.out.keep (grown_one _ _) (fun q e => by cases e; exact hb2)).keep (grown_one _ _) (fun q e => by cases e; exact hb1)
            · exact (HB1.out.grown (grown_one _ _) (by have := HS1.out; omega) (fun q e => by cases e; omega)).grown (grown_one _ _) (by have := HS1.out; simp [World.setCell]; omega) (fun q e => by cases e; exact Nat.le_refl _)
            · show bs ≤ _
              have := HS1.out
              simp [World.setCell]; omega
        | zero =>
          have hki : k = i := by omega
          subst hki
          obtain ⟨most, hmost⟩ : ∃ most, min 259 (len - k) = most := ⟨_, rfl⟩
          have HMO := hide hmost
          have hm4 : 4 ≤ most := by omega
          have hm5 : most ≤ 259 := by omega
          have hml : k + most ≤ len := by omega
          obtain ⟨s, hs⟩ : ∃ s, refSlot x k = s := ⟨_, rfl⟩
          have hs2 := refSlot_lt x k
          rw [hs] at hs2
          have HBS2 := hide (best_at x k (by have := HL.out; omega))
          rw [HL.out, hmost] at HBS2
          have HPV := hide (search_prev x k most (refSlot x) s (fun m _ h => (refSlot_same x m k h).trans hs))
          have HPS := hide (prev_slot (refSlot x) s)
          have HSL := hide (refSlot_named b off len cap k s x wr HR1.out hcap hm (by omega) hs)
          have HSS := hide hs
          have hpl0 := prev_le (refSlot x) s k
          have HP0 : Hid (best x k = search x k most (prev (refSlot x) s k) 0 (0, 0)) := by show _ = _; rw [HBS2.out]; exact HPV.out 0 (0, 0) k (Nat.le_refl _)
          have HPS0 : Hid (∀ j, prev (refSlot x) s k = j + 1 → refSlot x j = s ∧ j < k) := HPS.out k
          have hsi : (s : Int) ≤ 4095 := by omega
          clear hmost hs HBS2
          go_wp2_with fail
          refine HSL.out.mono ?_
          rintro e w1 ⟨rfl, hbw⟩
          have HB1 : Hid (Below g1 w w1) := HTR.out _ _ HB.out HS.out hbw
          have HT1 := hide (HT.out.below hbw)
          have HK1 := hide (HK.out.below hbw)
          have HS1 : Hid (bs ≤ w1.heap.size) := Nat.le_trans HS.out hbw.size
          have c1 := HK1.out.last s hs2
          generalize prev (refSlot x) s k = p0 at c1 hpl0 HP0 HPS0
          have hp0 : (p0 : Int) ≤ (k : Int) := by omega
          clear hbw HSL HB HT HK HS HR1
          go_wp2_with fail
          clear c1
          go_loopg [10, 11, 12, 13] p0 (fun gq' s10 s11 s12 s13 wy => ∃ (D L K p : Nat) (z : Int), p ≤ gq' ∧ p ≤ k ∧ K ≤ 16 ∧ L ≤ most ∧ z = (p : Int) - 1 ∧ s10 = .int .i64 (L : Int) ∧ s11 = .int .i64 (D : Int) ∧ s12 = .int .i64 (K : Int) ∧ s13 = .int .i64 z ∧ Hid (best x k = search x k most p K (D, L)) ∧ Hid (∀ j, p = j + 1 → refSlot x j = s ∧ j < k) ∧ Hid (RToks wy bs (.slice va vn vc) ps) ∧ Hid (Kp wy g1 g2 x len k) ∧ Hid (Below g1 w wy) ∧ Hid (bs ≤ wy.heap.size))
          case atStart => exact ⟨0, 0, 0, p0, _, Nat.le_refl _, hpl0, by omega, by omega, rfl, rfl, rfl, rfl, rfl, HP0, HPS0, HT1, HK1, HB1, HS1⟩
          case round =>
            clear HP0 HPS0 hp0 hpl0 HT1 HK1 HB1 HS1
            obtain ⟨D, L, K, p, z, hpg, hpk, hK, hL, hzp, rfl, rfl, rfl, rfl, HB0, HJ, HT, HK', HB, HS⟩ := hrel
            have HR1 : Hid (Rd wr (some ⟨b, off, none⟩) len x) := HR.out.below (by rw [HG1.out]; exact HB.out)
            have hKi : (K : Int) ≤ 16 := by omega
            have hLi : (L : Int) ≤ 259 := by omega
            by_cases hgo : 0 ≤ z ∧ (k : Int) - z ≤ 32768 ∧ (K : Int) < 16
            · obtain ⟨hz0, hwin, hK16⟩ := hgo
              obtain ⟨j, rfl⟩ := Int.eq_ofNat_of_zero_le hz0
              have hj : p = j + 1 := by omega
              obtain ⟨hjs, hjk⟩ := HJ.out j hj
              have HJP := hide hj
              obtain ⟨gq', rfl⟩ : ∃ gq', gk = gq' + 1 := ⟨gk - 1, by omega⟩
              have hjg : j ≤ gq' := by omega
              have HAL := hide (refAlike_any b off len cap k j x wr HR1.out hcap hm hjk (by omega))
              obtain ⟨sm, hsm⟩ : ∃ sm, same4 x j k = sm := ⟨_, rfl⟩
              rw [hsm] at HAL
              have HSM := hide hsm
              have hjl : (j : Int) ≤ 65532 := by omega
              clear hj hzp hsm
              go_wp2_with fail
              refine HAL.out.mono ?_
              rintro e w2 ⟨rfl, hbw⟩
              have HB2 : Hid (Below g1 w w2) := HTR.out _ _ HB.out HS.out hbw
              have HT2 := hide (HT.out.below hbw)
              have HK2 := hide (HK'.out.below hbw)
              have HS2 : Hid (bs ≤ w2.heap.size) := Nat.le_trans HS.out hbw.size
              have HR2 := hide (HR1.out.below hbw)
              clear hbw HAL HB HT HK' HS HR1
              cases sm with
              | false =>
                obtain ⟨pv, c2, hpv⟩ := HK2.out.ahead j (by omega)
                have hpv2 := hpv hjk
                rw [hjs] at hpv2
                have hpvj : pv ≤ j := by rw [hpv2]; exact prev_le _ _ _
                have HPV2 := hide hpv2
                have hpvi : (pv : Int) ≤ (j : Int) := by omega
                have hjl1 : j < len + 1 := by omega
                have hjl2 : (j : Int) < (len : Int) + 1 := by omega
                have HN : Hid (best x k = search x k most pv K (D, L)) := by
                  show _ = _
                  rw [HB0.out, HJP.out, HPV2.out, ← HPV.out K (D, L) j (by omega)]
                  simp only [search]
                  rw [if_neg (by omega), HSM.out]
                  rfl
                have HJ2 : Hid (∀ j, pv = j + 1 → refSlot x j = s ∧ j < k) := fun j' h => by
                  have := HPS.out j j' (by rw [← HPV2.out]; exact h)
                  exact ⟨this.1, by omega⟩
                clear hpv hpv2 HB0 HJ
                go_wp2_with fail
                go_roundg gq'
                case measure => omega
                case rel => exact ⟨D, L, K, pv, _, by omega, by omega, hK, hL, rfl, rfl, rfl, rfl, rfl, HN, HJ2, HT2, HK2, HB2, HS2⟩
              | true =>
                obtain ⟨pv, _, hpv⟩ := HK2.out.ahead j (by omega)
                have hpv2 := hpv hjk
                rw [hjs] at hpv2
                have hpvj : pv ≤ j := by rw [hpv2]; exact prev_le _ _ _
                have HPV2 := hide hpv2
                have hpvi : (pv : Int) ≤ (j : Int) := by omega
                have hjl1 : j < len + 1 := by omega
                have hjl2 : (j : Int) < (len : Int) + 1 := by omega
                have HC2 : Hid (∀ W, Kp W g1 g2 x len k → W.cell? ⟨g2, j, none⟩ = some (.int .i64 (pv : Int))) := by
                  intro W hW
                  obtain ⟨pv', c2, hpv'⟩ := hW.ahead j (by omega)
                  have h := hpv' hjk
                  rw [hjs, ← HPV2.out] at h
                  rw [c2, h]
                have HN : Hid (best x k = search x k most pv (K + 1) (better x k most j (D, L))) := by
                  show _ = _
                  rw [HB0.out, HJP.out, HPV2.out, ← HPV.out (K + 1) _ j (by omega)]
                  simp only [search]
                  rw [if_neg (by omega), HSM.out]
                  rfl
                have HJ2 : Hid (∀ j, pv = j + 1 → refSlot x j = s ∧ j < k) := fun j' h => by
                  have := HPS.out j j' (by rw [← HPV2.out]; exact h)
                  exact ⟨this.1, by omega⟩
                have HSA := hide (refSame_any b off len cap k j most x w2 HR2.out hcap hm hjk (by omega) HMO.out.symm)
                rw [run04 x j k most hm4 HSM.out] at HSA
                have hrle := (runFrom_le x j k most (most - 4) 4 (Nat.le_refl _) (by omega)).2.1
                have HBT : Hid (better x k most j (D, L) = if L < runFrom x j k most 4 ∧ pays (k - j) (runFrom x j k most 4) = true then (k - j, runFrom x j k most 4) else (D, L)) := rfl
                generalize runFrom x j k most 4 = run at HSA hrle HBT
                obtain ⟨dj, hdj⟩ : ∃ dj : Nat, k - j = dj := ⟨_, rfl⟩
                have hdji : (k : Int) - (j : Int) = (dj : Int) := by omega
                rw [hdj] at HBT
                have hdj1 : 1 ≤ dj := by omega
                have hdj2 : (dj : Int) ≤ 65536 := by omega
                have hruni : (run : Int) ≤ 259 := by omega
                clear hpv hpv2 hdj HB0 HJ
                go_wp2_with fail
                refine HSA.out.mono ?_
                rintro e w3 ⟨rfl, hbw⟩
                have HB3 : Hid (Below g1 w w3) := HTR.out _ _ HB2.out HS2.out hbw
                have HT3 := hide (HT2.out.below hbw)
                have HK3 := hide (HK2.out.below hbw)
                have HS3 : Hid (bs ≤ w3.heap.size) := Nat.le_trans HS2.out hbw.size
                clear hbw HSA HB2 HT2 HK2 HS2 HR2
                by_cases hLr : L < run
                · have hLri : (L : Int) < (run : Int) := by omega
                  have HPT := hide (refPut_any (dj : Int) w3 (WalkArith.wf_i64 (by omega)))
                  rw [putI_nat] at HPT
                  have hq9 := (put_nine dj (by omega)).2
                  have HPA : Hid (pays dj run = decide (3 + (put dj).length ≤ run)) := rfl
                  generalize put dj = PB at HPT HPA hq9
                  go_wp2_with fail
                  refine HPT.out.mono ?_
                  rintro e w4 ⟨v4, rfl, ho4, hbw⟩
                  obtain ⟨v4a, v4n, v4c, rfl, hv4⟩ := own_named ho4
                  have hv4' : v4n = PB.length := hv4
                  have HB4 : Hid (Below g1 w w4) := HTR.out _ _ HB3.out HS3.out hbw
                  have HT4 := hide (HT3.out.below hbw)
                  have HK4 := hide (HK3.out.below hbw)
                  have HS4 : Hid (bs ≤ w4.heap.size) := Nat.le_trans HS3.out hbw.size
                  rw [← hv4'] at HPA hq9
                  have hq9i : (v4n : Int) ≤ 9 := by omega
                  have c4 := HC2.out w4 HK4.out
                  clear hbw HPT HB3 HT3 HK3 HS3 ho4 hv4 hv4'
                  by_cases hpy : 3 + v4n ≤ run
                  · have hpyi : (3 : Int) + (v4n : Int) ≤ (run : Int) := by omega
                    have HN2 : Hid (best x k = search x k most pv (K + 1) (dj, run)) := by
                      have h := HN.out
                      rw [HBT.out, if_pos ⟨hLr, by rw [HPA.out]; exact decide_eq_true hpy⟩] at h
                      exact h
                    go_wp2_with fail
                    go_roundg gq'
                    case measure => omega
                    case rel => exact ⟨dj, run, K + 1, pv, _, by omega, by omega, by omega, hrle, rfl, by first | rfl | go_num, by first | rfl | go_num, by first | rfl | go_num, rfl, HN2, HJ2, HT4, HK4, HB4, HS4⟩
                  · have hpyi : ¬ (3 : Int) + (v4n : Int) ≤ (run : Int) := by omega
                    have HN2 : Hid (best x k = search x k most pv (K + 1) (D, L)) := by
                      have h := HN.out
                      rw [HBT.out, if_neg (fun h => hpy (by have h2 := h.2; rw [HPA.out] at h2; exact of_decide_eq_true h2))] at h
                      exact h
                    go_wp2_with fail
                    go_roundg gq'
                    case measure => omega
                    case rel => exact ⟨D, L, K + 1, pv, _, by omega, by omega, by omega, hL, rfl, rfl, rfl, by first | rfl | go_num, rfl, HN2, HJ2, HT4, HK4, HB4, HS4⟩
                · have hLri : ¬ (L : Int) < (run : Int) := by omega
                  have HN2 : Hid (best x k = search x k most pv (K + 1) (D, L)) := by
                    have h := HN.out
                    rw [HBT.out, if_neg (fun h => hLr h.1)] at h
                    exact h
                  have c4 := HC2.out w3 HK3.out
                  go_wp2_with fail
                  go_roundg gq'
                  case measure => omega
                  case rel => exact ⟨D, L, K + 1, pv, _, by omega, by omega, by omega, hL, rfl, rfl, rfl, by first | rfl | go_num, rfl, HN2, HJ2, HT3, HK3, HB3, HS3⟩
            · have HE0 : Hid (best x k = (D, L)) := by
                show _ = _
                rw [HB0.out]
                by_cases hp : p = 0
                · subst hp; rfl
                · apply search_stop
                  by_cases hK2 : K = 16
                  · exact .inl hK2
                  · right; omega
              have h3 : z = -1 ∨ (0 ≤ z ∧ ¬ (k : Int) - z ≤ 32768) ∨ (0 ≤ z ∧ (k : Int) - z ≤ 32768 ∧ ¬ (K : Int) < 16) := by omega
              have hzle : z ≤ 65536 := by omega
              clear hgo HB0 HJ HPV HPS
              have HXL : Hid (k < x.length) := by show _ < _; have := HL.out; omega
              by_cases hL0 : L = 0
              · have hLe : ((L : Int) == 0) = true := by rw [beq_iff_eq]; omega
                have HE2 : Hid (ps.map (·.2) ++ ownFrom x (k + 1) frm = ownFrom x 0 0) := by
                  show _ = _
                  rw [← own_skip x k frm HXL.out (by rw [HE0.out]; simp; omega)]; exact HE.out
                clear hL0
                rcases h3 with rfl | ⟨hA, hB⟩ | ⟨hA, hB, hC⟩
                all_goals
                  go_wp2_with fail
                  go_roundg gq
                  case measure => omega
                  case rel => exact ⟨k + 1, frm, k, va, vn, vc, ps, by omega, by omega, by omega, by omega, by omega, by first | rfl | go_num, rfl, rfl, rfl, HT, HE2, HK', HB, HS⟩
              · have hLe : ((L : Int) == 0) = false := by rw [beq_eq_false_iff_ne]; omega
                have HF := hide (best_fits x k)
                rw [HE0.out] at HF
                obtain ⟨f4, f6⟩ : 4 ≤ L ∧ k + L ≤ len := by
                  rcases HF.out with h | h
                  · simp at h; omega
                  · have := HL.out; simp only at h; omega
                obtain ⟨lit, hlit⟩ : ∃ lit, (x.drop frm).take (k - frm) = lit := ⟨_, rfl⟩
                have HE2 : Hid ((ps.map (·.2) ++ [⟨lit, (D : Int), (L : Int)⟩]) ++ ownFrom x (k + L) (k + L) = ownFrom x 0 0) := by
                  have h := HE.out
                  rw [own_match x k frm HXL.out (by rw [HE0.out]; simp only; omega), HE0.out, hlit] at h
                  show _ = _
                  rw [List.append_assoc]
                  exact h
                have HO0 : Hid (Own (wr.alloc (.cells #[] 5)) bs (.slice (some ⟨wr.heap.size, 0, none⟩) 0 0) []) := own_empty wr bs HS.out
                have HLA0 : Hid (Rd (wr.alloc (.cells #[] 5)) (some ⟨b, off + frm, none⟩) (k - frm) lit) := by
                  have h := rd_sub (HR1.out.below ((Below.refl _ _).alloc (Nat.le_refl _) (.cells #[] 5))) (p := frm) (c := k - frm) (la := ⟨b, off + frm, none⟩) (by omega) (fun _ => rfl)
                  rw [hlit] at h
                  exact h
                have hSo := HS.out
                obtain ⟨m, hm0⟩ : ∃ m, k - frm = m := ⟨_, rfl⟩
                obtain ⟨mc, hmc⟩ : ∃ mc, cap - frm = mc := ⟨_, rfl⟩
                have hsl := slice_lh b off len cap frm m k mc (by omega) (by omega) (by omega) (by omega)
                rw [hm0] at HLA0
                have hmle : m ≤ 65536 := by omega
                clear hm0 hmc
                clear hL0 hlit HF HE
                rcases h3 with rfl | ⟨hA, hB⟩ | ⟨hA, hB, hC⟩
                all_goals
                  go_wp2_with (first
                  | (at_builtin; refine join2 _ rfl _ _ rfl bs (.slice (some ⟨wr.heap.size, 0, none⟩) 0 0) [] rfl HO0.out (some ⟨b, off + frm, none⟩) m mc lit rfl HLA0.out (fun h => by cases h) (by simp; omega) (by simp; omega) ?_
                     intro v5 w5 ho5 hg5 _
                     obtain ⟨v5a, v5n, v5c, rfl, hv5⟩ := own_named ho5
                     rw [List.nil_append] at ho5
                     have HO5 := hide ho5
                     have HBW : Hid (Below wr.heap.size wr w5) := ((Below.refl _ _).alloc (Nat.le_refl _) _).grown hg5 (by simp) (fun q e => by cases e; exact Nat.le_refl _)
                     have HT5 := hide (HT.out.below HBW.out)
                     have hS5 : bs ≤ w5.heap.size := Nat.le_trans HS.out HBW.out.size
                     have HNEWS : Hid (∀ (j : Nat) (u : Value), [Value.slice v5a v5n v5c, .int .i64 (D : Int), .int .i64 (L : Int)][j]? = some u → (w5.alloc (.cells #[.slice v5a v5n v5c, .int .i64 (D : Int), .int .i64 (L : Int)] 32)).cell? ((⟨w5.heap.size, 0, none⟩ : Addr).add j) = some u) := by
                       have hT := TRow.new w5 (.slice v5a v5n v5c) (D : Int) (L : Int)
                       intro j u hu
                       rcases j with _ | _ | _ | j
                       · cases hu; exact hT.c0
                       · cases hu; exact hT.c1
                       · cases hu; exact hT.c2
                       · simp at hu
                     clear ho5 hg5 hv5)
                  | (at_builtin; refine wpList_append_own _ rfl _ _ 33 rfl bs 32 iT (.agg #[.slice none 0 0, .int .i64 0, .int .i64 0]) 3 40 Try.underlying33 hiT hT0 hT1 hT2 rfl (by omega) (.slice va vn vc) ps.length (cellsOf ps) rfl (HT5.out.below ((Below.refl _ _).alloc (Nat.le_refl _) _)).row ⟨w5.heap.size, 0, none⟩ 1 1 [.slice v5a v5n v5c, .int .i64 (D : Int), .int .i64 (L : Int)] rfl rfl ?_ ?_ (by unfold maxLen; omega) (by omega) (by simp; omega) ?_
                     · exact HNEWS.out
                     · intro u hu
                       simp only [List.mem_cons, List.not_mem_nil, or_false] at hu
                       rcases hu with rfl | rfl | rfl <;> rfl
                     intro v6 w6 hrow6 hgrow6 _
                     obtain ⟨g6, c6, rfl⟩ : ∃ g c, v6 = .slice (some ⟨g, 0, none⟩) (ps.length + 1) c := by
                       rcases hrow6.2 with ⟨_, h2⟩ | ⟨g, c, cur, h1, _⟩
                       · omega
                       · exact ⟨g, c, h1⟩
                     have HT6 : Hid (RToks w6 bs (.slice (some ⟨g6, 0, none⟩) (ps.length + 1) c6) (ps ++ [(.slice v5a v5n v5c, ⟨lit, (D : Int), (L : Int)⟩)])) :=
                       RToks.add (t := ⟨lit, (D : Int), (L : Int)⟩) (HT5.out.below ((Below.refl _ _).alloc (Nat.le_refl _) _)) hrow6 rfl hgrow6 (HO5.out.below ((Below.refl _ _).alloc (Nat.le_refl _) _))
                     have HG6 := hide hgrow6
                     clear hrow6 hgrow6))
                  go_roundg gq
                  case measure => omega
                  case rel =>
                    have hbw5 := HBW.out.alloc HBW.out.size (.cells #[.slice v5a v5n v5c, .int .i64 (D : Int), .int .i64 (L : Int)] 32)
                    have hblk : ∀ q, (Value.slice va vn vc).ownBlock = some q → bs ≤ q := fun q e => (World.ownsRow.lt HT.out.row q e).1
                    have hk6 := (HK'.out.below hbw5).grown HG6.out (fun e => by have := hblk _ e; omega) (fun e => by have := hblk _ e; omega)
                    have hb6 : Below g1 w w6 := (HTR.out _ _ HB.out HS.out hbw5).grown HG6.out (by have := hbw5.size; omega) (fun q e => by have := hblk q e; omega)
                    have hs6 : bs ≤ w6.heap.size := Nat.le_trans (Nat.le_trans HS.out hbw5.size) HG6.out.size
                    exact ⟨k + L, k + L, k, _, _, _, ps ++ [(.slice v5a v5n v5c, ⟨lit, (D : Int), (L : Int)⟩)], by omega, by omega, by omega, by omega, by simp; omega, by first | rfl | go_num, by first | rfl | go_num, rfl, rfl, HT6, by show _ = _; rw [List.map_append]; exact HE2.out, hk6, hb6, hs6⟩
    · have hi4i : ¬ (i : Int) + 4 ≤ (len : Int) := by omega
      have HTL := hide (own_tail x frm (len - i) i (by have := HL.out; omega) (by omega) (by have := HL.out; omega))
      rw [HL.out] at HTL
      by_cases hf : frm < len
      · obtain ⟨b, off, rfl, hblt, _⟩ := HR.out.2.2 (by omega)
        have hff : (frm : Int) < (len : Int) := by omega
        have HR1 : Hid (Rd wr (some ⟨b, off, none⟩) len x) := HR.out.below (by rw [HG1.out]; exact HB.out)
        obtain ⟨lit, hlit⟩ : ∃ lit, x.drop frm = lit := ⟨_, rfl⟩
        have HE2 : Hid (ps.map (·.2) ++ [⟨lit, 0, 0⟩] = ownFrom x 0 0) := by
          have h := HE.out
          rw [HTL.out, if_pos hf, hlit] at h
          exact h
        have HO0 : Hid (Own (wr.alloc (.cells #[] 5)) bs (.slice (some ⟨wr.heap.size, 0, none⟩) 0 0) []) := own_empty wr bs HS.out
        have HLA0 : Hid (Rd (wr.alloc (.cells #[] 5)) (some ⟨b, off + frm, none⟩) (len - frm) lit) := by
          have h := rd_rest (HR1.out.below ((Below.refl _ _).alloc (Nat.le_refl _) (.cells #[] 5))) (e := frm) (la := ⟨b, off + frm, none⟩) (by omega) (fun _ => rfl)
          rw [hlit] at h
          exact h
        have hSo := HS.out
        obtain ⟨la, hsl, hla, _, _⟩ := slice_l b off len cap frm (by omega) hcap
        have hla' := hla hf
        subst hla'
        obtain ⟨m, hm0⟩ : ∃ m, len - frm = m := ⟨_, rfl⟩
        obtain ⟨mc, hmc⟩ : ∃ mc, cap - frm = mc := ⟨_, rfl⟩
        rw [hm0, hmc] at hsl
        rw [hm0] at HLA0
        have hmle : m ≤ 65536 := by omega
        clear hm0 hmc hlit HE hla
        go_wp2_with (first
                  | (at_builtin; refine join2 _ rfl _ _ rfl bs (.slice (some ⟨wr.heap.size, 0, none⟩) 0 0) [] rfl HO0.out (some ⟨b, off + frm, none⟩) m mc lit rfl HLA0.out (fun h => by cases h) (by simp; omega) (by simp; omega) ?_
                     intro v5 w5 ho5 hg5 _
                     obtain ⟨v5a, v5n, v5c, rfl, hv5⟩ := own_named ho5
                     rw [List.nil_append] at ho5
                     have HO5 := hide ho5
                     have HBW : Hid (Below wr.heap.size wr w5) := ((Below.refl _ _).alloc (Nat.le_refl _) _).grown hg5 (by simp) (fun q e => by cases e; exact Nat.le_refl _)
                     have HT5 := hide (HT.out.below HBW.out)
                     have hS5 : bs ≤ w5.heap.size := Nat.le_trans HS.out HBW.out.size
                     have HNEWS : Hid (∀ (j : Nat) (u : Value), [Value.slice v5a v5n v5c, .int .i64 0, .int .i64 0][j]? = some u → (w5.alloc (.cells #[.slice v5a v5n v5c, .int .i64 0, .int .i64 0] 32)).cell? ((⟨w5.heap.size, 0, none⟩ : Addr).add j) = some u) := by
                       have hT := TRow.new w5 (.slice v5a v5n v5c) 0 0
                       intro j u hu
                       rcases j with _ | _ | _ | j
                       · cases hu; exact hT.c0
                       · cases hu; exact hT.c1
                       · cases hu; exact hT.c2
                       · simp at hu
                     clear ho5 hg5 hv5)
                  | (at_builtin; refine wpList_append_own _ rfl _ _ 33 rfl bs 32 iT (.agg #[.slice none 0 0, .int .i64 0, .int .i64 0]) 3 40 Try.underlying33 hiT hT0 hT1 hT2 rfl (by omega) (.slice va vn vc) ps.length (cellsOf ps) rfl (HT5.out.below ((Below.refl _ _).alloc (Nat.le_refl _) _)).row ⟨w5.heap.size, 0, none⟩ 1 1 [.slice v5a v5n v5c, .int .i64 0, .int .i64 0] rfl rfl ?_ ?_ (by unfold maxLen; omega) (by omega) (by simp; omega) ?_
                     · exact HNEWS.out
                     · intro u hu
                       simp only [List.mem_cons, List.not_mem_nil, or_false] at hu
                       rcases hu with rfl | rfl | rfl <;> rfl
                     intro v6 w6 hrow6 hgrow6 _
                     obtain ⟨g6, c6, rfl⟩ : ∃ g c, v6 = .slice (some ⟨g, 0, none⟩) (ps.length + 1) c := by
                       rcases hrow6.2 with ⟨_, h2⟩ | ⟨g, c, cur, h1, _⟩
                       · omega
                       · exact ⟨g, c, h1⟩
                     have HT6 : Hid (RToks w6 bs (.slice (some ⟨g6, 0, none⟩) (ps.length + 1) c6) (ps ++ [(.slice v5a v5n v5c, ⟨lit, 0, 0⟩)])) :=
                       RToks.add (t := ⟨lit, 0, 0⟩) (HT5.out.below ((Below.refl _ _).alloc (Nat.le_refl _) _)) hrow6 rfl hgrow6 (HO5.out.below ((Below.refl _ _).alloc (Nat.le_refl _) _))
                     have HG6 := hide hgrow6
                     clear hrow6 hgrow6))
        go_ret
        have hbw5 := HBW.out.alloc HBW.out.size (.cells #[.slice v5a v5n v5c, .int .i64 0, .int .i64 0] 32)
        have hblk : ∀ q, (Value.slice va vn vc).ownBlock = some q → bs ≤ q := fun q e => (World.ownsRow.lt HT.out.row q e).1
        have hb6 : Below g1 w w6 := (HTR.out _ _ HB.out HS.out hbw5).grown HG6.out (by have := hbw5.size; omega) (fun q e => by have := hblk q e; omega)
        refine ⟨_, rfl, ps ++ [(.slice v5a v5n v5c, ⟨lit, 0, 0⟩)], ?_, by rw [List.map_append]; exact HE2.out, ?_⟩
        · first | exact HT6.out.mono hg1b | (rw [HG1.out]; exact HT6.out.mono hg1b)
        · first | exact hb6 | (rw [HG1.out]; exact hb6)
      · have hff : ¬ (frm : Int) < (len : Int) := by omega
        have HE2 : Hid (ps.map (·.2) = ownFrom x 0 0) := by
          have h := HE.out
          rw [HTL.out, if_neg hf, List.append_nil] at h
          exact h
        go_wp2_with fail
        go_ret
        refine ⟨_, rfl, ps, ?_, HE2.out, ?_⟩
        · first | exact HT.out.mono hg1b | (rw [HG1.out]; exact HT.out.mono hg1b)
        · first | exact HB.out | (rw [HG1.out]; exact HB.out)
end Go.Proofs.Ytckfkilpoimikaa.Lz
