/-
  What the program tells of a place's match.
-/
import Derived.Test.YthdblnfohbldcaaGreatLzE2
import Derived.Deep.LoopGhost
namespace Go.Proofs.YthdblnfohbldcaaGreat.Lz
open Go.ChangeShapes Go.WideShapes Go.ChangeAt Go.RowKit
open Go.Proofs.YthdblnfohbldcaaGreat.Base Go.Proofs.YthdblnfohbldcaaGreat.Nums
set_option linter.unusedVariables false
set_option maxHeartbeats 1000000 in
set_option maxRecDepth 100000 in
theorem match_few (a : Option Addr) (len cap i g : Nat) (w : World) (hi : len < i + 4) (hl : len ≤ 65536) (hi2 : i ≤ len) :
    Calls Tryz.prog 50 #[.pointer (some ⟨g, 0, none⟩), .slice a len cap, .int .i64 (i : Int)] w fun e w' => e = .returned (.tuple #[.int .i64 0, .int .i64 0]) ∧ w' = w := by
  have h1 : (len : Int) - (i : Int) < 4 := by omega
  have h1' : (len : Int) - (i : Int) < 259 := by omega
  have h2 : (len : Int) ≤ 65536 := by omega
  have h3 : (i : Int) ≤ 65536 := by omega
  clear hi hl hi2
  go_enter Tryz.func50, Tryz.ntmps50
  go_wp2_with fail
  go_step3
  go_wp2_with fail
  (try rw [Exit.noGoto_ret])
  go_ret2
  exact ⟨rfl, rfl⟩
theorem best_search (x : Txt) (i : Nat) (h : i + 4 ≤ x.length) : best x i = search x i (min 259 (x.length - i)) i 0 (0, 0) := by unfold best; rw [if_neg (by omega)]
set_option maxHeartbeats 1000000 in
set_option maxRecDepth 100000 in
theorem match_any (b off len cap i g : Nat) (x : Txt) (w : World) (hr : Rd w (some ⟨b, off, none⟩) len x) (hcap : len ≤ cap) (hm : cap ≤ 9223372036854775807) (hi : i + 4 ≤ len) (hl : len ≤ 65536) (ht : Tbl w g x i) :
    Calls Tryz.prog 50 #[.pointer (some ⟨g, 0, none⟩), .slice (some ⟨b, off, none⟩) len cap, .int .i64 (i : Int)] w fun e w' => e = .returned (.tuple #[.int .i64 ((best x i).1 : Nat), .int .i64 ((best x i).2 : Nat)]) ∧ Below w.heap.size w w' := by
  have HR := hide hr
  have HT := hide ht
  have HBS := hide (best_search x i (by have := hr.1; omega))
  rw [hr.1] at HBS
  obtain ⟨most, hmost, HM⟩ : ∃ most : Nat, (if (len : Int) - (i : Int) < 259 then (len : Int) - (i : Int) else 259) = (most : Int) ∧ Hid (min 259 (len - i) = most) := ⟨min 259 (len - i), by split <;> omega, rfl⟩
  have hmost2 : min (259 : Int) ((len : Int) - (i : Int)) = (most : Int) := by have := HM.out; omega
  rw [HM.out] at HBS
  have hm4 : (4 : Int) ≤ (most : Int) := by have := HM.out; omega
  have hm5 : (most : Int) ≤ 259 := by have := HM.out; omega
  have hml : i + most ≤ len := by have := HM.out; omega
  obtain ⟨s, hs⟩ : ∃ s, slotOf x i = s := ⟨_, rfl⟩
  have hs2 := slotOf_lt x i
  rw [hs] at hs2
  have HSL : Hid (∀ W, Below w.heap.size w W → Calls Tryz.prog 91 #[.slice (some ⟨b, off, none⟩) len cap, .int .i64 (i : Int)] W fun e w' => e = .returned (.int .i64 (s : Int)) ∧ w' = W) :=
    fun W hW => slot_named b off len cap i s x W (hr.below hW) hcap hm hi hs
  have HPV := hide (search_prev x i most (slotOf x) s (fun m _ h => (slotOf_same x m i h).trans hs))
  have HPS := hide (prev_slot (slotOf x) s)
  have HS := hide hs
  have c1 := ht.last s hs2
  have hsi : (s : Int) ≤ 16383 := by omega
  have hpl := prev_le (slotOf x) s i
  have HP0 : Hid (best x i = search x i most (prev (slotOf x) s i) 0 (0, 0)) := by show _ = _; rw [HBS.out]; exact HPV.out 0 (0, 0) i (Nat.le_refl _)
  have HPS0 : Hid (∀ j, prev (slotOf x) s i = j + 1 → slotOf x j = s ∧ j < i) := HPS.out i
  generalize prev (slotOf x) s i = p0 at c1 hpl HP0 HPS0
  have hil : (i : Int) ≤ 65532 := by omega
  have h4 : ¬ (len : Int) - (i : Int) < 4 := by omega
  have hli : (len : Int) ≤ 65536 := by omega
  have hp0i : (p0 : Int) ≤ (i : Int) := by omega
  clear hr ht hs hs2 HBS
  go_enter Tryz.func50, Tryz.ntmps50
  go_wp2_with fail
  go_step3
  go_wp2_with fail
  go_quiet (first | (go_at_call 91; exact Calls.quiet_of_same (HSL.out _ (below_drewN' _ _ _))))
  go_wp2_with fail
  go_step3
  go_wp2_with fail
  clear c1 hmost hmost2
  go_loopg [6, 7, 9, 10] p0 (fun gq s6 s7 s9 s10 wr => ∃ (D L K p : Nat), p ≤ gq ∧ p ≤ i ∧ K < 16 ∧ L ≤ most ∧ s6 = .int .i64 (D : Int) ∧ s7 = .int .i64 (L : Int) ∧ s9 = .int .i64 (K : Int) ∧ s10 = .int .i64 (p : Int) ∧ Hid (best x i = search x i most p K (D, L)) ∧ Hid (∀ j, p = j + 1 → slotOf x j = s ∧ j < i) ∧ Hid (Below w.heap.size w wr))
  case atStart => exact ⟨0, 0, 0, p0, Nat.le_refl _, hpl, by omega, by omega, rfl, rfl, rfl, rfl, HP0, HPS0, below_drewN' _ _ _⟩
  case round =>
    clear HP0 HPS0 hp0i hpl
    obtain ⟨D, L, K, p, hpg, hpi, hK, hL, rfl, rfl, rfl, rfl, HB0, HJ, HW⟩ := hrel
    have HT1 := hide (HT.out.below HW.out)
    have HR1 := hide (HR.out.below HW.out)
    by_cases hp : p = 0
    · subst hp
      have HE : Hid (best x i = (D, L)) := HB0.out
      clear HB0 HJ
      go_wp2_with fail
      rw [Exit.noGoto_ret]
      go_ret2
      rw [HE.out]
      exact ⟨rfl, HW.out⟩
    · obtain ⟨j, hj⟩ : ∃ j, p = j + 1 := ⟨p - 1, by omega⟩
      obtain ⟨hjs, hji⟩ := HJ.out j hj
      have hpj : (p : Int) - 1 = (j : Int) := by omega
      have hp1 : (0 : Int) < (p : Int) := by omega
      have hpi2 : (p : Int) ≤ 65536 := by omega
      have hjl : (j : Int) ≤ 65532 := by omega
      have HJP := hide hj
      obtain ⟨gq, rfl⟩ : ∃ gq, gk = gq + 1 := ⟨gk - 1, by omega⟩
      have hjg : j ≤ gq := by omega
      clear hj
      by_cases hwin : (32768 : Int) < (i : Int) - (j : Int)
      · have HE : Hid (best x i = (D, L)) := by
          show _ = _
          rw [HB0.out]
          apply search_stop
          right; rw [HJP.out]; omega
        clear HB0 HJ
        go_wp2_with fail
        rw [Exit.noGoto_ret]
        go_ret2
        rw [HE.out]
        exact ⟨rfl, HW.out⟩
      · obtain ⟨pv, c2, hpv⟩ := HT1.out.ahead (j % 32768) (by omega)
        have hpv2 := hpv j hji (by omega) rfl
        rw [hjs] at hpv2
        have hpvj : pv ≤ j := by rw [hpv2]; exact prev_le _ _ _
        have HPV2 := hide hpv2
        obtain ⟨jm, hjm, hjm2⟩ : ∃ jm : Nat, (j : Int) % 32768 = (jm : Int) ∧ (jm : Int) ≤ 32767 := ⟨j % 32768, by omega, by omega⟩
        have hjm3 : j % 32768 = jm := by omega
        rw [hjm3] at c2
        have hpvi : (pv : Int) ≤ (j : Int) := by omega
        clear hpv hpv2 hjm3
        go_wp2_with fail
        clear c2 HT1 HR1
        have HWO : Hid (Below w.heap.size w wr) := HW
        clear HW
        go_loopg [49] 4 (fun g2 s49 wy => ∃ k : Nat, k + g2 = 4 ∧ s49 = .int .i64 (k : Int) ∧ Hid (∀ m, m < k → gd x (j + m) = gd x (i + m)) ∧ Hid (Below w.heap.size w wy))
        case atStart => exact ⟨0, by omega, rfl, fun m h => by omega, HWO⟩
        case round =>
          clear HWO
          obtain ⟨k, hkg, rfl, HQ, HW⟩ := hrel
          have HR1 := hide (HR.out.below HW.out)
          cases gk with
          | succ g2 =>
            have hk4 : (k : Int) < 4 := by omega
            obtain ⟨b', off', e, _, hc⟩ := HR1.out.2.2 (by omega)
            cases e
            have g1 := hc (j + k) (by omega)
            have g2' := hc (i + k) (by omega)
            clear hc
            generalize hX : x.getD (j + k) 0 = X at g1
            generalize hY : x.getD (i + k) 0 = Y at g2'
            have HX := hide hX
            have HY := hide hY
            clear hX hY
            by_cases hxy : X = Y
            · subst hxy
              have hq : ((X.toNat : Int) != (X.toNat : Int)) = false := by simp
              have HQ2 : Hid (∀ m, m < k + 1 → gd x (j + m) = gd x (i + m)) := by
                intro m hm
                by_cases e : m = k
                · subst e; unfold gd; rw [HX.out, HY.out]
                · exact HQ.out m (by omega)
              go_wp2_with fail
              go_quiet (fail)
              go_wp2_with fail
              go_roundg g2
              case measure => omega
              case rel => exact ⟨k + 1, by omega, by first | rfl | go_num, HQ2, HW.out.trans (below_drewN' _ _ _)⟩
            · have hq : ((X.toNat : Int) != (Y.toNat : Int)) = true := by
                rw [bne_iff_ne]; intro h; exact hxy (BitVec.eq_of_toNat_eq (by omega))
              have HN : Hid (best x i = search x i most pv K (D, L)) := by
                show _ = _
                have h1 : same4 x j i = false := by
                  unfold same4
                  rw [decide_eq_false_iff_not]
                  intro h
                  apply hxy
                  rw [← HX.out, ← HY.out]
                  have hk5 : k < 4 := by omega
                  rcases k with _ | _ | _ | _ | k
                  · exact h.1
                  · exact h.2.1
                  · exact h.2.2.1
                  · exact h.2.2.2
                  · omega
                rw [HB0.out, HJP.out, HPV2.out, ← HPV.out K (D, L) j (by omega)]
                simp only [search]
                rw [if_neg (by omega), h1]
                rfl
              have HJ2 : Hid (∀ j, pv = j + 1 → slotOf x j = s ∧ j < i) := fun j' h => by
                have := HPS.out j j' (by rw [← HPV2.out]; exact h)
                exact ⟨this.1, by omega⟩
              go_wp2_with fail
              go_quiet (fail)
              go_wp2_with fail
              go_roundg gq
              case measure => omega
              case rel => exact ⟨D, L, K, pv, by omega, by omega, hK, hL, rfl, rfl, rfl, rfl, HN, HJ2, HW.out.trans (below_drewN' _ _ _)⟩
          | zero =>
            have hk4 : k = 4 := by omega
            subst hk4
            have hsame : same4 x j i = true := by
              unfold same4
              rw [decide_eq_true_iff]
              exact ⟨HQ.out 0 (by omega), HQ.out 1 (by omega), HQ.out 2 (by omega), HQ.out 3 (by omega)⟩
            have HN : Hid (best x i = search x i most pv (K + 1) (better x i most j (D, L))) := by
              show _ = _
              rw [HB0.out, HJP.out, HPV2.out, ← HPV.out (K + 1) _ j (by omega)]
              simp only [search]
              rw [if_neg (by omega), hsame]
              rfl
            have HJ2 : Hid (∀ j, pv = j + 1 → slotOf x j = s ∧ j < i) := fun j' h => by
              have := HPS.out j j' (by rw [← HPV2.out]; exact h)
              exact ⟨this.1, by omega⟩
            have HBL : Hid ((better x i most j (D, L)).2 ≤ most) := better_le x i most j (D, L) (by omega) hL
            have HFU : Hid (runFrom x j i most 4 = most → best x i = better x i most j (D, L)) := fun h => by
              have h1 := better_full x i most j (D, L) hL h
              have h2 := search_full x i most (better x i most j (D, L)) (by omega) j (K + 1) h1
              rw [HN.out, HPV2.out, ← HPV.out (K + 1) _ j (by omega), h2]
            have HLK : Hid (K + 1 = 16 → best x i = better x i most j (D, L)) := fun h => by
              rw [HN.out]; exact search_stop x i most pv (K + 1) _ (.inl h)
            have hrle := (runFrom_le x j i most (most - 4) 4 (Nat.le_refl _) (by omega)).2.1
            have HBT : Hid (better x i most j (D, L) = if L < runFrom x j i most 4 ∧ pays (i - j) (runFrom x j i most 4) = true then (i - j, runFrom x j i most 4) else (D, L)) := rfl
            have HAL := hide (alike_any b off len cap j i most x wr HR1.out hcap hm hji hml (by omega))
            generalize runFrom x j i most 4 = run at HFU hrle HBT HAL
            obtain ⟨dj, hdj⟩ : ∃ dj : Nat, i - j = dj := ⟨_, rfl⟩
            have hdji : (i : Int) - (j : Int) = (dj : Int) := by omega
            rw [hdj] at HBT
            have hdj1 : 1 ≤ dj := by omega
            have hdj2 : dj ≤ 65536 := by omega
            have hKi : (K : Int) < 16 := by omega
            clear hdj hsame HQ HB0 HJ
            go_wp2_with fail
            refine HAL.out.mono ?_
            rintro e w1 ⟨rfl, hb1⟩
            have HW1 := hide (below_trans HW.out hb1)
            clear hb1 HAL HR1
            by_cases hLr : L < run
            · have hLri : (L : Int) < (run : Int) := by omega
              obtain ⟨pb, hpb⟩ : ∃ pb, pays dj run = pb := ⟨_, rfl⟩
              have HPA : Hid (Calls Tryz.prog 93 #[.int .i64 (dj : Int), .int .i64 (run : Int)] w1 fun e w' => e = .returned (.bool pb) ∧ w' = w1) := by
                have h := pays_any dj run w1 hdj1 hdj2 (by omega)
                rw [hpb] at h; exact h
              rw [hpb] at HBT
              clear hpb
              go_wp2_with fail
              refine HPA.out.mono ?_
              rintro e w2 ⟨rfl, rfl⟩
              clear HPA
              cases pb with
              | true =>
                rw [if_pos ⟨hLr, rfl⟩] at HBT
                have HN2 : Hid (best x i = search x i most pv (K + 1) (dj, run)) := by show _ = _; rw [← HBT.out]; exact HN.out
                have HBL2 : Hid (run ≤ most) := by have h := HBL.out; rw [HBT.out] at h; exact h
                by_cases hrm : run = most
                · have hb : ((run : Int) == (most : Int)) = true := by rw [beq_iff_eq]; omega
                  have HE : Hid (best x i = (dj, run)) := (HFU.out hrm).trans HBT.out
                  clear hrm
                  go_wp2_with fail
                  rw [Exit.noGoto_ret]
                  go_ret2
                  rw [HE.out]
                  exact ⟨rfl, HW1.out⟩
                · have hb : ((run : Int) == (most : Int)) = false := by rw [beq_eq_false_iff_ne]; omega
                  by_cases hk16 : K + 1 = 16
                  · have hb2 : ((K : Int) + 1 == 16) = true := by rw [beq_iff_eq]; omega
                    have HE : Hid (best x i = (dj, run)) := (HLK.out hk16).trans HBT.out
                    clear hrm hk16
                    go_wp2_with fail
                    rw [Exit.noGoto_ret]
                    go_ret2
                    rw [HE.out]
                    exact ⟨rfl, HW1.out⟩
                  · have hb2 : ((K : Int) + 1 == 16) = false := by rw [beq_eq_false_iff_ne]; omega
                    go_wp2_with fail
                    go_roundg gq
                    case measure => omega
                    case rel => exact ⟨dj, run, K + 1, pv, by omega, by omega, by omega, HBL2.out, by first | rfl | go_num, by first | rfl | go_num, by first | rfl | go_num, by first | rfl | go_num, HN2, HJ2, HW1⟩
              | false =>
                rw [if_neg (fun h => by cases h.2)] at HBT
                have HN2 : Hid (best x i = search x i most pv (K + 1) (D, L)) := by show _ = _; rw [← HBT.out]; exact HN.out
                have HBL2 : Hid (L ≤ most) := by have h := HBL.out; rw [HBT.out] at h; exact h
                by_cases hrm : run = most
                · have hb : ((run : Int) == (most : Int)) = true := by rw [beq_iff_eq]; omega
                  have HE : Hid (best x i = (D, L)) := (HFU.out hrm).trans HBT.out
                  clear hrm
                  go_wp2_with fail
                  rw [Exit.noGoto_ret]
                  go_ret2
                  rw [HE.out]
                  exact ⟨rfl, HW1.out⟩
                · have hb : ((run : Int) == (most : Int)) = false := by rw [beq_eq_false_iff_ne]; omega
                  by_cases hk16 : K + 1 = 16
                  · have hb2 : ((K : Int) + 1 == 16) = true := by rw [beq_iff_eq]; omega
                    have HE : Hid (best x i = (D, L)) := (HLK.out hk16).trans HBT.out
                    clear hrm hk16
                    go_wp2_with fail
                    rw [Exit.noGoto_ret]
                    go_ret2
                    rw [HE.out]
                    exact ⟨rfl, HW1.out⟩
                  · have hb2 : ((K : Int) + 1 == 16) = false := by rw [beq_eq_false_iff_ne]; omega
                    go_wp2_with fail
                    go_roundg gq
                    case measure => omega
                    case rel => exact ⟨D, L, K + 1, pv, by omega, by omega, by omega, HBL2.out, by first | rfl | go_num, by first | rfl | go_num, by first | rfl | go_num, by first | rfl | go_num, HN2, HJ2, HW1⟩
            · have hLri : ¬ (L : Int) < (run : Int) := by omega
              rw [if_neg (fun h => hLr h.1)] at HBT
              have HN2 : Hid (best x i = search x i most pv (K + 1) (D, L)) := by show _ = _; rw [← HBT.out]; exact HN.out
              have HBL2 : Hid (L ≤ most) := by have h := HBL.out; rw [HBT.out] at h; exact h
              by_cases hrm : run = most
              · have hb : ((run : Int) == (most : Int)) = true := by rw [beq_iff_eq]; omega
                have HE : Hid (best x i = (D, L)) := (HFU.out hrm).trans HBT.out
                clear hrm
                go_wp2_with fail
                rw [Exit.noGoto_ret]
                go_ret2
                rw [HE.out]
                exact ⟨rfl, HW1.out⟩
              · have hb : ((run : Int) == (most : Int)) = false := by rw [beq_eq_false_iff_ne]; omega
                by_cases hk16 : K + 1 = 16
                · have hb2 : ((K : Int) + 1 == 16) = true := by rw [beq_iff_eq]; omega
                  have HE : Hid (best x i = (D, L)) := (HLK.out hk16).trans HBT.out
                  clear hrm hk16
                  go_wp2_with fail
                  rw [Exit.noGoto_ret]
                  go_ret2
                  rw [HE.out]
                  exact ⟨rfl, HW1.out⟩
                · have hb2 : ((K : Int) + 1 == 16) = false := by rw [beq_eq_false_iff_ne]; omega
                  go_wp2_with fail
                  go_roundg gq
                  case measure => omega
                  case rel => exact ⟨D, L, K + 1, pv, by omega, by omega, by omega, HBL2.out, by first | rfl | go_num, by first | rfl | go_num, by first | rfl | go_num, by first | rfl | go_num, HN2, HJ2, HW1⟩
end Go.Proofs.YthdblnfohbldcaaGreat.Lz
