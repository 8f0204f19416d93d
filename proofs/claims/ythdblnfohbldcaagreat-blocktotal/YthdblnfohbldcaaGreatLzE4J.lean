/-
  What the program tells of a place's match.
-/
import Derived.Test.YthdblnfohbldcaaGreatLzE35J
import Derived.Deep.LoopGhost
import Derived.Test.YthdblnfohbldcaaGreatBlModJ
namespace Go.Proofs.YthdblnfohbldcaaGreat.Lz
open Go.ChangeShapes Go.WideShapes Go.ChangeAt Go.RowKit
open Go.Proofs.YthdblnfohbldcaaGreat.Base Go.Proofs.YthdblnfohbldcaaGreat.Nums
set_option linter.unusedVariables false
set_option maxHeartbeats 1000000 in
set_option maxRecDepth 100000 in
theorem match_few (a : Option Addr) (len cap i g : Nat) (w : World) (hi : len < i + 4) (hl : len ≤ 65536) (hi2 : i ≤ len) :
    Calls Tryz.prog 50 #[.pointer (some ⟨g, 0, none⟩), .slice a len cap, .int .i64 (i : Int)] w fun e w' => e = .returned (.tuple #[.int .i64 0, .int .i64 0]) ∧ w' = w := by
  have h1 : (len : Int) - (i : Int) < 4 := by omega
  have h1' : (len : Int) - (i : Int) < 259 := by omega
  have h2 : (len : Int) ≤ 65536 := by omega
  have h3 : (i : Int) ≤ 65536 := by omega
  clear hi hl hi2
  go_enter Tryz.func50, Tryz.ntmps50
  go_wp2_with fail
  go_step3
  go_wp2_with fail
  (try rw [Exit.noGoto_ret])
  go_ret2
  exact ⟨rfl, rfl⟩
theorem best_search (x : Txt) (i : Nat) (h : i + 4 ≤ x.length) : best x i = search x i (min 259 (x.length - i)) i 0 (0, 0) := by unfold best; rw [if_neg (by omega)]
set_option maxHeartbeats 1000000 in
set_option maxRecDepth 100000 in
theorem match_any (b off len cap i g : Nat) (x : Txt) (w : World) (hr : Rd w (some ⟨b, off, none⟩) len x) (hcap : len ≤ cap) (hm : cap ≤ 9223372036854775807) (hi : i + 4 ≤ len) (hl : len ≤ 65536) (ht : Tbl w g x i) :
    Calls Tryz.prog 50 #[.pointer (some ⟨g, 0, none⟩), .slice (some ⟨b, off, none⟩) len cap, .int .i64 (i : Int)] w fun e w' => e = .returned (.tuple #[.int .i64 ((best x i).1 : Nat), .int .i64 ((best x i).2 : Nat)]) ∧ Below w.heap.size w w' := by
  have HR := hide hr
  have HT := hide ht
  have HBS := hide (best_search x i (by have := hr.1; omega))
  rw [hr.1] at HBS
  obtain ⟨most, hmost, HM⟩ : ∃ most : Nat, (if (len : Int) - (i : Int) < 259 then (len : Int) - (i : Int) else 259) = (most : Int) ∧ Hid (min 259 (len - i) = most) := ⟨min 259 (len - i), by split <;> omega, rfl⟩
  have hmost2 : min (259 : Int) ((len : Int) - (i : Int)) = (most : Int) := by have := HM.out; omega
  rw [HM.out] at HBS
  have hm4 : (4 : Int) ≤ (most : Int) := by have := HM.out; omega
  have hm5 : (most : Int) ≤ 259 := by have := HM.out; omega
  have hml : i + most ≤ len := by have := HM.out; omega
  obtain ⟨s, hs⟩ : ∃ s, slotOf x i = s := ⟨_, rfl⟩
  have hs2 := slotOf_lt x i
  rw [hs] at hs2
  have HSL : Hid (∀ W, Below w.heap.size w W → Calls Tryz.prog 91 #[.slice (some ⟨b, off, none⟩) len cap, .int .i64 (i : Int)] W fun e w' => e = .returned (.int .i64 (s : Int)) ∧ w' = W) :=
    fun W hW => slot_named b off len cap i s x W (hr.below hW) hcap hm hi hs
  have HPV := hide (search_prev x i most (slotOf x) s (fun m _ h => (slotOf_same x m i h).trans hs))
  have HPS := hide (prev_slot (slotOf x) s)
  have HS := hide hs
  have c1 := ht.last s hs2
  have hsi : (s : Int) ≤ 16383 := by omega
  have hpl := prev_le (slotOf x) s i
  have HP0 : Hid (best x i = search x i most (prev (slotOf x) s i) 0 (0, 0)) := by show _ = _; rw [HBS.out]; exact HPV.out 0 (0, 0) i (Nat.le_refl _)
  have HPS0 : Hid (∀ j, prev (slotOf x) s i = j + 1 → slotOf x j = s ∧ j < i) := HPS.out i
  generalize prev (slotOf x) s i = p0 at c1 hpl HP0 HPS0
  have hil : (i : Int) ≤ 65532 := by omega
  have h4 : ¬ (len : Int) - (i : Int) < 4 := by omega
  have hli : (len : Int) ≤ 65536 := by omega
  have hp0i : (p0 : Int) ≤ (i : Int) := by omega
  clear hr ht hs hs2 HBS
  go_enter Tryz.func50, Tryz.ntmps50
  go_wp2_with fail
  go_step3
  go_wp2_with fail
  go_quiet (first | (go_at_call 91; exact Calls.quiet_of_same (HSL.out _ (below_drewN' _ _ _))))
  go_wp2_with fail
  go_step3
  go_wp2_with fail
  clear c1 hmost hmost2
  go_loopg [6, 7, 9, 10] p0 (fun gq s6 s7 s9 s10 wr => ∃ (D L K p : Nat), p ≤ gq ∧ p ≤ i ∧ K < 16 ∧ L ≤ most ∧ s6 = .int .i64 (D : Int) ∧ s7 = .int .i64 (L : Int) ∧ s9 = .int .i64 (K : Int) ∧ s10 = .int .i64 (p : Int) ∧ Hid (best x i = search x i most p K (D, L)) ∧ Hid (∀ j, p = j + 1 → slotOf x j = s ∧ j < i) ∧ Hid (Below w.heap.size w wr))
  case atStart => exact ⟨0, 0, 0, p0, Nat.le_refl _, hpl, by omega, by omega, rfl, rfl, rfl, rfl, HP0, HPS0, below_drewN' _ _ _⟩
  case round =>
    clear HP0 HPS0 hp0i hpl
    obtain ⟨D, L, K, p, hpg, hpi, hK, hL, rfl, rfl, rfl, rfl, HB0, HJ, HW⟩ := hrel
    have HT1 := hide (HT.out.below HW.out)
    have HR1 := hide (HR.out.below HW.out)
    by_cases hp : p = 0
    · subst hp
      have HE : Hid (best x i = (D, L)) := HB0.out
      clear HB0 HJ
      go_wp2_with fail
      rw [Exit.noGoto_ret]
      go_ret2
      rw [HE.out]
      exact ⟨rfl, HW.out⟩
    · obtain ⟨j, hj⟩ : ∃ j, p = j + 1 := ⟨p - 1, by omega⟩
      obtain ⟨hjs, hji⟩ := HJ.out j hj
      have hpj : (p : Int) - 1 = (j : Int) := by omega
      have hp1 : (0 : Int) < (p : Int) := by omega
      have hpi2 : (p : Int) ≤ 65536 := by omega
      have hjl : (j : Int) ≤ 65532 := by omega
      have HJP := hide hj
      obtain ⟨gq, rfl⟩ : ∃ gq, gk = gq + 1 := ⟨gk - 1, by omega⟩
      have hjg : j ≤ gq := by omega
      clear hj
      by_cases hwin : (32768 : Int) < (i : Int) - (j : Int)
      · have HE : Hid (best x i = (D, L)) := by
          show _ = _
          rw [HB0.out]
          apply search_stop
          right; rw [HJP.out]; omega
        clear HB0 HJ
        go_wp2_with fail
        rw [Exit.noGoto_ret]
        go_ret2
        rw [HE.out]
        exact ⟨rfl, HW.out⟩
      · obtain ⟨pv, c2, hpv⟩ := HT1.out.ahead (j % 32768) (by omega)
        have hpv2 := hpv j hji (by omega) rfl
        rw [hjs] at hpv2
        have hpvj : pv ≤ j := by rw [hpv2]; exact prev_le _ _ _
        have HPV2 := hide hpv2
        obtain ⟨jm, hjm, hjm2⟩ : ∃ jm : Nat, (j : Int) % 32768 = (jm : Int) ∧ (jm : Int) ≤ 32767 := ⟨j % 32768, by omega, by omega⟩
        have hjm3 : j % 32768 = jm := by omega
        rw [hjm3] at c2
        have hpvi : (pv : Int) ≤ (j : Int) := by omega
        clear hpv hpv2 hjm3
        go_wp2_with fail
        clear c2 HT1 HR1
        have HWO : Hid (Below w.heap.size w wr) := HW
        clear HW
        go_loopg [49] 4 (fun g2 s49 wy => ∃ k : Nat, k + g2 = 4 ∧ s49 = .int .i64 (k : Int) ∧ Hid (∀ m, m < k → gd x (j + m) = gd x (i + m)) ∧ Hid (Below w.heap.size w wy))
        case atStart => exact ⟨0, by omega, rfl, fun m h => by omega, HWO⟩
        case round =>
          clear HWO
          obtain ⟨k, hkg, rfl, HQ, HW⟩ := hrel
          have HR1 := hide (HR.out.below HW.out)
          cases gk with
          | succ g2 =>
            have hk4 : (k : Int) < 4 := by omega
            obtain ⟨b', off', e, _, hc⟩ := HR1.out.2.2 (by omega)
            cases e
            have g1 := hc (j + k) (by omega)
            have g2' := hc (i + k) (by omega)
            clear hc
            generalize hX : x.getD (j + k) 0 = X at g1
            generalize hY : x.getD (i + k) 0 = Y at g2'
            have HX := hide hX
            have HY := hide hY
            clear hX hY
            by_cases hxy : X = Y
            · subst hxy
              have hq : ((X.toNat : Int) != (X.toNat : Int)) = false := by simp
              have HQ2 : Hid (∀ m, m < k + 1 → gd x (j + m) = gd x (i + m)) := by
                intro m hm
                by_cases e : m = k
                · subst e; unfold gd; rw [HX.out, HY.out]
                · exact HQ.out m (by omega)
              go_wp2_with fail
              go_quiet (fail)
              go_wp2_with fail
              go_roundg g2
              case measure => omega
              case rel => exact ⟨k + 1, by omega, by first | rfl | go_num, HQ2, HW.out.trans (below_drewN' _ _ _)⟩
            · have hq : ((X.toNat : Int) != (Y.toNat : Int)) = true := by
                rw [bne_iff_ne]; intro h; exact hxy (BitVec.eq_of_toNat_eq (by omega))
              have HN : Hid (best x i = search x i most pv K (D, L)) := by
                show _ = _
                have h1 : same4 x j i = false := by
                  unfold same4
                  rw [decide_eq_false_iff_not]
                  intro h
                  apply hxy
                  rw [← HX.out, ← HY.out]
                  have hk5 : k < 4 := by omega
                  rcases k with _ | _ | _ | _ | k
                  · exact h.1
                  · exact h.2.1
                  · exact h.2.2.1
                  · exact h.2.2.2
                  · omega
                rw [HB0.out, HJP.out, HPV2.out, ← HPV.out K (D, L) j (by omega)]
                simp only [search]
                rw [if_neg (by omega), h1]
                rfl
              have HJ2 : Hid (∀ j, pv = j + 1 → slotOf x j = s ∧ j < i) := fun j' h => by
                have := HPS.out j j' (by rw [← HPV2.out]; exact h)
                exact ⟨this.1, by omega⟩
              go_wp2_with fail
              go_quiet (fail)
              go_wp2_with fail
              go_roundg gq
              case measure => omega
              case rel => exact ⟨D, L, K, pv, by omega, by omega, hK, hL, rfl, rfl, rfl, rfl, HN, HJ2, HW.out.trans (below_drewN' _ _ _)⟩
          | zero =>
            have hk4 : k = 4 := by omega
            subst hk4
            have hsame : same4 x j i = true := by
              unfold same4
              rw [decide_eq_true_iff]
              exact ⟨HQ.out 0 (by omega), HQ.out 1 (by omega), HQ.out 2 (by omega), HQ.out 3 (by omega)⟩
            have HN : Hid (best x i = search x i most pv (K + 1) (better x i most j (D, L))) := by
              show _ = _
              rw [HB0.out, HJP.out, HPV2.out, ← HPV.out (K + 1) _ j (by omega)]
              simp only [search]
              rw [if_neg (by omega), hsame]
              rfl
            have HJ2 : Hid (∀ j, pv = j + 1 → slotOf x j = s ∧ j < i) := fun j' h => by
              have := HPS.out j j' (by rw [← HPV2.out]; exact h)
              exact ⟨this.1, by omega⟩
            have HBL : Hid ((better x i most j (D, L)).2 ≤ most) := better_le x i most j (D, L) (by omega) hL
            have HFU : Hid (runFrom x j i most 4 = most → best x i = better x i most j (D, L)) := fun h => by
              have h1 := better_full x i most j (D, L) hL h
              have h2 := search_full x i most (better x i most j (D, L)) (by omega) j (K + 1) h1
              rw [HN.out, HPV2.out, ← HPV.out (K + 1) _ j (by omega), h2]
            have HLK : Hid (K + 1 = 16 → best x i = better x i most j (D, L)) := fun h => by
              rw [HN.out]; exact search_stop x i most pv (K + 1) _ (.inl h)
            have hrle := (runFrom_le x j i most (most - 4) 4 (Nat.le_refl _) (by omega)).2.1
            have HBT : Hid (better x i most j (D, L) = if L < runFrom x j i most 4 ∧ pays (i - j) (runFrom x j i most 4) = true then (i - j, runFrom x j i most 4) else (D, L)) := rfl
            have HAL := hide (alike_any b off len cap j i most x wr HR1.out hcap hm hji hml (by omega))
            generalize runFrom x j i most 4 = run at HFU hrle HBT HAL
            obtain ⟨dj, hdj⟩ : ∃ dj : Nat, i - j = dj := ⟨_, rfl⟩
            have hdji : (i : Int) - (j : Int) = (dj : Int) := by omega
            rw [hdj] at HBT
            have hdj1 : 1 ≤ dj := by omega
            have hdj2 : dj ≤ 65536 := by omega
            have hKi : (K : Int) < 16 := by omega
            clear hdj hsame HQ HB0 HJ
            go_wp2_with fail
            refine HAL.out.mono ?_
            rintro e w1 ⟨rfl, hb1⟩
            have HW1 := hide (below_trans HW.out hb1)
            clear hb1 HAL HR1
            by_cases hLr : L < run
            · have hLri : (L : Int) < (run : Int) := by omega
              obtain ⟨pb, hpb⟩ : ∃ pb, pays dj run = pb := ⟨_, rfl⟩
              have HPA : Hid (Calls Tryz.prog 93 #[.int .i64 (dj : Int), .int .i64 (run : Int)] w1 fun e w' => e = .returned (.bool pb) ∧ w' = w1) := by
                have h := pays_any dj run w1 hdj1 hdj2 (by omega)
                rw [hpb] at h; exact h
              rw [hpb] at HBT
              clear hpb
              go_wp2_with fail
              refine HPA.out.mono ?_
              rintro e w2 ⟨rfl, rfl⟩
              clear HPA
              cases pb with
              | true =>
                rw [if_pos ⟨hLr, rfl⟩] at HBT
                have HN2 : Hid (best x i = search x i most pv (K + 1) (dj, run)) := by show _ = _; rw [← HBT.out]; exact HN.out
                have HBL2 : Hid (run ≤ most) := by have h := HBL.out; rw [HBT.out] at h; exact h
                by_cases hrm : run = most
                · have hb : ((run : Int) == (most : Int)) = true := by rw [beq_iff_eq]; omega
                  have HE : Hid (best x i = (dj, run)) := (HFU.out hrm).trans HBT.out
                  clear hrm
                  go_wp2_with fail
                  rw [Exit.noGoto_ret]
                  go_ret2
                  rw [HE.out]
                  exact ⟨rfl, HW1.out⟩
                · have hb : ((run : Int) == (most : Int)) = false := by rw [beq_eq_false_iff_ne]; omega
                  by_cases hk16 : K + 1 = 16
                  · have hb2 : ((K : Int) + 1 == 16) = true := by rw [beq_iff_eq]; omega
                    have HE : Hid (best x i = (dj, run)) := (HLK.out hk16).trans HBT.out
                    clear hrm hk16
                    go_wp2_with fail
                    rw [Exit.noGoto_ret]
                    go_ret2
                    rw [HE.out]
                    exact ⟨rfl, HW1.out⟩
                  · have hb2 : ((K : Int) + 1 == 16) = false := by rw [beq_eq_false_iff_ne]; omega
                    go_wp2_with fail
                    go_roundg gq
                    case measure => omega
                    case rel => exact ⟨dj, run, K + 1, pv, by omega, by omega, by omega, HBL2.out, by first | rfl | go_num, by first | rfl | go_num, by first | rfl | go_num, by first | rfl | go_num, HN2, HJ2, HW1⟩
              | false =>
                rw [if_neg (fun h => by cases h.2)] at HBT
                have HN2 : Hid (best x i = search x i most pv (K + 1) (D, L)) := by show _ = _; rw [← HBT.out]; exact HN.out
                have HBL2 : Hid (L ≤ most) := by have h := HBL.out; rw [HBT.out] at h; exact h
                by_cases hrm : run = most
                · have hb : ((run : Int) == (most : Int)) = true := by rw [beq_iff_eq]; omega
                  have HE : Hid (best x i = (D, L)) := (HFU.out hrm).trans HBT.out
                  clear hrm
                  go_wp2_with fail
                  rw [Exit.noGoto_ret]
                  go_ret2
                  rw [HE.out]
                  exact ⟨rfl, HW1.out⟩
                · have hb : ((run : Int) == (most : Int)) = false := by rw [beq_eq_false_iff_ne]; omega
                  by_cases hk16 : K + 1 = 16
                  · have hb2 : ((K : Int) + 1 == 16) = true := by rw [beq_iff_eq]; omega
                    have HE : Hid (best x i = (D, L)) := (HLK.out hk16).trans HBT.out
                    clear hrm hk16
                    go_wp2_with fail
                    rw [Exit.noGoto_ret]
                    go_ret2
                    rw [HE.out]
                    exact ⟨rfl, HW1.out⟩
                  · have hb2 : ((K : Int) + 1 == 16) = false := by rw [beq_eq_false_iff_ne]; omega
                    go_wp2_with fail
                    go_roundg gq
                    case measure => omega
                    case rel => exact ⟨D, L, K + 1, pv, by omega, by omega, by omega, HBL2.out, by first | rfl | go_num, by first | rfl | go_num, by first | rfl | go_num, by first | rfl | go_num, HN2, HJ2, HW1⟩
            · have hLri : ¬ (L : Int) < (run : Int) := by omega
              rw [if_neg (fun h => hLr h.1)] at HBT
              have HN2 : Hid (best x i = search x i most pv (K + 1) (D, L)) := by show _ = _; rw [← HBT.out]; exact HN.out
              have HBL2 : Hid (L ≤ most) := by have h := HBL.out; rw [HBT.out] at h; exact h
              by_cases hrm : run = most
              · have hb : ((run : Int) == (most : Int)) = true := by rw [beq_iff_eq]; omega
                have HE : Hid (best x i = (D, L)) := (HFU.out hrm).trans HBT.out
                clear hrm
                go_wp2_with fail
                rw [Exit.noGoto_ret]
                go_ret2
                rw [HE.out]
                exact ⟨rfl, HW1.out⟩
              · have hb : ((run : Int) == (most : Int)) = false := by rw [beq_eq_false_iff_ne]; omega
                by_cases hk16 : K + 1 = 16
                · have hb2 : ((K : Int) + 1 == 16) = true := by rw [beq_iff_eq]; omega
                  have HE : Hid (best x i = (D, L)) := (HLK.out hk16).trans HBT.out
                  clear hrm hk16
                  go_wp2_with fail
                  rw [Exit.noGoto_ret]
                  go_ret2
                  rw [HE.out]
                  exact ⟨rfl, HW1.out⟩
                · have hb2 : ((K : Int) + 1 == 16) = false := by rw [beq_eq_false_iff_ne]; omega
                  go_wp2_with fail
                  go_roundg gq
                  case measure => omega
                  case rel => exact ⟨D, L, K + 1, pv, by omega, by omega, by omega, HBL2.out, by first | rfl | go_num, by first | rfl | go_num, by first | rfl | go_num, by first | rfl | go_num, HN2, HJ2, HW1⟩
end Go.Proofs.YthdblnfohbldcaaGreat.Lz
/-
  What the program tells of Encode.
-/
namespace Go.Proofs.YthdblnfohbldcaaGreat.Lz
open Go.ChangeShapes Go.WideShapes Go.ChangeAt Go.RowKit
open Go.Proofs.YthdblnfohbldcaaGreat.Base Go.Proofs.YthdblnfohbldcaaGreat.Nums
set_option linter.unusedVariables false
set_option maxHeartbeats 1000000 in
set_option maxRecDepth 100000 in
theorem encode_long (a : Option Addr) (len cap : Nat) (w : World) (hl : 65536 < len) (hm : len ≤ 140737488355328) :
    Calls Tryz.prog 14 #[.slice a len cap] w fun e w' => e = .returned (.tuple #[.slice none 0 0, .int .i64 2]) ∧ w' = w := by
  have h1 : (65536 : Int) < (len : Int) := by omega
  clear hl
  go_enter Tryz.func14, Tryz.ntmps14
  go_wp2_with fail
  go_ret2
  exact ⟨rfl, rfl⟩
theorem match_both (b off len cap i g : Nat) (x : Txt) (w : World) (hr : Rd w (some ⟨b, off, none⟩) len x) (hcap : len ≤ cap) (hm : cap ≤ 9223372036854775807) (hi : i < len) (hl : len ≤ 65536) (ht : Tbl w g x (min i (len - 3))) :
    Calls Tryz.prog 50 #[.pointer (some ⟨g, 0, none⟩), .slice (some ⟨b, off, none⟩) len cap, .int .i64 (i : Int)] w fun e w' => e = .returned (.tuple #[.int .i64 ((best x i).1 : Nat), .int .i64 ((best x i).2 : Nat)]) ∧ Below w.heap.size w w' := by
  by_cases h : i + 4 ≤ len
  · rw [show min i (len - 3) = i by omega] at ht
    exact match_any b off len cap i g x w hr hcap hm h hl ht
  · refine (match_few _ len cap i g w (by omega) hl (by omega)).mono ?_
    rintro e w' ⟨rfl, rfl⟩
    have : best x i = (0, 0) := by unfold best; rw [if_pos (by have := hr.1; omega)]
    rw [this]
    exact ⟨rfl, Below.refl _ _⟩
theorem add_both (b off len cap i g : Nat) (x : Txt) (w : World) (hr : Rd w (some ⟨b, off, none⟩) len x) (hcap : len ≤ cap) (hm : cap ≤ 9223372036854775807) (hi : i < len) (hl : len ≤ 65536) (ht : Tbl w g x (min i (len - 3))) :
    Calls Tryz.prog 52 #[.pointer (some ⟨g, 0, none⟩), .slice (some ⟨b, off, none⟩) len cap, .int .i64 (i : Int)] w fun e w' => e = .returned (.tuple #[]) ∧ Tbl w' g x (min (i + 1) (len - 3)) ∧ w.grownBy w' (some g) := by
  by_cases h : i + 4 ≤ len
  · rw [show min i (len - 3) = i by omega] at ht
    rw [show min (i + 1) (len - 3) = i + 1 by omega]
    exact add_any b off len cap i g x w hr hcap hm h hl ht
  · refine (add_few _ len cap i g w (by omega) hl (by omega)).mono ?_
    rintro e w' ⟨rfl, rfl⟩
    rw [show min (i + 1) (len - 3) = min i (len - 3) by omega]
    exact ⟨rfl, ht, World.grownBy.refl _ _⟩
theorem good_bytes (ts : List Tok) : ∀ h n, n ≤ 65536 → Good ts h n → (bytesOf ts).length + 28 * h ≤ 28 * n := by
  induction ts with
  | nil => intro h n _ e; simp only [Good] at e; subst e; simp [bytesOf]
  | cons t r ih =>
    intro h n hn e
    obtain ⟨h1, h2, h3⟩ := e
    have hi := ih _ _ hn h3
    have ha := ok_adv t h n h2 h1
    rw [bytesOf_cons, List.length_append]
    have hp : (putTok t).length ≤ t.lit.length + 27 := by
      unfold putTok
      have e1 := (put_nine t.lit.length (by omega)).2
      rw [List.length_append, List.length_append]
      split
      · simp; omega
      · rename_i hb
        rcases h2 with ⟨hb', _⟩ | ⟨q1, q2, q3, q4, q5, q6, q7⟩
        · exact absurd hb' hb
        · have e2 := (put_nine (t.len - 4).toNat (by omega)).2
          have e3 := (put_nine t.dist.toNat (by omega)).2
          rw [List.length_append]; omega
    omega
theorem own_off {w : World} {base g c : Nat} {v : Value} {bs : List (BitVec 8)} {x : Txt} (ho : Own w base v bs) (ht : Tbl w g x c) : ∀ i, v.ownBlock = some i → i ≠ g := by
  intro i hv e
  subst e
  obtain ⟨A, h1, _⟩ := ht
  rcases ho.2 with ⟨h2, _⟩ | ⟨k, cap, cur, h2, _, h3, _⟩
  · rw [h2] at hv; cases hv
  · rw [h2] at hv
    have : k = i := Option.some.inj hv
    subst this
    rw [h1] at h3
    have h4 := congrArg (fun o => match o with | some (Obj.cells _ t _) => t | _ => 0) h3
    revert h4
    simp
set_option maxHeartbeats 1000000 in
set_option maxRecDepth 100000 in
theorem encode_any (a : Option Addr) (len cap : Nat) (x : Txt) (w : World) (hr : Rd w a len x) (hcap : len ≤ cap) (hm : cap ≤ 9223372036854775807) (hl : len ≤ 65536) (hz : a = none → len = 0 ∧ cap = 0) :
    Calls Tryz.prog 14 #[.slice a len cap] w fun e w' => ∃ v, e = .returned (.tuple #[v, .int .i64 0]) ∧ Own w' w.heap.size v (bytesOf (ownFrom x 0 0)) ∧ Below w.heap.size w w' := by
  have HR := hide hr
  have HL := hide hr.1
  clear hr
  obtain ⟨i0, hi, hz0, hz1, hz2⟩ := info_parts info8
  have hli : ¬ (65536 : Int) < (len : Int) := by omega
  obtain ⟨bd, hbd, hbd2⟩ : ∃ bd : Nat, bound (len : Int) = (bd : Int) ∧ bd ≤ 65541 := by
    unfold bound
    split
    · exact ⟨0, rfl, by omega⟩
    · split
      · exact ⟨len + 1, by omega, by omega⟩
      · split
        · exact ⟨len + 2, by omega, by omega⟩
        · exact ⟨len + 5, by omega, by omega⟩
  have HBO : Hid (Calls Tryz.prog 49 #[.int .i64 (len : Int)] w fun e w' => e = .returned (.int .i64 (bd : Int)) ∧ w' = w) := by
    have h := bound_any (len : Int) w
    rw [hbd] at h; exact h
  clear hbd
  go_enter Tryz.func14, Tryz.ntmps14
  go_wp2_with fail
  refine HBO.out.mono ?_
  rintro e w0 ⟨rfl, rfl⟩
  clear HBO
  obtain ⟨cs, hcs, HCS⟩ := zero_places
  go_wp2_with (at_make; refine wpList_make_own _ rfl _ _ 24 rfl w0.heap.size 5 i0 (.int .u8 0) 1 Tryz.underlying24 hi hz0 hz1 .i64 .i64 _ bd rfl rfl rfl (by rw [hz2]; omega) (by unfold maxLen; omega) (Nat.le_refl _) ?_
               intro w1 hown hgrow
               have HO1 : Hid (Own w1 w0.heap.size (.slice (some ⟨w0.heap.size, 0, none⟩) 0 bd) []) := hown
               have HB1 : Hid (Below w0.heap.size w0 w1) := (Below.refl _ _).grown hgrow (Nat.le_refl _) (by intro k h; cases h)
               clear hown hgrow)
  have HT0 := hide (tbl_new w1 cs x HCS.out)
  have HB2 : Hid (Below w0.heap.size w0 (w1.alloc (.cells cs 93))) := HB1.out.alloc HB1.out.size _
  have HO2 : Hid (Own (w1.alloc (.cells cs 93)) w0.heap.size (.slice (some ⟨w0.heap.size, 0, none⟩) 0 bd) []) := HO1.out.below ((Below.refl _ _).alloc (Nat.le_refl _) _)
  have hgw : w0.heap.size ≤ w1.heap.size := HB1.out.size
  have HT0' : Hid (Tbl (w1.alloc (.cells cs 93)) w1.heap.size x (min 0 (len - 3))) := by rw [Nat.zero_min]; exact HT0
  have HGB := hide (fun ts h => good_bytes ts 0 len (by omega) h)
  have HTOT : Hid ((bytesOf (ownFrom x 0 0)).length ≤ 1835008) := by
    have h1 := (own_good x (by have := HL.out; omega) x.length 0 0 (by omega) (Nat.le_refl _) (Nat.zero_le _)).1
    rw [HL.out] at h1
    have := HGB.out _ h1
    show _ ≤ _
    omega
  clear HCS hcs HT0 HB1 HO1 HGB
  generalize w1.heap.size = g at hgw HT0'
  go_loopg [4, 6, 7] len (fun gq s4 s6 s7 wr => ∃ (i frm : Nat) (va : Option Addr) (vn vc : Nat) (O : Txt), len - i ≤ gq ∧ i ≤ len ∧ frm ≤ i ∧ s7 = .int .i64 (i : Int) ∧ s6 = .int .i64 (frm : Int) ∧ s4 = .slice va vn vc ∧ Hid (Own wr w0.heap.size (.slice va vn vc) O) ∧ Hid (O ++ bytesOf (ownFrom x i frm) = bytesOf (ownFrom x 0 0)) ∧ Hid (Tbl wr g x (min i (len - 3))) ∧ Hid (Below w0.heap.size w0 wr))
  case atStart => exact ⟨0, 0, _, _, _, [], by omega, Nat.zero_le _, Nat.le_refl _, rfl, rfl, rfl, HO2, rfl, HT0', HB2⟩
  case round =>
    clear HT0' HB2 HO2
    obtain ⟨i, frm, va, vn, vc, O, hgi, hil, hfi, rfl, rfl, rfl, HO, HE, HT, HB⟩ := hrel
    by_cases hlt : i < len
    · obtain ⟨b, off, rfl, hblt, _⟩ := HR.out.2.2 (by omega)
      have hlti : (i : Int) < (len : Int) := by omega
      obtain ⟨gq, rfl⟩ : ∃ gq, gk = gq + 1 := ⟨gk - 1, by omega⟩
      have HM := hide (match_both b off len cap i g x wr (HR.out.below HB.out) hcap hm hlt hl HT.out)
      have hfit := best_fits x i
      have HFIT := hide hfit
      have HOM := hide (own_match x i frm (by have := HL.out; omega))
      have HOS := hide (own_skip x i frm (by have := HL.out; omega))
      clear hfit
      generalize best x i = bb at HM HFIT HOM HOS
      obtain ⟨bd', bl⟩ := bb
      simp only at HM HFIT HOM HOS
      go_wp2_with fail
      refine HM.out.mono ?_
      rintro e w2 ⟨rfl, hb2⟩
      have HB2 := hide (below_trans HB.out hb2)
      have HO2 := hide (HO.out.below hb2)
      have HT2 := hide (HT.out.below hb2)
      have hsz2 := HB2.out.size
      clear hb2 HM HO HT HB
      by_cases hbl : bl = 0
      · subst hbl
        have HE2 : Hid (O ++ bytesOf (ownFrom x (i + 1) frm) = bytesOf (ownFrom x 0 0)) := by
          show _ = _; rw [← HOS.out (by omega)]; exact HE.out
        clear HOM HOS HE HFIT
        go_wp2_with fail
        go_loopg [7, 44] 1 (fun g2 s7 s44 wy => ∃ k : Nat, k + g2 = 1 ∧ s44 = .int .i64 (k : Int) ∧ s7 = .int .i64 ((i + k : Nat) : Int) ∧ Hid (Own wy w0.heap.size (.slice va vn vc) O) ∧ Hid (Tbl wy g x (min (i + k) (len - 3))) ∧ Hid (Below w0.heap.size w0 wy))
        case atStart => exact ⟨0, by omega, rfl, rfl, HO2, HT2, HB2⟩
        case round =>
          clear HO2 HT2 HB2
          obtain ⟨k, hkg, rfl, rfl, HOy, HTy, HBy⟩ := hrel
          obtain ⟨ik, hik⟩ : ∃ ik, i + k = ik := ⟨_, rfl⟩
          rw [hik] at HTy ⊢
          cases gk with
          | zero =>
            have hkm : i + 1 = ik := by omega
            rw [hkm] at HE2
            have hkk : ¬ ((k : Int) < (1 : Int)) := by omega
            go_wp2_with fail
            go_roundg gq
            case measure => omega
            case rel => exact ⟨ik, frm, va, vn, vc, O, by omega, by omega, by omega, by first | rfl | go_num, by first | rfl | go_num, rfl, HOy, HE2, HTy, HBy⟩
          | succ g2 =>
            have hkk : (k : Int) < (1 : Int) := by omega
            have hikl : (ik : Int) ≤ 65536 := by omega
            have HAD := hide (add_both b off len cap ik g x wr (HR.out.below HBy.out) hcap hm (by omega) hl HTy.out)
            go_wp2_with fail
            refine HAD.out.mono ?_
            rintro e w5 ⟨rfl, ht5, hg5⟩
            have HT5 := hide ht5
            have HB5 : Hid (Below w0.heap.size w0 w5) := HBy.out.grown hg5 HBy.out.size (fun q e => by cases e; exact hgw)
            have HO5 : Hid (Own w5 w0.heap.size (.slice va vn vc) O) := Base.keep HOy.out hg5 (fun q r e1 e2 e => by cases e2; exact own_off HOy.out HTy.out q e1 e)
            clear ht5 hg5 HAD
            go_wp2_with fail
            go_roundg g2
            case measure => omega
            case rel => exact ⟨k + 1, by omega, by first | rfl | go_num, by rw [← Nat.add_assoc, hik]; first | rfl | go_num, HO5, by rw [← Nat.add_assoc, hik]; exact HT5, HB5⟩
      · obtain ⟨f1, f2, f3, f4, f5, f6⟩ : 1 ≤ bd' ∧ bd' ≤ 32768 ∧ bd' ≤ i ∧ 4 ≤ bl ∧ bl ≤ 259 ∧ i + bl ≤ len := by
          rcases HFIT.out with h | h
          · simp at h; omega
          · have := HL.out; simp only at h; omega
        have HE1 := hide (HOM.out (by omega))
        obtain ⟨la, hsl, hla, hls, hlb⟩ := slice_lhm b off len cap frm (i - frm) i (by omega) (by omega)
        have HLA := hide (rd_sub (HR.out.below HB2.out) (p := frm) (c := i - frm) (by omega) hla)
        have hble : (0 : Int) < (bl : Int) := by omega
        have hmax : max (bl : Int) 1 = (bl : Int) := by omega
        have hmax2 : (if (bl : Int) < 1 then 1 else (bl : Int)) = (bl : Int) := by rw [if_neg (by omega)]
        have hmax3 : (if (1 : Int) < (bl : Int) then (bl : Int) else 1) = (bl : Int) := by rw [if_pos (by omega)]
        have HOL : Hid (O.length ≤ 1835008) := by
          have h1 := congrArg List.length HE.out
          rw [List.length_append] at h1
          have := HTOT.out
          show _ ≤ _; omega
        have HAP : Hid (0 < i - frm → ∀ ad, some la = some ad → (Value.slice va vn vc).ownBlock ≠ some ad.block) := by
          intro _ ad e e2
          cases e
          rw [hlb] at e2
          have := (blk HO2.out _ e2).1
          omega
        have HPT := hide (put_tok w0.heap.size (.slice va vn vc) O (some la) (i - frm) (i - frm) ⟨(x.drop frm).take (i - frm), (bd' : Int), (bl : Int)⟩ w2 HO2.out HLA.out (fun h => by cases h) HAP.out (.inr ⟨by simp only; omega, by simp only; omega⟩) (by simp only; omega) (by simp only; omega) (by have h1 := HOL.out; have h2 := HLA.out.1; simp only; omega) hsz2)
        clear hla hls hlb hbl HFIT HOM HOS
        go_wp2_with fail
        refine HPT.out.mono ?_
        rintro e w3 ⟨v3, rfl, hext⟩
        obtain ⟨v3a, v3n, v3c, rfl, _⟩ := own_named hext.1
        have HO3 := hide hext.1
        have HB3 : Hid (Below w0.heap.size w0 w3) := HB2.out.grown hext.2.1 HB2.out.size (own_blk HO2.out)
        have HT3 : Hid (Tbl w3 g x (min i (len - 3))) := HT2.out.grown hext.2.1 (fun e => own_off HO2.out HT2.out g e rfl)
        have HE2 : Hid (O ++ putTok ⟨(x.drop frm).take (i - frm), (bd' : Int), (bl : Int)⟩ ++ bytesOf (ownFrom x (i + bl) (i + bl)) = bytesOf (ownFrom x 0 0)) := by
          show _ = _
          rw [List.append_assoc, ← bytesOf_cons, ← HE1.out]; exact HE.out
        clear hext HPT HO2 HT2 HB2 HE HE1
        generalize O ++ putTok ⟨(x.drop frm).take (i - frm), (bd' : Int), (bl : Int)⟩ = O3 at HO3 HE2
        go_wp2_with fail
        go_loopg [7, 44] bl (fun g2 s7 s44 wy => ∃ k : Nat, k + g2 = bl ∧ s44 = .int .i64 (k : Int) ∧ s7 = .int .i64 ((i + k : Nat) : Int) ∧ Hid (Own wy w0.heap.size (.slice v3a v3n v3c) O3) ∧ Hid (Tbl wy g x (min (i + k) (len - 3))) ∧ Hid (Below w0.heap.size w0 wy))
        case atStart => exact ⟨0, by omega, rfl, rfl, HO3, HT3, HB3⟩
        case round =>
          clear HO3 HT3 HB3
          obtain ⟨k, hkg, rfl, rfl, HOy, HTy, HBy⟩ := hrel
          obtain ⟨ik, hik⟩ : ∃ ik, i + k = ik := ⟨_, rfl⟩
          rw [hik] at HTy ⊢
          cases gk with
          | zero =>
            have hkm : i + bl = ik := by omega
            rw [hkm] at HE2
            have hkk : ¬ ((k : Int) < (bl : Int)) := by omega
            go_wp2_with fail
            go_roundg gq
            case measure => omega
            case rel => exact ⟨ik, ik, v3a, v3n, v3c, O3, by omega, by omega, by omega, by first | rfl | go_num, by first | rfl | go_num, rfl, HOy, HE2, HTy, HBy⟩
          | succ g2 =>
            have hkk : (k : Int) < (bl : Int) := by omega
            have hikl : (ik : Int) ≤ 65536 := by omega
            have HAD := hide (add_both b off len cap ik g x wr (HR.out.below HBy.out) hcap hm (by omega) hl HTy.out)
            go_wp2_with fail
            refine HAD.out.mono ?_
            rintro e w5 ⟨rfl, ht5, hg5⟩
            have HT5 := hide ht5
            have HB5 : Hid (Below w0.heap.size w0 w5) := HBy.out.grown hg5 HBy.out.size (fun q e => by cases e; exact hgw)
            have HO5 : Hid (Own w5 w0.heap.size (.slice v3a v3n v3c) O3) := Base.keep HOy.out hg5 (fun q r e1 e2 e => by cases e2; exact own_off HOy.out HTy.out q e1 e)
            clear ht5 hg5 HAD
            go_wp2_with fail
            go_roundg g2
            case measure => omega
            case rel => exact ⟨k + 1, by omega, by first | rfl | go_num, by rw [← Nat.add_assoc, hik]; first | rfl | go_num, HO5, by rw [← Nat.add_assoc, hik]; exact HT5, HB5⟩
    · have hie : i = len := by omega
      have hlti : ¬ (i : Int) < (len : Int) := by omega
      have HEN := hide (own_end x i frm (by have := HL.out; omega))
      by_cases hf : frm < len
      · obtain ⟨b, off, rfl, hblt, _⟩ := HR.out.2.2 (by omega)
        have hfi2 : (frm : Int) < (len : Int) := by omega
        have HE1 : Hid (O ++ putTok ⟨x.drop frm, 0, 0⟩ = bytesOf (ownFrom x 0 0)) := by
          have h := HE.out
          rw [HEN.out, if_pos (by have := HL.out; omega)] at h
          rw [show bytesOf [(⟨x.drop frm, 0, 0⟩ : Tok)] = putTok ⟨x.drop frm, 0, 0⟩ by simp [bytesOf]] at h
          exact h
        obtain ⟨la, hsl, hla, hls, hlb⟩ := slice_lhm b off len cap frm (len - frm) len (by omega) (by omega)
        have HLA : Hid (Rd wr (some la) (len - frm) (x.drop frm)) := by
          have h := rd_sub (HR.out.below HB.out) (p := frm) (c := len - frm) (by omega) hla
          rw [List.take_of_length_le (by have := HL.out; rw [List.length_drop]; omega)] at h
          exact h
        have HOL : Hid (O.length ≤ 1835008) := by
          have h1 := congrArg List.length HE.out
          rw [List.length_append] at h1
          have := HTOT.out
          show _ ≤ _; omega
        have HAP : Hid (0 < len - frm → ∀ ad, some la = some ad → (Value.slice va vn vc).ownBlock ≠ some ad.block) := by
          intro _ ad e e2
          cases e
          rw [hlb] at e2
          have := (blk HO.out _ e2).1
          omega
        have HPT := hide (put_tok w0.heap.size (.slice va vn vc) O (some la) (len - frm) (len - frm) ⟨x.drop frm, 0, 0⟩ wr HO.out HLA.out (fun h => by cases h) HAP.out (.inl ⟨rfl, rfl⟩) (by simp only; omega) (by simp only; omega) (by have h1 := HOL.out; have h2 := HLA.out.1; simp only; omega) HB.out.size)
        clear hla hls hlb hie HE HEN
        go_wp2_with fail
        refine HPT.out.mono ?_
        rintro e w3 ⟨v3, rfl, hext⟩
        have HO3 := hide hext.1
        have HB3 : Hid (Below w0.heap.size w0 w3) := HB.out.grown hext.2.1 HB.out.size (own_blk HO.out)
        clear hext HPT
        go_wp2_with fail
        go_ret2
        exact ⟨_, rfl, by rw [← HE1.out]; exact HO3.out, HB3.out⟩
      · have hfi2 : ¬ (frm : Int) < (len : Int) := by omega
        have HE1 : Hid (O = bytesOf (ownFrom x 0 0)) := by
          have h := HE.out
          rw [HEN.out, if_neg (by have := HL.out; omega)] at h
          show _ = _
          simpa [bytesOf] using h
        clear hie HE HEN
        go_wp2_with fail
        go_ret2
        exact ⟨_, rfl, by rw [← HE1.out]; exact HO.out, HB.out⟩
end Go.Proofs.YthdblnfohbldcaaGreat.Lz
