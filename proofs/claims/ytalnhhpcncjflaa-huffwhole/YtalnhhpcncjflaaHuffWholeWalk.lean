/-
  The walk of the statement HuffWhole.
-/
import Derived.Test.YtalnhhpcncjflaaHuffW1
import Derived.Test.YtalnhhpcncjflaaHuffE8
namespace Go.Proofs.Ytalnhhpcncjflaa.huffWhole
open Go.ChangeShapes Go.WideShapes Go.ChangeAt Go.RowKit
open Go.Proofs.Ytalnhhpcncjflaa.Base Go.Proofs.Ytalnhhpcncjflaa.Pm
set_option linter.unusedVariables false
theorem own_shape {w : World} {base : Nat} {v : Value} {xs : List Int} (h : Pm.OwnI w base v xs) : ∃ a c, v = .slice a xs.length c := by
  rcases h.2 with ⟨h1, h2⟩ | ⟨g, c, cur, h1, _⟩
  · exact ⟨none, 0, by rw [h1, h2]⟩
  · exact ⟨_, c, h1⟩
theorem bentOf_in30 (xs : List Int) : Huff.allIn 1073741824 (bentOf xs) = true := by
  unfold Huff.allIn bentOf
  rw [List.all_eq_true]
  intro x hx
  obtain ⟨c, _, rfl⟩ := List.mem_map.1 hx
  have := bend_in c
  rw [decide_eq_true_iff]; omega
theorem drewN_moreW {w wr : World} (h : ∃ m, wr = w.drewN m) (n : Nat) : ∃ m, wr.drewN n = w.drewN m := by
  obtain ⟨m, rfl⟩ := h
  exact ⟨m + n, by simp [World.drewN, Nat.add_assoc]⟩
theorem twice_set (cs : List Int) (n k : Nat) (hn : cs.length = n) (hk : k < n) : ((twice cs).take k ++ List.replicate (n - k) 0).set k (2 * cs.getD k 0) = (twice cs).take (k + 1) ++ List.replicate (n - (k + 1)) 0 := by
  have hl : ((twice cs).take k).length = k := by rw [List.length_take, twice_len]; omega
  have hg : (twice cs).getD k 0 = (twice cs)[k]'(by rw [twice_len]; omega) := by rw [List.getD_eq_getElem?_getD, List.getElem?_eq_getElem (by rw [twice_len]; omega)]; rfl
  rw [List.set_append_right _ _ (by omega), hl, Nat.sub_self, show n - k = (n - (k + 1)) + 1 by omega, List.replicate_succ, List.set_cons_zero, List.take_succ_eq_append_getElem (by rw [twice_len]; omega), ← hg, twice_get]
  simp
set_option maxHeartbeats 4000000 in
set_option maxRecDepth 100000 in
theorem walk (a0 : Option Addr) (len0 cap0 : Nat) (b0 : List Int) (n1 : Int) (w : World) (r0 : RdI w a0 len0 b0) (l0 : len0 ≤ cap0) (m0 : cap0 ≤ 17592186043904) (w1 : (Lit.int .i64 n1).wf = true) :
    Calls Try.prog 8 #[.slice a0 len0 cap0, .int .i64 n1] w fun e w' => e = .returned (.bool true) ∧ Below w.heap.size w w' := by
  have HB := hide (bent_any a0 len0 cap0 b0 w r0)
  have HL0 : Hid ((bentOf b0).length ≤ 256) := by show _ ≤ _; rw [bentOf_len]; omega
  have HIN := hide (bentOf_in b0)
  have HI3 := hide (bentOf_in30 b0)
  have HW := hide (fun W => Huff.works4_any W)
  clear r0 l0 m0 w1
  generalize bentOf b0 = cs at HB HL0 HIN HI3
  go_enter Try.func8, Try.ntmps8
  go_wp2_with fail
  refine HB.out.mono ?_
  rintro e w1 ⟨v, rfl, ho1, hb1⟩
  obtain ⟨ca, cc, hv⟩ := ownJ_shape ho1
  subst hv
  obtain ⟨hrc, hc0⟩ := ho1.rd (by have := HL0.out; omega)
  have HRC := hide hrc
  have HB1 := hide hb1
  obtain ⟨n, hn⟩ : ∃ n, cs.length = n := ⟨_, rfl⟩
  have HN := hide hn
  have hn6 : n ≤ 256 := by rw [← hn]; exact HL0.out
  rw [hn] at HRC hc0 ⊢
  have HU := hide (used_any ca n cc cs w1 HRC.out)
  have HSY : Hid ((symsTo cs n).length = (orderOf cs).length) := by show _ = _; rw [← hn]; exact (orderOf_ok cs).1.length_eq.symm
  have hOL : (orderOf cs).length ≤ 256 := Nat.le_trans (ordered_len (orderOf_ok cs)) HL0.out
  rw [HSY.out] at HU
  obtain ⟨N, hNN⟩ : ∃ N, (orderOf cs).length = N := ⟨_, rfl⟩
  rw [hNN] at HU hOL
  have HNN := hide hNN
  clear ho1 hb1 hrc hn hNN HB HSY
  go_wp2_with fail
  refine HU.out.mono ?_
  rintro e w1 ⟨rfl, rfl⟩
  have HLM := hide (limited_any n1 N w1 hOL)
  clear HU
  go_wp2_with fail
  refine HLM.out.mono ?_
  rintro e w1 ⟨top, rfl, t1, t15, hNt, rfl⟩
  have HLE := hide (lens_ok cs HL0.out HIN.out top t1 t15 (by rw [HNN.out]; exact hNt))
  have HLF := hide (lens_ok cs HL0.out HIN.out 15 (by omega) (by omega) (by rw [HNN.out]; omega))
  have HLT := hide (lens_ok (twice cs) (by rw [twice_len]; exact HL0.out) (twice_in cs HI3.out) top t1 t15 (by rw [twice_order, HNN.out]; exact hNt))
  have HML := hide (more_less cs t15 HLE.out HLF.out)
  have HTC := hide (twice_cost cs HLE.out HLT.out)
  rw [HN.out] at HML HTC
  have HNT := hide hNt
  have HLG := hide (lengths_any ca n cc cs (top : Int) w1 HRC.out hc0)
  rw [lengthsd_ok (by have := HL0.out; omega) t1 t15 HIN.out (by rw [HNN.out]; omega)] at HLG
  have HLL : Hid ((lensBy cs top).length = n) := by show _ = _; rw [lensBy_len, HN.out]
  clear HLM hNt
  go_wp2_with fail
  refine HLG.out.mono ?_
  rintro e w2 ⟨v, rfl, ho2, hb2⟩
  obtain ⟨la, lc, hv⟩ := own_shape ho2
  rw [HLL.out] at hv
  subst hv
  have HRL := hide (ho2.rd (by rw [HLL.out]; omega))
  have HB2 := hide (below_trans HB1.out hb2)
  have HRC2 := hide (HRC.out.below hb2)
  have e0 : ((0 : Int) != 0) = false := by decide
  have enn : ((n : Int) != (n : Int)) = false := by simp
  have HKR := hide (fun W h => kraft_any la n lc (lensBy cs top) W h hn6)
  have HK2 : Hid (2 ≤ N → kraftTo (lensBy cs top) n = 32768) := fun h => by have := HLE.out.whole (by rw [HNN.out]; exact h); rwa [HN.out] at this
  have HK1 : Hid (N < 2 → kraftTo (lensBy cs top) n = N * 16384) := fun h => by have := HLE.out.one (by rw [HNN.out]; exact h); rwa [HN.out, HNN.out] at this
  clear ho2 hb2 HLG HB1 HRC
  go_wp2_with fail
  refine (HKR.out _ HRL.out).mono ?_
  rintro e w2 ⟨rfl, rfl⟩
  have HRL2 := hide HRL.out
  have HRL3 := hide HRL.out
  by_cases h2 : N < 2
  all_goals
    first
      | (have hk := HK1.out h2
         rw [hk]
         have h2i : (N : Int) < 2 := by omega
         go_wp2_with (go_at_call 14; refine (HKR.out _ HRL2.out).mono ?_; rintro e w2 ⟨rfl, rfl⟩; rw [hk]))
      | (have hk := HK2.out (by omega)
         rw [hk]
         have h2i : ¬ (N : Int) < 2 := by omega
         go_wp2_with fail)
    clear HKR HRL HRL2
    have HRL := hide HRL3.out
    go_loopw [11, 12] (fun i _ wr => ∃ k : Nat, k ≤ n ∧ i = .int .i64 (k : Int) ∧ Hid (∃ m, wr = w2.drewN m)) (fun i _ _ => n - (intOf i).toNat)
    case atStart => exact ⟨0, Nat.zero_le _, rfl, 0, rfl⟩
    case round =>
      obtain ⟨i, hi, rfl, HD⟩ := hrel
      by_cases hlt : i < n
      · have hii : (i : Int) < (n : Int) := by omega
        go_wp2_with fail
        go_loopw [12] (fun k wy => ∃ q : Nat, q ≤ n ∧ k = .int .i64 (q : Int) ∧ Hid (∃ m, wy = w2.drewN m)) (fun k _ => n - (intOf k).toNat)
        case atStart => exact ⟨0, Nat.zero_le _, rfl, HD⟩
        case round =>
          clear HD
          obtain ⟨q, hq, rfl, HD⟩ := hrel
          by_cases hqt : q < n
          · have hqi : (q : Int) < (n : Int) := by omega
            obtain ⟨b1, o1, rfl, hb1, hc1⟩ := HRC2.out.2.2 (by omega)
            obtain ⟨b3, o3, rfl, hb3, hc3⟩ := HRL.out.2.2 (by omega)
            have g1 : wr.cell? ⟨b1, o1 + i, none⟩ = some (.int .i64 (cs.getD i 0)) := by obtain ⟨m, hm⟩ := HD.out; rw [hm]; exact hc1 i hlt
            have g2 : wr.cell? ⟨b1, o1 + q, none⟩ = some (.int .i64 (cs.getD q 0)) := by obtain ⟨m, hm⟩ := HD.out; rw [hm]; exact hc1 q hqt
            have g3 : wr.cell? ⟨b3, o3 + i, none⟩ = some (.int .i64 ((lensBy cs top).getD i 0)) := by obtain ⟨m, hm⟩ := HD.out; rw [hm]; exact hc3 i hlt
            have g4 : wr.cell? ⟨b3, o3 + q, none⟩ = some (.int .i64 ((lensBy cs top).getD q 0)) := by obtain ⟨m, hm⟩ := HD.out; rw [hm]; exact hc3 q hqt
            have hdn := HLE.out.down i q (by rw [HN.out]; exact hlt) (by rw [HN.out]; exact hqt)
            generalize cs.getD i 0 = Ci at g1 hdn
            generalize cs.getD q 0 = Cq at g2 hdn
            generalize (lensBy cs top).getD i 0 = Li at g3 hdn
            generalize (lensBy cs top).getD q 0 = Lq at g4 hdn
            clear hc1 hc3
            by_cases hC : Cq < Ci
            · have d1 : decide (Cq < Ci) = true := by rw [decide_eq_true_iff]; exact hC
              by_cases hP : 0 < Cq
              · have d2 : decide (0 < Cq) = true := by rw [decide_eq_true_iff]; exact hP
                have hLL := hdn hC hP
                have d3 : decide (Lq < Li) = false := by rw [decide_eq_false_iff_not]; omega
                clear hdn
                go_wp2_with fail
                go_quiet (fail)
                go_wp2_with fail
                go_roundw
                case rel => exact ⟨q + 1, by omega, by go_num, drewN_moreW HD.out nq⟩
                case measure => simp [intOf]; omega
              · have d2 : decide (0 < Cq) = false := by rw [decide_eq_false_iff_not]; exact hP
                clear hdn
                go_wp2_with fail
                go_quiet (fail)
                go_wp2_with fail
                go_roundw
                case rel => exact ⟨q + 1, by omega, by go_num, drewN_moreW HD.out nq⟩
                case measure => simp [intOf]; omega
            · have d1 : decide (Cq < Ci) = false := by rw [decide_eq_false_iff_not]; exact hC
              clear hdn
              go_wp2_with fail
              go_quiet (fail)
              go_wp2_with fail
              go_roundw
              case rel => exact ⟨q + 1, by omega, by go_num, drewN_moreW HD.out nq⟩
              case measure => simp [intOf]; omega
          · have hq0 : q = n := by omega
            subst hq0
            have hki : ¬ (q : Int) < (q : Int) := by omega
            go_wp2_with fail
            go_roundw
            case rel => exact ⟨i + 1, by omega, by go_num, HD⟩
            case measure => simp [intOf]; omega
      · have hi0 : n = i := by omega
        subst hi0
        have hki : ¬ (n : Int) < (n : Int) := by omega
        have hbd : Below w2.heap.size w2 wr := by obtain ⟨m, hm⟩ := HD.out; rw [hm]; exact below_drewN' _ _ _
        have HRC4 := hide (HRC2.out.below hbd)
        have HRL4 := hide (HRL.out.below hbd)
        have HB4 := hide (below_trans HB2.out hbd)
        have HCO := hide (Huff.cost_any ca la n cc n lc cs (lensBy cs top) wr HRC4.out HRL4.out)
        rw [Huff.costd_ok (by rw [HLL.out, HN.out]; omega) (by rw [HIN.out, HLE.out.all]; rfl), HLL.out, HN.out, Nat.min_self] at HCO
        have HLG := hide (fun W h => lengths_any ca n cc cs 15 W h hc0)
        have h15e : lengthsd cs 15 = (lensBy cs 15, 0) := lengthsd_ok (lim := 15) (by have := HL0.out; omega) (by omega) (by omega) HIN.out (by rw [HNN.out]; omega)
        rw [h15e] at HLG
        obtain ⟨CO, hCO⟩ : ∃ CO, Huff.sumTo cs (lensBy cs top) n = CO := ⟨_, rfl⟩
        rw [hCO] at HCO HML HTC
        have HLL5 : Hid ((lensBy cs 15).length = n) := by show _ = _; rw [lensBy_len, HN.out]
        have HCOB := hide (Huff.sumTo_in cs (lensBy cs top) HIN.out HLE.out.all n (by rw [HN.out]; omega) (by rw [HLL.out]; omega))
        rw [hCO] at HCOB
        have hco0 : 0 ≤ CO := HCOB.out.1
        have hco1 : CO ≤ 4222124650659840 := by have := HCOB.out.2; have : (n : Int) * 16492674416640 ≤ 256 * 16492674416640 := Int.mul_le_mul_of_nonneg_right (by omega) (by decide); omega
        clear h15e hCO HCOB
        clear hbd HD HRC2 HRL HB2 HK1 HK2 hk
        go_wp2_with fail
        refine HCO.out.mono ?_
        rintro e w3 ⟨rfl, hb3⟩
        have HRC5 := hide (HRC4.out.below hb3)
        have HB5 := hide (below_trans HB4.out hb3)
        clear hb3 HRC4 HRL4 HB4 HCO
        go_wp2_with fail
        refine (HLG.out _ HRC5.out).mono ?_
        rintro e w4 ⟨v, rfl, ho4, hb4⟩
        obtain ⟨ma, mc, hv⟩ := own_shape ho4
        try simp only [] at hv
        rw [HLL5.out] at hv
        subst hv
        have HRM := hide (ho4.rd (by rw [HLL5.out]; omega))
        have HRC6 := hide (HRC5.out.below hb4)
        have HB6 := hide (below_trans HB5.out hb4)
        have HC5 := hide (Huff.cost_any ca ma n cc n mc cs (lensBy cs 15) w4 HRC6.out HRM.out)
        rw [Huff.costd_ok (by rw [HLL5.out, HN.out]; omega) (by rw [HIN.out, HLF.out.all]; rfl), HLL5.out, HN.out, Nat.min_self] at HC5
        generalize Huff.sumTo cs (lensBy cs 15) n = LE at HC5 HML
        have hle : LE ≤ CO := HML.out
        clear ho4 hb4 HRC5 HB5 HLG HML
        go_wp2_with fail
        refine HC5.out.mono ?_
        rintro e w5 ⟨rfl, hb5⟩
        have HRC7 := hide (HRC6.out.below hb5)
        have HB7 := hide (below_trans HB6.out hb5)
        clear hb5 HRC6 HB6 HC5 HRM
        have hmk := make_row_i64 n (n : Int) rfl (by omega) w5
        have HR8 : Hid (RowI 2 (w5.alloc (.cells (ivals (List.replicate n 0)).toArray 2)) w5.heap.size (List.replicate n 0)) := rowi_new _ _ _
        have HB8 : Hid (Below w5.heap.size w5 (w5.alloc (.cells (ivals (List.replicate n 0)).toArray 2))) := (Below.refl _ _).alloc (Nat.le_refl _) _
        obtain ⟨gm, hgm⟩ : ∃ gm, w5.heap.size = gm := ⟨_, rfl⟩
        rw [hgm] at hmk HR8 HB8
        have HGM := hide hgm
        obtain ⟨w6, hw6⟩ : ∃ w6, w5.alloc (.cells (ivals (List.replicate n 0)).toArray 2) = w6 := ⟨_, rfl⟩
        rw [hw6] at hmk HR8 HB8
        clear hw6 hgm
        go_wp2_with fail
        clear hmk
        go_loopw [20] (fun i wz => ∃ k : Nat, k ≤ n ∧ i = .int .i64 (k : Int) ∧ Hid (RowI 2 wz gm ((twice cs).take k ++ List.replicate (n - k) 0)) ∧ Hid (Below gm w5 wz)) (fun i _ => n - (intOf i).toNat)
        case atStart => exact ⟨0, Nat.zero_le _, rfl, by rw [List.take_zero, List.nil_append, Nat.sub_zero]; exact HR8, HB8⟩
        case round =>
          clear HR8 HB8
          obtain ⟨k, hk, rfl, HR, HBM⟩ := hrel
          by_cases hlt : k < n
          · have hki : (k : Int) < (n : Int) := by omega
            obtain ⟨b1, o1, rfl, hb1, hc1⟩ := HRC7.out.2.2 (by omega)
            have g1 := hc1 k hlt
            rw [← HBM.out.cell (p := ⟨b1, o1 + k, none⟩) (by show b1 < gm; rw [← HGM.out]; exact hb1)] at g1
            have hin := Huff.allIn_get HI3.out k (by rw [HN.out]; exact hlt)
            have HST := hide (twice_set cs n k HN.out hlt)
            have f1 := HR.out.frozen k
            have c1 := HR.out.cell k (by rw [List.length_append, List.length_take, twice_len, HN.out, List.length_replicate]; omega)
            generalize ((twice cs).take k ++ List.replicate (n - k) 0).getD k 0 = X at c1
            generalize cs.getD k 0 = C at g1 HST hin
            have hC0 : 0 ≤ C := hin.1
            have hC1 : C ≤ 1073741824 := hin.2
            clear hc1 hin
            go_wp2_with fail
            go_roundw
            case rel => exact ⟨k + 1, by omega, by go_num, by rw [← HST.out]; exact HR.out.store k _, HBM.out.setCell (Nat.le_refl _) _⟩
            case measure => simp [intOf]; omega
          · have hk0 : k = n := by omega
            subst hk0
            rw [Nat.sub_self, List.replicate_zero, List.append_nil, List.take_of_length_le (by rw [twice_len, HN.out]; exact Nat.le_refl _)] at HR
            have HBZ : Hid (Below w.heap.size w wr) := HB7.out.trans (HBM.out.mono (by rw [← HGM.out]; exact HB7.out.size))
            have HRT : Hid (RdI wr (some ⟨gm, 0, none⟩) k (twice cs)) := by
              have := HR.out.rd k (by rw [twice_len, HN.out]; omega) (by omega)
              rwa [List.take_of_length_le (by rw [twice_len, HN.out]; exact Nat.le_refl _)] at this
            have HLG := hide (lengths_any (some ⟨gm, 0, none⟩) k k (twice cs) (top : Int) wr HRT.out (fun e => by cases e))
            rw [lengthsd_ok (by rw [twice_len]; have := HL0.out; omega) t1 t15 (twice_in cs HI3.out) (by rw [twice_order, HNN.out]; have := HNT.out; omega)] at HLG
            have HLLT : Hid ((lensBy (twice cs) top).length = k) := by show _ = _; rw [lensBy_len, twice_len, HN.out]
            go_wp2_with fail
            refine HLG.out.mono ?_
            rintro e w7 ⟨v, rfl, ho7, hb7⟩
            obtain ⟨ta, tc, hv⟩ := own_shape ho7
            try simp only [] at hv
            rw [HLLT.out] at hv
            subst hv
            have HRG := hide (ho7.rd (by rw [HLLT.out]; omega))
            have HRT7 := hide (HRT.out.below hb7)
            have HBY := hide (below_trans HBZ.out hb7)
            have HC7 := hide (Huff.cost_any (some ⟨gm, 0, none⟩) ta k k k tc (twice cs) (lensBy (twice cs) top) w7 HRT7.out HRG.out)
            rw [Huff.costd_ok (by rw [HLLT.out, twice_len, HN.out]; omega) (by rw [twice_in cs HI3.out, HLT.out.all]; rfl), HLLT.out, twice_len, HN.out, Nat.min_self, HTC.out] at HC7
            clear ho7 hb7 HRT HBZ HLG
            go_wp2_with fail
            refine HC7.out.mono ?_
            rintro e w8 ⟨rfl, hb8⟩
            have HBX := hide (below_trans HBY.out hb8)
            clear hb8 HC7 HBY HRT7 HRG
            have ecc : (2 * CO == 2 * CO) = true := by simp
            go_wp2_with fail
            refine (HW.out w8).mono ?_
            rintro e w9 ⟨rfl, hb9⟩
            have HBV := hide (below_trans HBX.out hb9)
            clear hb9
            go_wp2_with fail
            go_ret
            exact ⟨rfl, HBV.out⟩
end Go.Proofs.Ytalnhhpcncjflaa.huffWhole
