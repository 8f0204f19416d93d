/-
  The document's merged.
-/
import Derived.Test.YtalnhhpcncjflaaHuffT1
namespace Go.Proofs.Ytalnhhpcncjflaa.Pm
open Go.ChangeShapes Go.WideShapes Go.ChangeAt Go.RowKit
open Go.Proofs.Ytalnhhpcncjflaa.Base
set_option linter.unusedVariables false
theorem drop_all {l : List Pk} {i : Nat} (h : l.length ≤ i) : l.drop i = [] := List.drop_eq_nil_of_le h
set_option maxHeartbeats 2000000 in
set_option maxRecDepth 100000 in
theorem refMerged_any (ba oa la ca : Nat) (ts : List Pk) (b : Option Addr) (lb cb : Nat) (ps : List Pk) (w : World) (hr : RdR w (some ⟨ba, oa, none⟩) la ts) (hq : RdR w b lb ps) (hn : la ≤ 1000) (hp : lb ≤ 1000) (hlc : la ≤ ca) (hcm : ca ≤ 9223372036854775807) :
    Calls Try.prog 35 #[.slice (some ⟨ba, oa, none⟩) la ca, .slice b lb cb] w fun e w' => ∃ v, e = .returned v ∧ OwnR w' w.heap.size v (merged ts ps) ∧ Below w.heap.size w w' := by
  have HA := hide hr
  have HQ := hide hq
  obtain ⟨d, hu, hd⟩ := uR
  have HU := hide hu
  have HTOT : Hid ((merged ts ps).length = la + lb) := by show _ = _; rw [merged_len, hr.1, hq.1]
  clear hr hq hu
  obtain ⟨g, hg⟩ : ∃ g, w.heap.size = g := ⟨_, rfl⟩
  have HG : Hid (w.heap.size = g) := hg
  have HS0 : Hid (OwnR w g (.slice none 0 0) []) := ownP_none _ _ _ _
  have HB0 : Hid (Below g w w) := Below.refl _ _
  rw [hg]
  clear hg
  go_enter Try.func35, Try.ntmps35
  go_wp2_with fail
  go_loopw [5, 6, 7] (fun l i k wr => ∃ (p q : Nat) (X : List Pk), p ≤ la ∧ q ≤ lb ∧ i = .int .i64 (p : Int) ∧ k = .int .i64 (q : Int) ∧ Hid (OwnR wr g l X) ∧ Hid (merged ts ps = X ++ merged (ts.drop p) (ps.drop q)) ∧ Hid (Below g w wr)) (fun _ _ k _ => lb - (intOf k).toNat)
  case atStart => exact ⟨0, 0, [], Nat.zero_le _, Nat.zero_le _, rfl, rfl, HS0, rfl, HB0⟩
  case round =>
    clear HS0 HB0
    obtain ⟨p, q, X, hpa, hqb, rfl, rfl, HO, HM, HB⟩ := hrel
    by_cases hlt : q < lb
    · have hqi : (q : Int) < (lb : Int) := by omega
      obtain ⟨b2, o2, rfl, hb2, hc2⟩ := HQ.out.2.2 (by omega)
      obtain ⟨y, hy⟩ : ∃ y, ps.getD q (0, []) = y := ⟨_, rfl⟩
      have HDQ : Hid (ps.drop q = y :: ps.drop (q + 1)) := by
        show _ = _
        rw [List.drop_eq_getElem_cons (by rw [HQ.out.1]; exact hlt), ← hy, List.getD_eq_getElem?_getD, List.getElem?_eq_getElem (by rw [HQ.out.1]; exact hlt)]; rfl
      have RY : Hid (w.rangeAt b2 (o2 + q * 257) (pcells .i64 y)) := by
        rw [← hy]
        exact range_one hc2 HQ.out.2.1 q (by rw [HQ.out.1]; exact hlt)
      have HYL : Hid (y.2.length = 256) := by show _ = _; rw [← hy]; exact wide_get HQ.out.2.1 q (by rw [HQ.out.1]; exact hlt)
      rw [HDQ.out] at HM
      obtain ⟨VY, hVY⟩ : ∃ VY, pcells .i64 y = VY := ⟨_, rfl⟩
      have HVY := hide hVY
      have HYV := hide (pcells_len .i64 HYL.out)
      have IY : Hid ((Try.prog.info? 68).map (·.size) = some (pcells .i64 y).length) := by show _ = _; rw [HYV.out]; exact sizeR
      have RY0 := RY.out 0 _ (pcells_w _ y)
      rw [Nat.add_zero] at RY0
      have HY0 := hide RY0
      rw [hVY] at RY HYV IY
      have hb2g : b2 < g := by rw [← HG.out]; exact hb2
      clear hy hVY hc2 RY0
      go_wp2_with fail
      go_loopw [5, 6] (fun l i wz => ∃ (p : Nat) (X : List Pk), p ≤ la ∧ i = .int .i64 (p : Int) ∧ Hid (OwnR wz g l X) ∧ Hid (merged ts ps = X ++ merged (ts.drop p) (y :: ps.drop (q + 1))) ∧ Hid (Below g w wz)) (fun _ i _ => la - (intOf i).toNat)
      case atStart => exact ⟨p, X, hpa, rfl, HO, HM, HB⟩
      case round =>
        clear HO HM HB hpa
        obtain ⟨p, X, hpa, rfl, HO, HM, HB⟩ := hrel
        have HXL : Hid (X.length ≤ 2000) := by
          show _ ≤ _
          have h1 := HTOT.out
          rw [HM.out, List.length_append] at h1
          omega
        have HBw : Hid (Below w.heap.size w wr) := by rw [HG.out]; exact HB.out
        have y0 := HY0.out
        rw [← HB.out.cell (p := ⟨b2, o2 + q * 257, none⟩) hb2g] at y0
        have hsz : g ≤ wr.heap.size := by rw [← HG.out]; exact HB.out.size
        have HRYW : Hid (wr.rangeAt b2 (o2 + q * 257) VY) := range_below RY.out HBw.out hb2
        by_cases hgo : p < la ∧ (ts.getD p (0, [])).1 ≤ y.1
        · obtain ⟨hpl, hle⟩ := hgo
          obtain ⟨b1, o1, e1, hb1, hc1⟩ := HA.out.2.2 (by omega)
          simp only [Option.some.injEq, Addr.mk.injEq, and_true] at e1
          obtain ⟨rfl, rfl⟩ := e1
          have hpi : (p : Int) < (la : Int) := by omega
          obtain ⟨t, ht⟩ : ∃ t, ts.getD p (0, []) = t := ⟨_, rfl⟩
          have HDP : Hid (ts.drop p = t :: ts.drop (p + 1)) := by
            show _ = _
            rw [List.drop_eq_getElem_cons (by rw [HA.out.1]; exact hpl), ← ht, List.getD_eq_getElem?_getD, List.getElem?_eq_getElem (by rw [HA.out.1]; exact hpl)]; rfl
          have RT : Hid (wr.rangeAt ba (oa + p * 257) (pcells .i64 t)) := by
            rw [← ht]
            exact range_below (range_one hc1 HA.out.2.1 p (by rw [HA.out.1]; exact hpl)) HBw.out hb1
          have HTL : Hid (t.2.length = 256) := by show _ = _; rw [← ht]; exact wide_get HA.out.2.1 p (by rw [HA.out.1]; exact hpl)
          rw [ht] at hle
          rw [HDP.out, merged_keep (by omega)] at HM
          have HM2 : Hid (merged ts ps = (X ++ [t]) ++ merged (ts.drop (p + 1)) (y :: ps.drop (q + 1))) := by show _ = _; rw [HM.out, List.append_assoc]; rfl
          have t0 := RT.out 0 _ (pcells_w _ t)
          rw [Nat.add_zero] at t0
          have HTV := hide (pcells_len .i64 HTL.out)
          have IT : Hid ((Try.prog.info? 68).map (·.size) = some (pcells .i64 t).length) := by show _ = _; rw [HTV.out]; exact sizeR
          obtain ⟨VT, hVT⟩ : ∃ VT, pcells .i64 t = VT := ⟨_, rfl⟩
          have HVT := hide hVT
          rw [hVT] at RT HTV IT
          obtain ⟨T1, hT1⟩ : ∃ T1, t.1 = T1 := ⟨_, rfl⟩
          obtain ⟨Y1, hY1⟩ : ∃ Y1, y.1 = Y1 := ⟨_, rfl⟩
          rw [hT1] at t0 hle
          rw [hY1] at y0 hle
          have d1 : decide ((p : Int) < (la : Int)) = true := by rw [decide_eq_true_iff]; exact hpi
          have d2 : decide ((T1 : Int) ≤ (Y1 : Int)) = true := by rw [decide_eq_true_iff]; omega
          have d3 : (T1 : Int) ≤ (Y1 : Int) := by omega
          have d4 : decide (p < la) = true := by rw [decide_eq_true_iff]; exact hpl
          have d5 : decide (T1 ≤ Y1) = true := by rw [decide_eq_true_iff]; exact hle
          clear hc1 ht hVT hT1 hY1 HM
          go_wp2_with fail
          go_quiet (fail)
          have R7 : Hid ((wr.drewN nq).rangeAt ba (oa + p * 257) VT) := fun j v hv => RT.out j v hv
          have HO7 : Hid (OwnR (wr.drewN nq) g u5 X) := HO.out
          have HB7 : Hid (Below g w (wr.drewN nq)) := below_drewN HB.out nq
          have hs7 : g ≤ (wr.drewN nq).heap.size := hsz
          obtain ⟨w7, hw7⟩ : ∃ w7, wr.drewN nq = w7 := ⟨_, rfl⟩
          rw [hw7] at R7 HO7 HB7 hs7 ⊢
          clear hw7 t0 y0 RT HO HB HBw hsz HRYW
          go_wp2_with (first
            | (refine wpList_load_mid rfl 68 (.tmp 34) rfl ba (oa + p * 257) rfl VT _ R7.out HU.out hd IT.out ?_)
            | (refine wpList_buildR rfl (.tmp 35) rfl VT HTV.out rfl ?_)
            | (refine joinR _ rfl (.tmp 31) (.tmp 36) rfl g u5 X rfl (HO7.out.below ((Below.refl _ _).alloc (Nat.le_refl _) _)) (some ⟨w7.heap.size, 0, none⟩) 1 1 [t] rfl (rdr_new w7 t HTL.out VT HVT.out) (fun h => by cases h) (by have := HXL.out; omega) (Nat.le_trans hs7 (by simp)) ?_
               intro v9 w9 ho9 hg9))
          have HO9 := hide ho9
          have HB9 : Hid (Below g w w9) := (HB7.out.alloc hs7 _).grown hg9 (Nat.le_trans hs7 (by simp)) (fun i e => (HO7.out.2.lt i e).1)
          clear ho9 hg9
          go_wp2_with fail
          go_roundw
          case rel => exact ⟨p + 1, X ++ [t], by omega, by go_num, HO9, HM2, HB9⟩
          case measure => simp [intOf]; omega
        · have HM2 : Hid (merged ts ps = (X ++ [y]) ++ merged (ts.drop p) (ps.drop (q + 1))) := by
            show _ = _
            rw [HM.out, List.append_assoc]
            congr 1
            by_cases hpl : p < la
            · rw [List.drop_eq_getElem_cons (l := ts) (by rw [HA.out.1]; exact hpl), merged_emit]
              · rfl
              · have e : (ts.getD p (0, [])) = ts[p]'(by rw [HA.out.1]; exact hpl) := by rw [List.getD_eq_getElem?_getD, List.getElem?_eq_getElem (by rw [HA.out.1]; exact hpl)]; rfl
                rw [← e]
                exact Nat.lt_of_not_le fun h => hgo ⟨hpl, h⟩
            · rw [drop_all (l := ts) (by rw [HA.out.1]; omega), nil_merged, nil_merged]; rfl
          obtain ⟨Y1, hY1⟩ : ∃ Y1, y.1 = Y1 := ⟨_, rfl⟩
          have HCASE : (¬ p < la) ∨ ∃ T1 : Nat, p < la ∧ wr.cell? ⟨ba, oa + p * 257, none⟩ = some (.int .i64 (T1 : Int)) ∧ ¬ T1 ≤ Y1 := by
            by_cases hpl : p < la
            · obtain ⟨b1, o1, e1, hb1, hc1⟩ := HA.out.2.2 (by omega)
              simp only [Option.some.injEq, Addr.mk.injEq, and_true] at e1
              obtain ⟨rfl, rfl⟩ := e1
              have RT := range_below (range_one hc1 HA.out.2.1 p (by rw [HA.out.1]; exact hpl)) HBw.out hb1
              have t0 := RT 0 _ (pcells_w _ _)
              rw [Nat.add_zero] at t0
              exact .inr ⟨_, hpl, t0, fun h => hgo ⟨hpl, by rw [hY1]; exact h⟩⟩
            · exact .inl hpl
          rw [hY1] at y0
          clear hY1 hgo HM
          rcases HCASE with hpl | ⟨T1, hpl, t0, hnl⟩
          all_goals
            first
              | (have z1 : ¬ (p : Int) < (la : Int) := by omega
                 have z2 : decide ((p : Int) < (la : Int)) = false := by rw [decide_eq_false_iff_not]; exact z1
                 have z4 : decide (p < la) = false := by rw [decide_eq_false_iff_not]; exact hpl)
              | (have z1 : (p : Int) < (la : Int) := by omega
                 have z2 : decide ((p : Int) < (la : Int)) = true := by rw [decide_eq_true_iff]; exact z1
                 have z4 : decide (p < la) = true := by rw [decide_eq_true_iff]; exact hpl
                 have z5 : decide ((T1 : Int) ≤ (Y1 : Int)) = false := by rw [decide_eq_false_iff_not]; omega
                 have z6 : decide (T1 ≤ Y1) = false := by rw [decide_eq_false_iff_not]; exact hnl)
            go_wp2_with fail
            go_quiet (fail)
            have R7 : Hid ((wr.drewN nq).rangeAt b2 (o2 + q * 257) VY) := fun j v hv => HRYW.out j v hv
            have HO7 : Hid (OwnR (wr.drewN nq) g u5 X) := HO.out
            have HB7 : Hid (Below g w (wr.drewN nq)) := below_drewN HB.out nq
            have hs7 : g ≤ (wr.drewN nq).heap.size := hsz
            obtain ⟨w7, hw7⟩ : ∃ w7, wr.drewN nq = w7 := ⟨_, rfl⟩
            rw [hw7] at R7 HO7 HB7 hs7 ⊢
            clear hw7 y0 HO HB HBw hsz HRYW
            try clear t0
            go_wp2_with (first
              | (refine wpList_load_mid rfl 68 (.tmp 43) rfl b2 (o2 + q * 257) rfl VY _ R7.out HU.out hd IY.out ?_)
              | (refine wpList_buildR rfl (.tmp 44) rfl VY HYV.out rfl ?_)
              | (refine joinR _ rfl (.tmp 40) (.tmp 45) rfl g u5 X rfl (HO7.out.below ((Below.refl _ _).alloc (Nat.le_refl _) _)) (some ⟨w7.heap.size, 0, none⟩) 1 1 [y] rfl (rdr_new w7 y HYL.out VY HVY.out) (fun h => by cases h) (by have := HXL.out; omega) (Nat.le_trans hs7 (by simp)) ?_
                 intro v9 w9 ho9 hg9))
            have HO9 := hide ho9
            have HB9 : Hid (Below g w w9) := (HB7.out.alloc hs7 _).grown hg9 (Nat.le_trans hs7 (by simp)) (fun i e => (HO7.out.2.lt i e).1)
            clear ho9 hg9
            go_wp2_with fail
            go_roundw
            case rel => exact ⟨p, q + 1, X ++ [y], hpa, by omega, rfl, by go_num, HO9, HM2, HB9⟩
            case measure => simp [intOf]; omega
    · have hq0 : q = lb := by omega
      subst hq0
      have hqi : ¬ (q : Int) < (q : Int) := by omega
      rw [drop_all (l := ps) (by rw [HQ.out.1]; exact Nat.le_refl _), merged_nil] at HM
      obtain ⟨lx, hsl, hlx, hsp⟩ := slice_from ba oa la ca p hpa hlc
      have HRX := hide (rdr_from HA.out hpa hlx)
      have HBw : Hid (Below w.heap.size w wr) := by rw [HG.out]; exact HB.out
      have HXL : Hid (X.length + (la - p) ≤ 2000) := by
        show _ ≤ _
        have h1 := HTOT.out
        rw [HM.out, List.length_append, List.length_drop, HA.out.1] at h1
        omega
      have hsz : g ≤ wr.heap.size := by rw [← HG.out]; exact HB.out.size
      go_wp2_with (first
        | (refine joinR _ rfl (.tmp 47) (.tmp 50) rfl g u5 X rfl HO.out (some lx) (la - p) (ca - p) (ts.drop p) rfl (HRX.out.below HBw.out) (fun h => by cases h) (by have := HXL.out; omega) hsz ?_
           intro v9 w9 ho9 hg9))
      have HO9 : Hid (OwnR w9 g v9 (merged ts ps)) := by rw [HM.out]; exact ho9
      have HB9 : Hid (Below g w w9) := HB.out.grown hg9 hsz (fun i e => (HO.out.2.lt i e).1)
      clear ho9 hg9
      go_wp2_with fail
      go_ret
      exact ⟨_, rfl, HO9.out, HB9.out⟩
end Go.Proofs.Ytalnhhpcncjflaa.Pm
