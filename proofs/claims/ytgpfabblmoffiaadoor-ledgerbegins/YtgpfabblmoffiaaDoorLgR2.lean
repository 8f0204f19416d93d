/-
  Check: the document's answer.
-/
import Derived.Test.YtgpfabblmoffiaaDoorLgR1
namespace Go.Proofs.YtgpfabblmoffiaaDoor.Lg
open Go.ChangeShapes Go.WideShapes Go.ChangeAt Go.RowKit
open Go.Proofs.YtgpfabblmoffiaaDoor.Base Go.Proofs.YtgpfabblmoffiaaDoor.Rf
set_option linter.unusedVariables false
set_option maxHeartbeats 4000000 in
set_option maxRecDepth 100000 in
theorem refCheck_any (b : Bk) (a1 a2 : Option Addr) (n1 c1 n2 c2 : Nat) (w : World) (hr1 : RdT w a1 n1 b.m) (hr2 : RdT w a2 n2 b.r) :
    Calls Tryd.prog 21 #[.agg #[.int .i64 b.t, .slice a1 n1 c1, .slice a2 n2 c2, .bool b.f]] w fun e w' => e = .returned (.int .i64 (chkE b)) ∧ Below w.heap.size w w' := by
  have hz : (b.t < 1) ∨ (¬ b.t < 1 ∧ 16 < b.t) ∨ (¬ b.t < 1 ∧ ¬ 16 < b.t ∧ (256 : Int) < (n1 : Int)) ∨ (¬ b.t < 1 ∧ ¬ 16 < b.t ∧ ¬ (256 : Int) < (n1 : Int) ∧ (n2 : Int) < 1) ∨ (¬ b.t < 1 ∧ ¬ 16 < b.t ∧ ¬ (256 : Int) < (n1 : Int) ∧ ¬ (n2 : Int) < 1 ∧ (65535 : Int) < (n2 : Int)) ∨ (¬ b.t < 1 ∧ ¬ 16 < b.t ∧ ¬ (256 : Int) < (n1 : Int) ∧ ¬ (n2 : Int) < 1 ∧ ¬ (65535 : Int) < (n2 : Int)) := by omega
  have HZB : Hid (¬ (¬ b.t < 1 ∧ ¬ 16 < b.t ∧ ¬ (256 : Int) < (n1 : Int) ∧ ¬ (n2 : Int) < 1 ∧ ¬ (65535 : Int) < (n2 : Int)) → chkE b = 190) := fun h => chkE_bad (chk_bad0 (by
    unfold sz
    rw [hr1.1, hr2.1]
    exact decide_eq_false (fun h2 => h ⟨by omega, by omega, by omega, by omega, by omega⟩)))
  have HZG : Hid ((¬ b.t < 1 ∧ ¬ 16 < b.t ∧ ¬ (256 : Int) < (n1 : Int) ∧ ¬ (n2 : Int) < 1 ∧ ¬ (65535 : Int) < (n2 : Int)) → sz b = true) := fun h => by
    unfold sz
    rw [hr1.1, hr2.1]
    exact decide_eq_true ⟨by omega, by omega, by omega, by omega, by omega⟩
  have hl1 := hr1.2.1
  have hl2 := hr2.2.1
  obtain ⟨w1, hw1⟩ : ∃ w1, w.alloc (.cells #[.int .i64 b.t, .slice a1 n1 c1, .slice a2 n2 c2, .bool b.f] 26) = w1 := ⟨_, rfl⟩
  have HB1 : Hid (Below w.heap.size w w1) := by rw [← hw1]; exact (Below.refl _ _).alloc (Nat.le_refl _) _
  have HC1 : Hid (BC w1 w.heap.size b.t (.slice a1 n1 c1) (.slice a2 n2 c2) b.f) := by rw [← hw1]; exact bc_new _ _ _ _ _
  have HR1 := hide hr1
  have HR2 := hide hr2
  obtain ⟨g, hg⟩ : ∃ g, w.heap.size = g := ⟨_, rfl⟩
  rw [hg] at HC1
  have HG := hide hg
  clear hr1 hr2
  have x0 := HC1.out.c0
  have x1 := HC1.out.c1
  have x2 := HC1.out.c2
  go_enter Tryd.func21, Tryd.ntmps21
  rcases hz with h1 | ⟨h1, h2⟩ | ⟨h1, h2, h3⟩ | ⟨h1, h2, h3, h4⟩ | ⟨h1, h2, h3, h4, h5⟩ | hz
  · have HX := hide (HZB.out (by omega))
    go_wp2_with fail
    go_ret
    exact ⟨ret_int HX.out.symm, by first | exact HB1.out | (have h := HB1.out; rw [HG.out] at h; exact h)⟩
  · have HX := hide (HZB.out (by omega))
    go_wp2_with fail
    go_ret
    exact ⟨ret_int HX.out.symm, by first | exact HB1.out | (have h := HB1.out; rw [HG.out] at h; exact h)⟩
  · have HX := hide (HZB.out (by omega))
    go_wp2_with fail
    go_ret
    exact ⟨ret_int HX.out.symm, by first | exact HB1.out | (have h := HB1.out; rw [HG.out] at h; exact h)⟩
  · have HX := hide (HZB.out (by omega))
    go_wp2_with fail
    go_ret
    exact ⟨ret_int HX.out.symm, by first | exact HB1.out | (have h := HB1.out; rw [HG.out] at h; exact h)⟩
  · have HX := hide (HZB.out (by omega))
    go_wp2_with fail
    go_ret
    exact ⟨ret_int HX.out.symm, by first | exact HB1.out | (have h := HB1.out; rw [HG.out] at h; exact h)⟩
  · have HSZ := hide (HZG.out hz)
    have HBN : Hid ((n1 : Int) ≤ 256 ∧ (n2 : Int) ≤ 65535 ∧ 1 ≤ b.t ∧ b.t ≤ 16) := by show _ ∧ _; omega
    obtain ⟨h1, h2, h3, h4, h5⟩ := hz
    go_wp2_with fail
    clear hw1 x0 x1 x2 h1 h2 h3 h4 h5 hg HZB HZG
    go_loopw [3, 4] (fun sp i wr => ∃ m j : Nat, m ≤ n1 ∧ i = .int .i64 (m : Int) ∧ sp = .int .i64 (j : Int) ∧ Hid (j = 0 + cnt b.t (b.m.take m)) ∧ Hid ((b.m.take m).all (good false b.t) = true) ∧ Hid (Below w.heap.size w wr) ∧ Hid (BC wr g b.t (.slice a1 n1 c1) (.slice a2 n2 c2) b.f)) (fun _ i _ => n1 - (intOf i).toNat)
    case atStart => exact ⟨0, 0, Nat.zero_le _, rfl, rfl, rfl, rfl, HB1, HC1⟩
    case round =>
      obtain ⟨m, j, hm, rfl, rfl, HJ, HAL, HB, HC⟩ := hrel
      have x0 := HC.out.c0
      have x1 := HC.out.c1
      by_cases hml : m < n1
      · have hmi : (m : Int) < (n1 : Int) := by omega
        have HAT := hide (fun W (hW : Below w.heap.size w W) => (HR1.out.below hW).at m hml)
        have HS := hide (cnt_snoc b.t b.m m (by rw [HR1.out.1]; exact hml))
        have HS2 := hide (all_snoc (good false b.t) b.m m (by rw [HR1.out.1]; exact hml))
        have HBD := hide (fun h => chk_bad1 (b := b) m (by rw [HR1.out.1]; exact hml) h)
        have HJL : Hid (j ≤ 200000) := by
          have h1 := HJ.out
          have h2 := cnt_le b.t (b.m.take m)
          have h3 := cnt_le b.t b.m
          have h4 := HR1.out.1
          have h5 := HBN.out
          rw [List.length_take] at h2
          show _ ≤ _
          omega
        generalize b.m.getD m z0 = x at HAT HS HS2 HBD
        obtain ⟨bb, oo, he, hbl, e0, e1, e2⟩ := HAT.out wr HB.out
        have HA9 := hide he
        rw [he] at x1
        have HATW : Hid (∀ W, Below wr.heap.size wr W → W.cell? ⟨g, 0, none⟩ = some (.int .i64 b.t) ∧ W.cell? ⟨g, 1, none⟩ = some (.slice (some ⟨bb, oo, none⟩) n1 c1) ∧ W.cell? ⟨bb, oo + m * 3, none⟩ = some (.int .i64 x.s) ∧ W.cell? ⟨bb, oo + m * 3 + 1, none⟩ = some (.int .i64 x.a) ∧ W.cell? ⟨bb, oo + m * 3 + 2, none⟩ = some (.int .i64 x.c)) := fun W hW => by
          obtain ⟨b', o', e', -, f0, f1, f2⟩ := HAT.out W (below_trans HB.out hW)
          have h2 := HC.out.below hW
          rw [he] at e'
          cases e'
          rw [he] at h2
          exact ⟨h2.c0, h2.c1, f0, f1, f2⟩
        have hb4 := HBN.out.2.2.2
        have hj2 := HJL.out
        have HGD := hide (fun W => refGood_any false x b.t W hb4)
        clear he hbl
        rcases Bool.eq_false_or_eq_true (good false b.t x) with hg | hg
        · have HG2 := hide hg
          by_cases hct : x.c = b.t
          · have hctb : (x.c == b.t) = true := by simpa using hct
            have HSS := hide (HS.out.trans (by rw [if_pos hct]))
            clear hct
            go_wp2_with fail
            go_region_held (fun V => V.cell? ⟨g, 0, none⟩ = some (.int .i64 b.t) ∧ V.cell? ⟨g, 1, none⟩ = some (.slice (some ⟨bb, oo, none⟩) n1 c1) ∧ V.cell? ⟨bb, oo + m * 3, none⟩ = some (.int .i64 x.s) ∧ V.cell? ⟨bb, oo + m * 3 + 1, none⟩ = some (.int .i64 x.a) ∧ V.cell? ⟨bb, oo + m * 3 + 2, none⟩ = some (.int .i64 x.c)) (first | go_keep | exact E8.out) (first | (go_at_call 46; refine (HGD.out _).mono ?_; rw [hg]; clear hg; rintro e w3 ⟨rfl, hb3⟩; have HB3 := hide ((Below.refl _ _).drew.trans hb3); have E8 := hide (HATW.out _ HB3.out); clear hb3))
            all_goals
              clear x0 x1 e0 e1 e2
              have HC3 := hide (HC.out.below HB3.out)
              obtain ⟨x0, x1, e0, e1, e2⟩ := E8.out
              go_wp2_with fail
              go_region
              all_goals
                go_wp2_with fail
                go_roundw
                case rel => exact ⟨m + 1, j + 1, by omega, by go_num, by go_num, by show _ = _; rw [HSS.out, HJ.out]; omega, by show _ = _; rw [HS2.out, HAL.out, HG2.out]; rfl, by first | exact below_trans HB.out HB3.out | exact (below_trans HB.out HB3.out).drew, HC3.out⟩
                case measure => (simp [intOf] <;> omega)
          · have hctb : (x.c == b.t) = false := by simpa using hct
            have HSS := hide (HS.out.trans (by rw [if_neg hct]))
            clear hct
            go_wp2_with fail
            go_region_held (fun V => V.cell? ⟨g, 0, none⟩ = some (.int .i64 b.t) ∧ V.cell? ⟨g, 1, none⟩ = some (.slice (some ⟨bb, oo, none⟩) n1 c1) ∧ V.cell? ⟨bb, oo + m * 3, none⟩ = some (.int .i64 x.s) ∧ V.cell? ⟨bb, oo + m * 3 + 1, none⟩ = some (.int .i64 x.a) ∧ V.cell? ⟨bb, oo + m * 3 + 2, none⟩ = some (.int .i64 x.c)) (first | go_keep | exact E8.out) (first | (go_at_call 46; refine (HGD.out _).mono ?_; rw [hg]; clear hg; rintro e w3 ⟨rfl, hb3⟩; have HB3 := hide ((Below.refl _ _).drew.trans hb3); have E8 := hide (HATW.out _ HB3.out); clear hb3))
            all_goals
              clear x0 x1 e0 e1 e2
              have HC3 := hide (HC.out.below HB3.out)
              obtain ⟨x0, x1, e0, e1, e2⟩ := E8.out
              go_wp2_with fail
              go_region
              all_goals
                go_wp2_with fail
                go_roundw
                case rel => exact ⟨m + 1, j, by omega, by go_num, rfl, by show _ = _; rw [HSS.out, HJ.out]; omega, by show _ = _; rw [HS2.out, HAL.out, HG2.out]; rfl, by first | exact below_trans HB.out HB3.out | exact (below_trans HB.out HB3.out).drew, HC3.out⟩
                case measure => (simp [intOf] <;> omega)
        · have HG2 := hide hg
          go_wp2_with fail
          go_region_held (fun V => V.cell? ⟨g, 0, none⟩ = some (.int .i64 b.t) ∧ V.cell? ⟨g, 1, none⟩ = some (.slice (some ⟨bb, oo, none⟩) n1 c1) ∧ V.cell? ⟨bb, oo + m * 3, none⟩ = some (.int .i64 x.s) ∧ V.cell? ⟨bb, oo + m * 3 + 1, none⟩ = some (.int .i64 x.a) ∧ V.cell? ⟨bb, oo + m * 3 + 2, none⟩ = some (.int .i64 x.c)) (first | go_keep | exact E8.out) (first | (go_at_call 46; refine (HGD.out _).mono ?_; rw [hg]; clear hg; rintro e w3 ⟨rfl, hb3⟩; have HB3 := hide ((Below.refl _ _).drew.trans hb3); have E8 := hide (HATW.out _ HB3.out); clear hb3))
          all_goals
            go_wp2_with fail
            go_ret
            exact ⟨ret_int (chkE_bad (HBD.out HG2.out)).symm, by first | exact below_trans HB.out HB3.out | (have h := below_trans HB.out HB3.out; rw [HG.out] at h; exact h)⟩
      · obtain rfl : n1 = m := by omega
        have hmi : ¬ (n1 : Int) < (n1 : Int) := by omega
        have HJ1 : Hid (j = cnt b.t b.m) := by
          show _ = _
          rw [HJ.out, cnt_all HR1.out.1]; omega
        have HAL1 : Hid (b.m.all (good false b.t) = true) := by
          have h := HAL.out
          rw [← HR1.out.1, List.take_length] at h
          exact h
        go_wp2_with fail
        clear x0 x1
        clear HJ HAL
        go_loopw [3, 5] (fun sp i wr => ∃ m j : Nat, m ≤ n2 ∧ i = .int .i64 (m : Int) ∧ sp = .int .i64 (j : Int) ∧ Hid (j = cnt b.t b.m + cnt b.t (b.r.take m)) ∧ Hid ((b.r.take m).all (good true b.t) = true) ∧ Hid (Below w.heap.size w wr) ∧ Hid (BC wr g b.t (.slice a1 n1 c1) (.slice a2 n2 c2) b.f)) (fun _ i _ => n2 - (intOf i).toNat)
        case atStart => exact ⟨0, j, Nat.zero_le _, rfl, rfl, by show j = _; rw [HJ1.out]; rfl, rfl, HB, HC⟩
        case round =>
          obtain ⟨m, j, hm, rfl, rfl, HJ, HAL, HB, HC⟩ := hrel
          have x0 := HC.out.c0
          have x2 := HC.out.c2
          by_cases hml : m < n2
          · have hmi : (m : Int) < (n2 : Int) := by omega
            have HAT := hide (fun W (hW : Below w.heap.size w W) => (HR2.out.below hW).at m hml)
            have HS := hide (cnt_snoc b.t b.r m (by rw [HR2.out.1]; exact hml))
            have HS2 := hide (all_snoc (good true b.t) b.r m (by rw [HR2.out.1]; exact hml))
            have HBD := hide (fun h => chk_bad2 (b := b) m (by rw [HR2.out.1]; exact hml) h)
            have HJL : Hid (j ≤ 200000) := by
              have h1 := HJ.out
              have h2 := cnt_le b.t (b.r.take m)
              have h3 := cnt_le b.t b.m
              have h4 := HR1.out.1
              have h5 := HBN.out
              rw [List.length_take] at h2
              show _ ≤ _
              omega
            generalize b.r.getD m z0 = x at HAT HS HS2 HBD
            obtain ⟨bb, oo, he, hbl, e0, e1, e2⟩ := HAT.out wr HB.out
            have HA9 := hide he
            rw [he] at x2
            have HATW : Hid (∀ W, Below wr.heap.size wr W → W.cell? ⟨g, 0, none⟩ = some (.int .i64 b.t) ∧ W.cell? ⟨g, 2, none⟩ = some (.slice (some ⟨bb, oo, none⟩) n2 c2) ∧ W.cell? ⟨bb, oo + m * 3, none⟩ = some (.int .i64 x.s) ∧ W.cell? ⟨bb, oo + m * 3 + 1, none⟩ = some (.int .i64 x.a) ∧ W.cell? ⟨bb, oo + m * 3 + 2, none⟩ = some (.int .i64 x.c)) := fun W hW => by
              obtain ⟨b', o', e', -, f0, f1, f2⟩ := HAT.out W (below_trans HB.out hW)
              have h2 := HC.out.below hW
              rw [he] at e'
              cases e'
              rw [he] at h2
              exact ⟨h2.c0, h2.c2, f0, f1, f2⟩
            have hb4 := HBN.out.2.2.2
            have hj2 := HJL.out
            have HGD := hide (fun W => refGood_any true x b.t W hb4)
            clear he hbl
            rcases Bool.eq_false_or_eq_true (good true b.t x) with hg | hg
            · have HG2 := hide hg
              by_cases hct : x.c = b.t
              · have hctb : (x.c == b.t) = true := by simpa using hct
                have HSS := hide (HS.out.trans (by rw [if_pos hct]))
                clear hct
                go_wp2_with fail
                go_region_held (fun V => V.cell? ⟨g, 0, none⟩ = some (.int .i64 b.t) ∧ V.cell? ⟨g, 2, none⟩ = some (.slice (some ⟨bb, oo, none⟩) n2 c2) ∧ V.cell? ⟨bb, oo + m * 3, none⟩ = some (.int .i64 x.s) ∧ V.cell? ⟨bb, oo + m * 3 + 1, none⟩ = some (.int .i64 x.a) ∧ V.cell? ⟨bb, oo + m * 3 + 2, none⟩ = some (.int .i64 x.c)) (first | go_keep | exact E8.out) (first | (go_at_call 46; refine (HGD.out _).mono ?_; rw [hg]; clear hg; rintro e w3 ⟨rfl, hb3⟩; have HB3 := hide ((Below.refl _ _).drew.trans hb3); have E8 := hide (HATW.out _ HB3.out); clear hb3))
                all_goals
                  clear x0 x2 e0 e1 e2
                  have HC3 := hide (HC.out.below HB3.out)
                  obtain ⟨x0, x2, e0, e1, e2⟩ := E8.out
                  go_wp2_with fail
                  go_region
                  all_goals
                    go_wp2_with fail
                    go_roundw
                    case rel => exact ⟨m + 1, j + 1, by omega, by go_num, by go_num, by show _ = _; rw [HSS.out, HJ.out]; omega, by show _ = _; rw [HS2.out, HAL.out, HG2.out]; rfl, by first | exact below_trans HB.out HB3.out | exact (below_trans HB.out HB3.out).drew, HC3.out⟩
                    case measure => (simp [intOf] <;> omega)
              · have hctb : (x.c == b.t) = false := by simpa using hct
                have HSS := hide (HS.out.trans (by rw [if_neg hct]))
                clear hct
                go_wp2_with fail
                go_region_held (fun V => V.cell? ⟨g, 0, none⟩ = some (.int .i64 b.t) ∧ V.cell? ⟨g, 2, none⟩ = some (.slice (some ⟨bb, oo, none⟩) n2 c2) ∧ V.cell? ⟨bb, oo + m * 3, none⟩ = some (.int .i64 x.s) ∧ V.cell? ⟨bb, oo + m * 3 + 1, none⟩ = some (.int .i64 x.a) ∧ V.cell? ⟨bb, oo + m * 3 + 2, none⟩ = some (.int .i64 x.c)) (first | go_keep | exact E8.out) (first | (go_at_call 46; refine (HGD.out _).mono ?_; rw [hg]; clear hg; rintro e w3 ⟨rfl, hb3⟩; have HB3 := hide ((Below.refl _ _).drew.trans hb3); have E8 := hide (HATW.out _ HB3.out); clear hb3))
                all_goals
                  clear x0 x2 e0 e1 e2
                  have HC3 := hide (HC.out.below HB3.out)
                  obtain ⟨x0, x2, e0, e1, e2⟩ := E8.out
                  go_wp2_with fail
                  go_region
                  all_goals
                    go_wp2_with fail
                    go_roundw
                    case rel => exact ⟨m + 1, j, by omega, by go_num, rfl, by show _ = _; rw [HSS.out, HJ.out]; omega, by show _ = _; rw [HS2.out, HAL.out, HG2.out]; rfl, by first | exact below_trans HB.out HB3.out | exact (below_trans HB.out HB3.out).drew, HC3.out⟩
                    case measure => (simp [intOf] <;> omega)
            · have HG2 := hide hg
              go_wp2_with fail
              go_region_held (fun V => V.cell? ⟨g, 0, none⟩ = some (.int .i64 b.t) ∧ V.cell? ⟨g, 2, none⟩ = some (.slice (some ⟨bb, oo, none⟩) n2 c2) ∧ V.cell? ⟨bb, oo + m * 3, none⟩ = some (.int .i64 x.s) ∧ V.cell? ⟨bb, oo + m * 3 + 1, none⟩ = some (.int .i64 x.a) ∧ V.cell? ⟨bb, oo + m * 3 + 2, none⟩ = some (.int .i64 x.c)) (first | go_keep | exact E8.out) (first | (go_at_call 46; refine (HGD.out _).mono ?_; rw [hg]; clear hg; rintro e w3 ⟨rfl, hb3⟩; have HB3 := hide ((Below.refl _ _).drew.trans hb3); have E8 := hide (HATW.out _ HB3.out); clear hb3))
              all_goals
                go_wp2_with fail
                go_ret
                exact ⟨ret_int (chkE_bad (HBD.out HG2.out)).symm, by first | exact below_trans HB.out HB3.out | (have h := below_trans HB.out HB3.out; rw [HG.out] at h; exact h)⟩
          · obtain rfl : n2 = m := by omega
            have hmi : ¬ (n2 : Int) < (n2 : Int) := by omega
            have HJ2 : Hid (j = full b) := by
              show _ = _
              rw [HJ.out, cnt_all HR2.out.1]; rfl
            have HAL2 : Hid (b.r.all (good true b.t) = true) := by
              have h := HAL.out
              rw [← HR2.out.1, List.take_length] at h
              exact h
            have HCH := hide (chk_of HSZ.out ⟨fun _ => HAL1.out, fun _ => HAL2.out⟩)
            rw [← HJ2.out] at HCH
            have hcs := full_cases j b.f
            have x3 := HC.out.c3
            have hjl : (j : Int) ≤ 200000 := by
              have h1 := HJ.out
              have h2 := cnt_le b.t b.r
              have h3 := cnt_le b.t b.m
              have h4 := HR1.out.1
              have h6 := HR2.out.1
              have h5 := HBN.out
              rw [← h6, List.take_length] at h1
              omega
            generalize b.f = F at x3 hcs HCH
            rcases hcs with ⟨h1, h2⟩ | ⟨h1, h2, h3⟩ | ⟨h1, h2, h3⟩
            · have HRR := hide (chkE_bad (HCH.out.trans h2))
              have h1i : (1 : Int) < (j : Int) := by omega
              clear h2
              go_wp2_with fail
              go_ret
              exact ⟨ret_int HRR.out.symm, by first | exact HB.out | (have h := HB.out; rw [HG.out] at h; exact h)⟩
            · have HRR := hide (chkE_bad (HCH.out.trans h3))
              clear HCH h3
              have HJX := hide HJ.out
              clear HJ HJ2
              rcases (show j = 0 ∨ j = 1 by omega) with rfl | rfl <;> cases F
              all_goals first
                | (simp at h2; done)
                | (clear h2
                   go_wp2_with fail
                   go_ret
                   exact ⟨ret_int HRR.out.symm, by first | exact HB.out | (have h := HB.out; rw [HG.out] at h; exact h)⟩)
            · have HRR := hide (chkE_ok (HCH.out.trans h3))
              clear HCH h3
              have HJX := hide HJ.out
              clear HJ HJ2
              rcases (show j = 0 ∨ j = 1 by omega) with rfl | rfl <;> cases F
              all_goals first
                | (simp at h2; done)
                | (clear h2
                   go_wp2_with fail
                   go_ret
                   exact ⟨ret_int HRR.out.symm, by first | exact HB.out | (have h := HB.out; rw [HG.out] at h; exact h)⟩)
end Go.Proofs.YtgpfabblmoffiaaDoor.Lg
