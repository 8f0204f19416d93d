/-
  Check: the program's answer.
-/
import Derived.Test.YtgpfabblmoffiaaDoorLgC
namespace Go.Proofs.YtgpfabblmoffiaaDoor.Lg
open Go.ChangeShapes Go.WideShapes Go.ChangeAt Go.RowKit
open Go.Proofs.YtgpfabblmoffiaaDoor.Base Go.Proofs.YtgpfabblmoffiaaDoor.Rf
set_option linter.unusedVariables false
theorem full_cases (J : Nat) (f : Bool) : (1 < J ∧ (decide (J ≤ 1) && (f == decide (J = 1))) = false) ∨ (J ≤ 1 ∧ (f != decide (J = 1)) = true ∧ (decide (J ≤ 1) && (f == decide (J = 1))) = false) ∨ (J ≤ 1 ∧ (f != decide (J = 1)) = false ∧ (decide (J ≤ 1) && (f == decide (J = 1))) = true) := by
  by_cases h1 : 1 < J
  · exact .inl ⟨h1, by simp; omega⟩
  · by_cases h2 : J = 1
    · subst h2; cases f <;> simp
    · have h3 : J = 0 := by omega
      subst h3
      cases f <;> simp
theorem one_eq (J : Nat) : ((J : Int) == 1) = decide (J = 1) := by
  by_cases h : J = 1
  · subst h; rfl
  · rw [decide_eq_false h]; simp; omega
set_option maxHeartbeats 2000000 in
set_option maxRecDepth 100000 in
theorem check_any (b : Bk) (a1 a2 : Option Addr) (n1 c1 n2 c2 : Nat) (w : World) (ht : Tab w) (hr1 : RdT w a1 n1 b.m) (hr2 : RdT w a2 n2 b.r) :
    Calls Tryd.prog 20 #[.agg #[.int .i64 b.t, .slice a1 n1 c1, .slice a2 n2 c2, .bool b.f]] w fun e w' => e = .returned (.int .i64 (chkE b)) ∧ Below w.heap.size w w' := by
  have HE : Hid (sz b = (wi (n1 : Int) 0 256 && (wi (n2 : Int) 1 65535 && wi b.t 1 16))) := by
    show _ = _
    rw [sz_wi, hr1.1, hr2.1]
  obtain ⟨w1, hw1⟩ : ∃ w1, w.alloc (.cells #[.int .i64 b.t, .slice a1 n1 c1, .slice a2 n2 c2, .bool b.f] 26) = w1 := ⟨_, rfl⟩
  have HB1 : Hid (Below w.heap.size w w1) := by rw [← hw1]; exact (Below.refl _ _).alloc (Nat.le_refl _) _
  have HC : Hid (BC w1 w.heap.size b.t (.slice a1 n1 c1) (.slice a2 n2 c2) b.f) := by rw [← hw1]; exact bc_new _ _ _ _ _
  have HTA := hide (ht.below HB1.out)
  have HR1 := hide (hr1.below HB1.out)
  have HR2 := hide (hr2.below HB1.out)
  obtain ⟨g, hg⟩ : ∃ g, w.heap.size = g := ⟨_, rfl⟩
  rw [hg] at HC
  have HG := hide hg
  clear ht hr1 hr2
  have x0 := HC.out.c0
  have x1 := HC.out.c1
  have x2 := HC.out.c2
  go_enter Tryd.func20, Tryd.ntmps20
  rcases Bool.eq_false_or_eq_true (wi (n1 : Int) 0 256 && (wi (n2 : Int) 1 65535 && wi b.t 1 16)) with hz | hz
  · have HZ := hide (HE.out.trans hz)
    have hb : (n1 : Int) ≤ 256 ∧ (n2 : Int) ≤ 65535 ∧ 1 ≤ b.t ∧ b.t ≤ 16 := by
      simp only [Bool.and_eq_true, wi_iff] at hz
      omega
    have HBN := hide hb
    clear hb
    go_wp2_with (refine (isSize_any _ _ _ _).mono ?_; rw [hz]; rintro e w' ⟨rfl, h⟩; obtain rfl := h.symm)
    clear hw1 hz x0 x1 x2 hg
    obtain ⟨T, hT⟩ : ∃ T, Value.agg #[.slice a1 n1 c1, .slice a2 n2 c2] = T := ⟨_, rfl⟩
    have HT : Hid (∀ k : Nat, k < 2 → okK b k → ∃ (A : Option Addr) (N C : Nat) (L : List TS) (red : Bool), (∀ W, (Instr.index 68 T (.int .i64 (k : Int))).run Tryd.prog W = .ok (.slice A N C) W) ∧ kn red = (k : Int) ∧ RdT w1 A N L ∧ N ≤ 65535 ∧ (∀ m, m < N → good red b.t (L.getD m z0) = false → chk b = false) ∧ (L.all (good red b.t) = true → okK b (k + 1)) ∧ cntK b (k + 1) = cntK b k + cnt b.t L) := by
      rw [← hT]
      intro k hk hok
      match k, hk with
      | 0, _ => exact ⟨a1, n1, c1, b.m, false, (fun W => by rfl), rfl, HR1.out, (by have := HBN.out; omega), (fun m hm h => chk_bad1 m (by rw [HR1.out.1]; exact hm) h), (fun h => ⟨fun _ => h, fun h2 => absurd h2 (by omega)⟩), (by simp [cntK])⟩
      | 1, _ => exact ⟨a2, n2, c2, b.r, true, (fun W => by rfl), rfl, HR2.out, (by have := HBN.out; omega), (fun m hm h => chk_bad2 m (by rw [HR2.out.1]; exact hm) h), (fun h => ⟨fun _ => hok.1 (by omega), fun _ => h⟩), (by simp [cntK, full])⟩
    rw [hT]
    clear hT
    go_loopw [3, 23] (fun sp i wr => ∃ k : Nat, k ≤ 2 ∧ i = .int .i64 (k : Int) ∧ sp = .int .i64 (cntK b k : Nat) ∧ Hid (okK b k) ∧ Hid (cntK b k ≤ 65535 * k) ∧ Hid (Below w1.heap.size w1 wr)) (fun _ i _ => 2 - (intOf i).toNat)
    case atStart => exact ⟨0, by omega, rfl, rfl, ⟨fun h => absurd h (by omega), fun h => absurd h (by omega)⟩, Nat.zero_le _, Below.refl _ _⟩
    case round =>
      obtain ⟨k, hk, rfl, rfl, HOK, HKL, HB⟩ := hrel
      by_cases hlt : k < 2
      · have hki : (k : Int) < 2 := by omega
        obtain ⟨A, N, C, L, red, hidx, hkn, hrl, hN, hbad, hgood, hcnt⟩ := HT.out k hlt HOK.out
        have HRL := hide hrl
        have HBAD := hide hbad
        have HGOOD := hide hgood
        have HCNT := hide hcnt
        have HKN := hide hkn
        clear hrl hbad hgood hcnt hkn
        obtain ⟨J0, hJ0⟩ : ∃ J0, cntK b k = J0 := ⟨_, rfl⟩
        rw [hJ0] at HCNT HKL ⊢
        have HJ0 := hide hJ0
        clear hJ0
        go_wp2_with fail
        go_loopw [3, 29] (fun sp i wi' => ∃ m j : Nat, m ≤ N ∧ i = .int .i64 (m : Int) ∧ sp = .int .i64 (j : Int) ∧ Hid (j = J0 + cnt b.t (L.take m)) ∧ Hid ((L.take m).all (good red b.t) = true) ∧ Hid (Below w1.heap.size w1 wi')) (fun _ i _ => N - (intOf i).toNat)
        case atStart => exact ⟨0, J0, Nat.zero_le _, rfl, rfl, rfl, rfl, HB⟩
        case round =>
          obtain ⟨m, j, hm, rfl, rfl, HJ, HAL, HBI⟩ := hrel
          by_cases hml : m < N
          · have hmi : (m : Int) < (N : Int) := by omega
            obtain ⟨bb, oo, rfl, hbl, e0, e1, e2⟩ := (HRL.out.below HBI.out).at m hml
            have HS := hide (cnt_snoc b.t L m (by rw [HRL.out.1]; exact hml))
            have HS2 := hide (all_snoc (good red b.t) L m (by rw [HRL.out.1]; exact hml))
            have HBD := hide (HBAD.out m hml)
            have HJL : Hid (j ≤ 200000) := by
              have h1 := HJ.out
              have h2 := cnt_le b.t (L.take m)
              have h3 := HKL.out
              rw [List.length_take] at h2
              show _ ≤ _
              have : 65535 * k ≤ 65535 * 2 := Nat.mul_le_mul_left _ hk
              omega
            generalize L.getD m z0 = x at e0 e1 e2 HS HS2 HBD
            obtain ⟨w2, hw2⟩ : ∃ w2, wr.alloc (.cells #[.int .i64 x.s, .int .i64 x.a, .int .i64 x.c] 43) = w2 := ⟨_, rfl⟩
            have HB2 : Hid (Below w1.heap.size w1 w2) := by rw [← hw2]; exact HBI.out.alloc HBI.out.size _
            have HTC : Hid (TC w2 wr.heap.size x) := by rw [← hw2]; exact tc_new _ _
            obtain ⟨q, hq⟩ : ∃ q, wr.heap.size = q := ⟨_, rfl⟩
            rw [hq] at HTC
            have y0 := HTC.out.c0
            have y1 := HTC.out.c1
            have y2 := HTC.out.c2
            have x0 := (HC.out.below HB2.out).c0
            have hb4 := HBN.out.2.2.2
            have hj2 := HJL.out
            have hkn := HKN.out
            rcases Bool.eq_false_or_eq_true (good red b.t x) with hg | hg
            · have HG2 := hide hg
              by_cases hct : x.c = b.t
              · have hctb : (x.c == b.t) = true := by simpa using hct
                have HSS := hide (HS.out.trans (by rw [if_pos hct]))
                clear hct
                go_wp2_with (rw [← hkn]; refine (mayBe_any red x b.t _ (HTA.out.below HB2.out) hb4).mono ?_; rw [hkn]; clear hw2 hq x0 y0 y1 y2; rintro e w3 ⟨rfl, hb⟩; have HB3 := hide (below_trans HB2.out hb); have HTC3 := hide (HTC.out.below hb); clear hb; have y2 := HTC3.out.c2; have x0 := (HC.out.below HB3.out).c0; rw [hg]; clear hg)
                go_roundw
                case rel => exact ⟨m + 1, j + 1, by omega, by go_num, by go_num, by show _ = _; rw [HSS.out, HJ.out]; omega, by show _ = _; rw [HS2.out, HAL.out, HG2.out]; rfl, HB3⟩
                case measure => (simp [intOf] <;> omega)
              · have hctb : (x.c == b.t) = false := by simpa using hct
                have HSS := hide (HS.out.trans (by rw [if_neg hct]))
                clear hct
                go_wp2_with (rw [← hkn]; refine (mayBe_any red x b.t _ (HTA.out.below HB2.out) hb4).mono ?_; rw [hkn]; clear hw2 hq x0 y0 y1 y2; rintro e w3 ⟨rfl, hb⟩; have HB3 := hide (below_trans HB2.out hb); have HTC3 := hide (HTC.out.below hb); clear hb; have y2 := HTC3.out.c2; have x0 := (HC.out.below HB3.out).c0; rw [hg]; clear hg)
                go_roundw
                case rel => exact ⟨m + 1, j, by omega, by go_num, rfl, by show _ = _; rw [HSS.out, HJ.out]; omega, by show _ = _; rw [HS2.out, HAL.out, HG2.out]; rfl, HB3⟩
                case measure => (simp [intOf] <;> omega)
            · have HG2 := hide hg
              go_wp2_with (rw [← hkn]; refine (mayBe_any red x b.t _ (HTA.out.below HB2.out) hb4).mono ?_; rw [hkn]; clear hw2 hq x0 y0 y1 y2; rintro e w3 ⟨rfl, hb⟩; have HB3 := hide (below_trans HB2.out hb); have HTC3 := hide (HTC.out.below hb); clear hb; have y2 := HTC3.out.c2; have x0 := (HC.out.below HB3.out).c0; rw [hg]; clear hg)
              go_ret
              exact ⟨ret_int (chkE_bad (HBD.out HG2.out)).symm, below_trans HB1.out HB3.out⟩
          · obtain rfl : m = N := by omega
            have hmi : ¬ (m : Int) < (m : Int) := by omega
            have HJ2 : Hid (cntK b (k + 1) = j) := by
              show _ = _
              rw [HCNT.out, HJ.out, cnt_all HRL.out.1]
            have HAL2 := HAL.out
            rw [← HRL.out.1, List.take_length] at HAL2
            have HOK2 := hide (HGOOD.out HAL2)
            clear HAL2
            have HL2 : Hid (j ≤ 65535 * (k + 1)) := by
              have h1 := HJ.out
              have h2 := cnt_le b.t (L.take m)
              have h3 := HKL.out
              rw [List.length_take] at h2
              show _ ≤ _
              omega
            go_wp2_with fail
            go_roundw
            case rel => exact ⟨k + 1, by omega, by go_num, by rw [HJ2.out], HOK2, by rw [HJ2.out]; exact HL2.out, HBI⟩
            case measure => (simp [intOf] <;> omega)
      · obtain rfl : k = 2 := by omega
        have hki : ¬ ((2 : Nat) : Int) < 2 := by omega
        have HCH := hide (chk_of HZ.out HOK.out)
        have x3 := (HC.out.below HB.out).c3
        have hJ : cntK b 2 = full b := by simp [cntK]
        rw [hJ] at HKL ⊢
        have hl2 := HKL.out
        generalize full b = J at *
        clear hJ
        have hcs := full_cases J b.f
        generalize b.f = F at x3 hcs HCH
        rcases hcs with ⟨h1, h2⟩ | ⟨h1, h2, h3⟩ | ⟨h1, h2, h3⟩
        · have HR := hide (chkE_bad (HCH.out.trans h2))
          have h1i : (1 : Int) < (J : Int) := by omega
          clear h2
          go_wp2_with fail
          go_ret
          exact ⟨ret_int HR.out.symm, below_trans HB1.out HB.out⟩
        · have HR := hide (chkE_bad (HCH.out.trans h3))
          clear HCH h3
          rcases (show J = 0 ∨ J = 1 by omega) with rfl | rfl <;> cases F
          all_goals first
            | (simp at h2; done)
            | (clear h2
               go_wp2_with fail
               go_ret
               exact ⟨ret_int HR.out.symm, below_trans HB1.out HB.out⟩)
        · have HR := hide (chkE_ok (HCH.out.trans h3))
          clear HCH h3
          rcases (show J = 0 ∨ J = 1 by omega) with rfl | rfl <;> cases F
          all_goals first
            | (simp at h2; done)
            | (clear h2
               go_wp2_with fail
               go_ret
               exact ⟨ret_int HR.out.symm, below_trans HB1.out HB.out⟩)
  · have HR := hide (chkE_bad (chk_bad0 (HE.out.trans hz)))
    go_wp2_with (refine (isSize_any _ _ _ _).mono ?_; rw [hz]; rintro e w' ⟨rfl, h⟩; obtain rfl := h.symm)
    go_ret
    exact ⟨ret_int HR.out.symm, HB1.out⟩
end Go.Proofs.YtgpfabblmoffiaaDoor.Lg
