/-
  stable, walked.
-/
import Derived.Test.YtiepinhkmcjmkaaMeStab
namespace Go.Proofs.Ytiepinhkmcjmkaa.Me
open Go.ChangeShapes Go.WideShapes Go.ChangeAt Go.RowKit
open Go.Proofs.Ytiepinhkmcjmkaa.Base
set_option linter.unusedVariables false
set_option maxHeartbeats 8000000 in
set_option maxRecDepth 100000 in
theorem stable_any (al : Option Addr) (cl : Nat) (L : List Th) (a : Option Addr) (c : Nat) (us : List Src) (w : World) (hL : RdH w al L) (hR : RdQ w a us) (hT : ∀ j, j < us.length → RdH w (us.getD j src0).a (us.getD j src0).ts) (hS : Stb us L) (hn : us.length ≤ 64) (hl : ∀ j, j < us.length → (plays us j).ts.length ≤ 1048576) :
    Calls Try.prog 19 #[.slice al L.length cl, .slice a us.length c] w fun e w' => e = .returned (.bool true) ∧ Below w.heap.size w w' := by
  have HL := hide hL
  have HR := hide hR
  have HT := hide hT
  have HSB := hide hS
  have HS1 := hide hS.len
  have HSZ : Hid (sumN (lens (plays us)) us.length ≤ 67108864) := by
    have h2 : sumN (lens (plays us)) us.length ≤ us.length * 1048576 := sum_bound hl
    show _ ≤ _
    omega
  clear hL hR hT hS hl
  obtain ⟨N, hN⟩ : ∃ N, us.length = N := ⟨_, rfl⟩
  have HN := hide hN
  rw [hN] at hn HS1 HSZ ⊢
  obtain ⟨S, hSS⟩ : ∃ S, L.length = S := ⟨_, rfl⟩
  have HLL := hide hSS
  rw [hSS] at HS1 ⊢
  have hS7 : S ≤ 67108864 := by rw [HS1.out]; exact HSZ.out
  clear hN hSS
  go_enter Try.func19, Try.ntmps19
  go_wp2_with fail
  go_loopw [5, 6] (fun s5 s6 wr => ∃ (i q : Nat), i ≤ N ∧ q ≤ 67108864 ∧ .int .i64 (q : Int) = s5 ∧ .int .i64 (i : Int) = s6 ∧ Hid (sumN (lens (plays us)) i = q) ∧ w = wr) (fun _ s6 _ => N - (intOf s6).toNat)
  case atStart => exact ⟨0, 0, by omega, by omega, rfl, rfl, rfl, rfl⟩
  case round =>
    obtain ⟨i, q, hi, hq, rfl, rfl, HQ, rfl⟩ := hrel
    by_cases hin : i < N
    · have hii : (i : Int) < (N : Int) := by omega
      obtain ⟨b, off, rfl, hbl, hcs⟩ := HR.out (by rw [HN.out]; omega)
      have c0 := (hcs i (by rw [HN.out]; exact hin)).1
      have HQ1 : Hid (sumN (lens (plays us)) (i + 1) = q + (us.getD i src0).ts.length) := by show sumN _ _ = _; unfold sumN; rw [HQ.out]; rfl
      have HQ2 : Hid (q + (us.getD i src0).ts.length ≤ 67108864) := by
        have h1 := HQ1.out
        have h2 := HSZ.out
        have h3 : sumN (lens (plays us)) (i + 1) ≤ sumN (lens (plays us)) N := sum_mono _ (by omega)
        show q + _ ≤ _
        omega
      generalize us.getD i src0 = t at c0 HQ1 HQ2
      obtain ⟨sa, sc, sts, sfin⟩ := t
      simp only at c0
      obtain ⟨K, hK⟩ : ∃ K, sts.length = K := ⟨_, rfl⟩
      rw [hK] at c0
      have hq2 : q + K ≤ 67108864 := by rw [← hK]; exact HQ2.out
      have HQ3 : Hid (sumN (lens (plays us)) (i + 1) = q + K) := by rw [← hK]; exact HQ1.out
      clear hK HQ1 HQ2 hcs
      have hwq : IntKind.i64.wrap ((q : Int) + (K : Int)) = ((q + K : Nat) : Int) := by rw [IntKind.wrap_i64]; omega
      obtain ⟨q2, hq22⟩ : ∃ q2, q + K = q2 := ⟨_, rfl⟩
      rw [hq22] at hq2 HQ3 hwq
      clear hq22
      go_wp2_with fail
      go_roundw
      case rel => exact ⟨i + 1, q2, by omega, hq2, rfl, by go_num, HQ3, by first | rfl | trivial⟩
      case measure => simp [intOf]; omega
    · obtain rfl : i = N := by omega
      obtain rfl : q = S := HQ.out.symm.trans HS1.out.symm
      clear HQ
      have hmk := make_bools q (by omega)
      obtain ⟨gb, hgb⟩ : ∃ g, w.heap.size = g := ⟨_, rfl⟩
      obtain ⟨w1, hw1⟩ : ∃ w1, w.alloc (.cells (madeCells #[.bool false] q) 4) = w1 := ⟨_, rfl⟩
      have HB1 : Hid (Below w.heap.size w w1) := by rw [← hw1]; exact (Below.refl _ _).alloc (Nat.le_refl _) _
      have HA1 : Hid (BA w1 gb q (fun _ => false)) := by rw [← hw1, ← hgb]; exact ba_new _ _
      have HGB := hide hgb
      have hmk1 : (Instr.makeSlice 77 (.int .i64 (q : Int)) (.int .i64 (q : Int))).run Try.prog w = .ok (.slice (some ⟨gb, 0, none⟩) q q) w1 := by rw [hmk w, hgb, hw1]
      clear hmk hw1 hgb
      go_wp2_with fail
      go_loopw [8] (fun s8 wr => ∃ (k : Nat) (F : Nat → Bool), k ≤ q ∧ .int .i64 (k : Int) = s8 ∧ Hid (BA wr gb q F) ∧ Hid (∀ x, F x = true → ∃ j, j < k ∧ (L.getD j th0).name = (x : Int)) ∧ Hid (Below w.heap.size w wr)) (fun s8 _ => q - (intOf s8).toNat)
      case atStart => exact ⟨0, fun _ => false, by omega, rfl, HA1, (fun x h => nomatch h), HB1⟩
      case round =>
        clear HA1 HB1
        obtain ⟨k, F, hk, rfl, HA, HF, HB⟩ := hrel
        by_cases hkq : k < q
        · have hki : (k : Int) < (q : Int) := by omega
          obtain ⟨b, off, rfl, hbl, hcs⟩ := HL.out (by rw [HLL.out]; omega)
          obtain ⟨p0, p1⟩ := hcs k (by rw [HLL.out]; exact hkq)
          obtain ⟨x, hx, hxq⟩ := HSB.out.nm k (by rw [HLL.out]; exact hkq)
          rw [HLL.out] at hxq
          rw [hx] at p1
          have HP : Hid (∀ V, Below w.heap.size w V → V.cell? ⟨b, off + k * 2, none⟩ = some (.int .i64 (L.getD k th0).key) ∧ V.cell? ⟨b, off + k * 2 + 1, none⟩ = some (.int .i64 (x : Int))) := fun V hV => ⟨(hV.cell (p := ⟨b, off + k * 2, none⟩) hbl).trans p0, (hV.cell (p := ⟨b, off + k * 2 + 1, none⟩) hbl).trans p1⟩
          have HX := hide hx
          have hxi : (x : Int) < (q : Int) := by omega
          have hx0 : (0 : Int) ≤ (x : Int) := by omega
          have HPC : Hid (∀ j, j < q → ∀ V, Below w.heap.size w V → V.cell? ⟨b, off + j * 2, none⟩ = some (.int .i64 (L.getD j th0).key) ∧ V.cell? ⟨b, off + j * 2 + 1, none⟩ = some (.int .i64 (L.getD j th0).name)) := fun j hj V hV => by
            obtain ⟨q0, q1⟩ := hcs j (by rw [HLL.out]; exact hj)
            exact ⟨(hV.cell (p := ⟨b, off + j * 2, none⟩) hbl).trans q0, (hV.cell (p := ⟨b, off + j * 2 + 1, none⟩) hbl).trans q1⟩
          clear p0 p1 hcs hx
          go_upto_region 12 with fail
          go_cut [83] from 40 to 115 (fun s83 wx => .bool false = s83 ∧ Hid (Below wr.heap.size wr wx))
          case first =>
            by_cases hk0 : 0 < k
            · obtain ⟨m, hm⟩ : ∃ m, k - 1 = m := ⟨_, rfl⟩
              have hlt := HSB.out.mon k hk0 (by rw [HLL.out]; exact hkq)
              rw [hm] at hlt
              have hm1 : IntKind.i64.wrap ((k : Int) - 1) = (m : Int) := by rw [IntKind.wrap_i64]; omega
              have hm0 : (k : Int) - 1 = (m : Int) := by omega
              have hn1 : (0 : Int) < (k : Int) := by omega
              have hn1d : decide ((0 : Int) < (k : Int)) = true := by simpa using hk0
              have hn2d : decide (0 < k) = true := by simpa using hk0
              have hm2 : (m : Int) < (q : Int) := by omega
              have hm3 : m < q := by omega
              have hm4 : IntKind.i64.wrap (m : Int) = (m : Int) := by rw [IntKind.wrap_i64]; omega
              obtain ⟨y0, y1⟩ := HPC.out m hm3 _ HB.out
              obtain ⟨z0, z1⟩ := HPC.out k hkq _ HB.out
              clear hm
              generalize L.getD m th0 = Y at y0 y1 hlt
              generalize L.getD k th0 = Z at z0 z1 hlt
              obtain ⟨yk, yn⟩ := Y
              obtain ⟨zk, zn⟩ := Z
              unfold lt1 at hlt
              simp only at hlt y0 y1 z0 z1
              rcases hlt with hlt | ⟨hlt, hlt2⟩
              · have d1 : decide (zk < yk) = false := by rw [decide_eq_false_iff_not]; omega
                have d2 : (yk == zk) = false := by simp; omega
                have d3 : decide (yk = zk) = false := by rw [decide_eq_false_iff_not]; omega
                have d4 : ¬ yk = zk := by omega
                go_quiet (fail)
                go_wp2_with fail
                go_meet
                case rel => exact ⟨rfl, below_drewN' _ _ _⟩
              · subst hlt
                have d1 : decide (yk < yk) = false := by rw [decide_eq_false_iff_not]; omega
                have d2 : decide (zn < yn) = false := by rw [decide_eq_false_iff_not]; omega
                go_quiet (fail)
                go_wp2_with fail
                go_meet
                case rel => exact ⟨rfl, below_drewN' _ _ _⟩
            · obtain rfl : k = 0 := by omega
              go_quiet (fail)
              go_wp2_with fail
              go_meet
              case rel => exact ⟨rfl, below_drewN' _ _ _⟩
          case rest =>
            obtain ⟨rfl, HBX⟩ := hcut
            have HBC := hide (below_trans HB.out HBX.out)
            have HAC := hide (HA.out.below HBX.out)
            obtain ⟨p0, p1⟩ := HP.out _ HBC.out
            obtain ⟨s0, s1⟩ := HAC.out.cell x hxq
            have hfx : F x = false := by
              cases hfb : F x with
              | false => rfl
              | true =>
                exfalso
                obtain ⟨j, hj, hje⟩ := HF.out x hfb
                exact HSB.out.inj j k hj (by rw [HLL.out]; exact hkq) (hje.trans HX.out.symm)
            rw [hfx] at s0
            clear hfx
            have HA9 := hide (HAC.out.set x hxq)
            have HF9 : Hid (∀ y, (if y = x then true else F y) = true → ∃ j, j < k + 1 ∧ (L.getD j th0).name = (y : Int)) := fun y hy => by
              by_cases e : y = x
              · subst e; exact ⟨k, by omega, HX.out⟩
              · rw [if_neg e] at hy
                obtain ⟨j, hj, hje⟩ := HF.out y hy
                exact ⟨j, by omega, hje⟩
            have HB9 : Hid (Below w.heap.size w (wc.setCell ⟨gb, x, none⟩ (.bool true))) := below_by HBC.out (grown_cell (World.grownBy.refl _ _) _ _) (fun j e => by have e2 : gb = j := Option.some.inj e; have := HGB.out; omega)
            generalize (L.getD k th0).key = kk at p0
            go_wp2_with fail
            go_roundw
            case rel => exact ⟨k + 1, _, by omega, by go_num, HA9, HF9, HB9⟩
            case measure => simp [intOf]; omega
        · obtain rfl : k = q := by omega
          clear HA HF
          obtain ⟨w2, rfl⟩ : ∃ w2, w2 = wr := ⟨_, rfl⟩
          go_wp2_with fail
          go_loopw [9, 10] (fun s9 s10 wr => ∃ (m r : Nat), m ≤ i ∧ r ≤ 67108864 ∧ .int .i64 (r : Int) = s9 ∧ .int .i64 (m : Int) = s10 ∧ Hid (sumN (lens (plays us)) m = r) ∧ Hid (Below w.heap.size w wr)) (fun _ s10 _ => i - (intOf s10).toNat)
          case atStart => exact ⟨0, 0, by omega, by omega, rfl, rfl, rfl, HB⟩
          case round =>
            clear HB
            obtain ⟨m, r, hm, hr, rfl, rfl, HRR, HB⟩ := hrel
            by_cases hmi : m < i
            · have hmii : (m : Int) < (i : Int) := by omega
              obtain ⟨b, off, rfl, hbl, hcs⟩ := HR.out (by rw [HN.out]; omega)
              have c0 := (hcs m (by rw [HN.out]; exact hmi)).1
              have HTS := hide (HT.out m (by rw [HN.out]; exact hmi))
              have HFD := hide (HSB.out.find m)
              have HQ1 : Hid (sumN (lens (plays us)) (m + 1) = r + (us.getD m src0).ts.length) := by show sumN _ _ = _; unfold sumN; rw [HRR.out]; rfl
              have HQ2 : Hid (r + (us.getD m src0).ts.length ≤ 67108864) := by
                have h1 := HQ1.out
                have h2 := HSZ.out
                have h3 : sumN (lens (plays us)) (m + 1) ≤ sumN (lens (plays us)) i := sum_mono _ (by omega)
                show r + _ ≤ _
                omega
              have HFT : Hid (∀ j, j < (us.getD m src0).ts.length → ∃ k, k < L.length ∧ L.getD k th0 = (us.getD m src0).ts.getD j th0) := fun j hj => HSB.out.find m j (by rw [HN.out]; exact hmi) hj
              clear HFD
              generalize us.getD m src0 = t at c0 HQ1 HQ2 HTS HFT
              obtain ⟨sa, sc, sts, sfin⟩ := t
              simp only at c0
              obtain ⟨K, hK⟩ : ∃ K, sts.length = K := ⟨_, rfl⟩
              rw [hK] at c0
              have HK := hide hK
              have hq2 : r + K ≤ 67108864 := by rw [← hK]; exact HQ2.out
              have HQ3 : Hid (sumN (lens (plays us)) (m + 1) = r + K) := by rw [← hK]; exact HQ1.out
              have HTS1 : Hid (RdH w sa sts) := HTS.out
              have HFT1 : Hid (∀ j, j < K → ∃ k, k < L.length ∧ L.getD k th0 = sts.getD j th0) := by rw [← hK]; exact HFT.out
              have HC0 : Hid (∀ V, Below w.heap.size w V → V.cell? ⟨b, off + m * 2, none⟩ = some (.slice sa K sc)) := fun V hV => (hV.cell (p := ⟨b, off + m * 2, none⟩) hbl).trans c0
              clear hK HQ1 HQ2 hcs HTS HFT c0
              obtain ⟨w3, rfl⟩ : ∃ w3, w3 = wr := ⟨_, rfl⟩
              go_wp2_with fail
              go_loopw [9, 11] (fun s9 s11 wr => ∃ (t : Nat), t ≤ K ∧ .int .i64 ((r + t : Nat) : Int) = s9 ∧ .int .i64 (t : Int) = s11 ∧ Hid (Below w.heap.size w wr)) (fun _ s11 _ => K - (intOf s11).toNat)
              case atStart => exact ⟨0, by omega, rfl, rfl, HB⟩
              case round =>
                clear HB
                obtain ⟨t, ht, rfl, rfl, HB⟩ := hrel
                have c0 := HC0.out _ HB.out
                by_cases htK : t < K
                · have hti : (t : Int) < (K : Int) := by omega
                  obtain ⟨b2, o2, rfl, hb2, hc2⟩ := HTS1.out (by rw [HK.out]; omega)
                  obtain ⟨t0, t1⟩ := hc2 t (by rw [HK.out]; exact htK)
                  obtain ⟨kf, hkf, hkfe⟩ := HFT1.out t htK
                  rw [HLL.out] at hkf
                  have HKF := hide hkfe
                  clear hkfe hc2
                  generalize sts.getD t th0 = T at t0 t1 HKF
                  obtain ⟨tk, tn⟩ := T
                  simp only at t0 t1
                  have HT0 : Hid (∀ V, Below w.heap.size w V → V.cell? ⟨b, off + m * 2, none⟩ = some (.slice (some ⟨b2, o2, none⟩) K sc) ∧ V.cell? ⟨b2, o2 + t * 2, none⟩ = some (.int .i64 tk) ∧ V.cell? ⟨b2, o2 + t * 2 + 1, none⟩ = some (.int .i64 tn)) := fun V hV => ⟨HC0.out V hV, (hV.cell (p := ⟨b2, o2 + t * 2, none⟩) hb2).trans t0, (hV.cell (p := ⟨b2, o2 + t * 2 + 1, none⟩) hb2).trans t1⟩
                  clear t0 t1
                  obtain ⟨b1, o1, rfl, hb1, hc1⟩ := HL.out (by rw [HLL.out]; omega)
                  have HPC : Hid (∀ j, j < k → ∀ V, Below w.heap.size w V → V.cell? ⟨b1, o1 + j * 2, none⟩ = some (.int .i64 (L.getD j th0).key) ∧ V.cell? ⟨b1, o1 + j * 2 + 1, none⟩ = some (.int .i64 (L.getD j th0).name)) := fun j hj V hV => by
                    obtain ⟨q0, q1⟩ := hc1 j (by rw [HLL.out]; exact hj)
                    exact ⟨(hV.cell (p := ⟨b1, o1 + j * 2, none⟩) hb1).trans q0, (hV.cell (p := ⟨b1, o1 + j * 2 + 1, none⟩) hb1).trans q1⟩
                  clear hc1
                  have hQ2 : r + t ≤ 67108864 := by omega
                  obtain ⟨Q, hQ⟩ : ∃ Q, r + t = Q := ⟨_, rfl⟩
                  have HQQ := hide hQ
                  rw [hQ] at hQ2 ⊢
                  clear hQ
                  obtain ⟨w4, rfl⟩ : ∃ w4, w4 = wr := ⟨_, rfl⟩
                  go_wp2_with fail
                  go_loopw [12, 13] (fun s12 s13 wr => ∃ (j : Nat) (fo : Bool), j ≤ k ∧ .bool fo = s12 ∧ .int .i64 (j : Int) = s13 ∧ Hid (fo = false → j ≤ kf) ∧ Hid (Below w.heap.size w wr)) (fun _ s13 _ => k - (intOf s13).toNat)
                  case atStart => exact ⟨0, false, by omega, rfl, rfl, (fun _ => Nat.zero_le _), HB⟩
                  case round =>
                    clear HB c0
                    obtain ⟨j, fo, hj, rfl, rfl, HFO, HB⟩ := hrel
                    cases fo with
                    | true =>
                      by_cases hjk : j < k
                      · have hji : (j : Int) < (k : Int) := by omega
                        go_wp2_with fail
                        go_roundw
                        case rel => exact ⟨t + 1, by omega, (by have h1 := HQQ.out; rw [show r + (t + 1) = Q + 1 by omega]; go_num), by go_num, HB⟩
                        case measure => simp [intOf]; omega
                      · have hji : ¬ (j : Int) < (k : Int) := by omega
                        go_wp2_with fail
                        go_roundw
                        case rel => exact ⟨t + 1, by omega, (by have h1 := HQQ.out; rw [show r + (t + 1) = Q + 1 by omega]; go_num), by go_num, HB⟩
                        case measure => simp [intOf]; omega
                    | false =>
                      have hjf := HFO.out rfl
                      have hji : (j : Int) < (k : Int) := by omega
                      have hjk : j < k := by omega
                      obtain ⟨p0, p1⟩ := HPC.out j hjk _ HB.out
                      obtain ⟨r0, r1, r2⟩ := HT0.out _ HB.out
                      have HNE : Hid (L.getD j th0 ≠ ⟨tk, tn⟩ → j + 1 ≤ kf) := fun hne => by
                        by_cases e : j = kf
                        · subst e; exact absurd HKF.out hne
                        · omega
                      generalize L.getD j th0 = Y at p0 p1 HNE
                      obtain ⟨yk, yn⟩ := Y
                      simp only at p0 p1
                      go_upto_region 28 with fail
                      by_cases e1 : yk = tk
                      · subst e1
                        by_cases e2 : yn = tn
                        · subst e2
                          go_quiet (fail)
                          go_wp2_with fail
                          go_roundw
                          case rel => exact ⟨j + 1, true, by omega, rfl, by go_num, (fun h => nomatch h), below_trans HB.out (below_drewN' _ _ _)⟩
                          case measure => simp [intOf]; omega
                        · have d1 : (yn == tn) = false := by simp; exact e2
                          have d2 : decide (yn = tn) = false := by rw [decide_eq_false_iff_not]; exact e2
                          go_quiet (fail)
                          go_wp2_with fail
                          go_roundw
                          case rel => exact ⟨j + 1, false, by omega, rfl, by go_num, (fun _ => HNE.out (fun h => e2 (by cases h; rfl))), below_trans HB.out (below_drewN' _ _ _)⟩
                          case measure => simp [intOf]; omega
                      · have d1 : (yk == tk) = false := by simp; exact e1
                        have d2 : decide (yk = tk) = false := by rw [decide_eq_false_iff_not]; exact e1
                        go_quiet (fail)
                        go_wp2_with fail
                        go_roundw
                        case rel => exact ⟨j + 1, false, by omega, rfl, by go_num, (fun _ => HNE.out (fun h => e1 (by cases h; rfl))), below_trans HB.out (below_drewN' _ _ _)⟩
                        case measure => simp [intOf]; omega
                · obtain rfl : t = K := by omega
                  go_wp2_with fail
                  go_roundw
                  case rel => exact ⟨m + 1, r + t, by omega, hq2, rfl, by go_num, HQ3, HB⟩
                  case measure => simp [intOf]; omega
            · obtain rfl : m = i := by omega
              obtain rfl : r = k := HRR.out.symm.trans HS1.out.symm
              go_wp2_with fail
              go_ret
              exact ⟨rfl, HB.out⟩
end Go.Proofs.Ytiepinhkmcjmkaa.Me
