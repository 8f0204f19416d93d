/-
  The document's run: its contract.
-/
import Derived.Test.YtcnfkgmefikcjaaMeRefR
namespace Go.Proofs.Ytcnfkgmefikcjaa.Me
open Go.ChangeShapes Go.WideShapes Go.ChangeAt Go.RowKit
open Go.Proofs.Ytcnfkgmefikcjaa.Base
set_option linter.unusedVariables false
set_option maxHeartbeats 16000000 in
set_option maxRecDepth 100000 in
theorem refRun_any (a : Option Addr) (c : Nat) (ss : List Src) (w : World) (hR : Rdy w a ss) (hn : ss.length ≤ 64) (hl : ∀ j, j < ss.length → (plays ss j).ts.length ≤ 1048576) :
    Calls Try.prog 6 #[.slice a ss.length c] w fun e w' => ∃ (al : Option Addr) (cl : Nat) (L : List Th) (x : Int) (gk : Nat) (A : Nat → Nat), e = .returned (.tuple #[.agg #[.slice al L.length cl, .int .i64 x], .slice (some ⟨gk, 0, none⟩) ss.length ss.length]) ∧ RunsA (plays ss) ss.length L x A ∧ OwnT w' w.heap.size (.slice al L.length cl) L ∧ IA w' gk ss.length A ∧ Below w.heap.size w w' := by
  have HRY := hide hR
  have HLE := hide hl
  clear hR hl
  obtain ⟨n, hN⟩ : ∃ n, ss.length = n := ⟨_, rfl⟩
  have HN := hide hN
  rw [hN] at hn ⊢
  clear hN
  obtain ⟨gr, hgr⟩ : ∃ g, w.heap.size = g := ⟨_, rfl⟩
  obtain ⟨w1, hw1⟩ : ∃ w1, w.alloc (.cells #[.slice none 0 0, .int .i64 0] 32) = w1 := ⟨_, rfl⟩
  obtain ⟨gt, hgt⟩ : ∃ g, w1.heap.size = g := ⟨_, rfl⟩
  obtain ⟨w2, hw2⟩ : ∃ w2, w1.alloc (.cells #[.slice none 0 0, .int .i64 0] 32) = w2 := ⟨_, rfl⟩
  obtain ⟨ga, hga⟩ : ∃ g, w2.heap.size = g := ⟨_, rfl⟩
  obtain ⟨w3, hw3⟩ : ∃ w3, w2.alloc (.cells (madeCells #[.int .i64 0] n) 3) = w3 := ⟨_, rfl⟩
  obtain ⟨gk, hgk⟩ : ∃ g, w3.heap.size = g := ⟨_, rfl⟩
  obtain ⟨w4, hw4⟩ : ∃ w4, w3.alloc (.cells (madeCells #[.int .i64 0] n) 3) = w4 := ⟨_, rfl⟩
  have hm3 : (Instr.makeSlice 23 (.int .i64 (n : Int)) (.int .i64 (n : Int))).run Try.prog w2 = .ok (.slice (some ⟨ga, 0, none⟩) n n) w3 := by rw [make_ints n hn w2, hga, hw3]
  have hm4 : (Instr.makeSlice 23 (.int .i64 (n : Int)) (.int .i64 (n : Int))).run Try.prog w3 = .ok (.slice (some ⟨gk, 0, none⟩) n n) w4 := by rw [make_ints n hn w3, hgk, hw4]
  have HR0 : Hid (RR w w4 gr gt ga gk n none 0 [] (fun _ => 0) (fun _ => 0)) := by
    have b1 : Below w.heap.size w w1 := by rw [← hw1]; exact (Below.refl _ _).alloc (Nat.le_refl _) _
    have b2 : Below w1.heap.size w1 w2 := by rw [← hw2]; exact (Below.refl _ _).alloc (Nat.le_refl _) _
    have b3 : Below w2.heap.size w2 w3 := by rw [← hw3]; exact (Below.refl _ _).alloc (Nat.le_refl _) _
    have b4 : Below w3.heap.size w3 w4 := by rw [← hw4]; exact (Below.refl _ _).alloc (Nat.le_refl _) _
    have r1 : w1.heap[gr]? = some (.cells #[.slice none 0 0, .int .i64 0] 32) := by rw [← hw1, ← hgr]; exact heap_alloc_new _ _
    have r2 : w2.heap[gt]? = some (.cells #[.slice none 0 0, .int .i64 0] 32) := by rw [← hw2, ← hgt]; exact heap_alloc_new _ _
    have r3 : IA w3 ga n (fun _ => 0) := by rw [← hw3, ← hga]; exact ia_new _ _
    have r4 : IA w4 gk n (fun _ => 0) := by rw [← hw4, ← hgk]; exact ia_new _ _
    have z1 := b1.size
    have z2 := b2.size
    have z3 := b3.size
    have l1 := lt_row r1
    have l2 := lt_row r2
    have l3 := r3.lt
    exact ⟨((below_trans b2 (below_trans b3 b4)).block _ l1).trans r1, ((below_trans b3 b4).block _ l2).trans r2, ownT_nil _ _, r3.same (b4.block _ l3), r4, below_trans b1 (below_trans b2 (below_trans b3 b4)), ⟨by omega, by omega, by omega, by omega⟩, ⟨by omega, by omega⟩⟩
  have HCS : Hid (∀ j, j < n → ∀ V, Below w.heap.size w V → ∃ b off, a = some ⟨b, off, none⟩ ∧ V.cell? ⟨b, off + j * 2, none⟩ = some (.slice (ss.getD j src0).a (ss.getD j src0).ts.length (ss.getD j src0).c) ∧ V.cell? ⟨b, off + j * 2 + 1, none⟩ = some (.int .i64 (ss.getD j src0).fin)) := fun j hj V hV => by
    obtain ⟨b, off, e1, e2, e3⟩ := HRY.out.rdq (by rw [HN.out]; omega)
    obtain ⟨q0, q1⟩ := e3 j (by rw [HN.out]; exact hj)
    exact ⟨b, off, e1, (hV.cell (p := ⟨b, off + j * 2, none⟩) e2).trans q0, (hV.cell (p := ⟨b, off + j * 2 + 1, none⟩) e2).trans q1⟩
  have HTS : Hid (∀ j i, j < n → i < (ss.getD j src0).ts.length → ∀ V, Below w.heap.size w V → ∃ b off, (ss.getD j src0).a = some ⟨b, off, none⟩ ∧ V.cell? ⟨b, off + i * 2, none⟩ = some (.int .i64 ((ss.getD j src0).ts.getD i th0).key) ∧ V.cell? ⟨b, off + i * 2 + 1, none⟩ = some (.int .i64 ((ss.getD j src0).ts.getD i th0).name)) := fun j i hj hi V hV => by
    obtain ⟨b, off, e1, e2, e3⟩ := HRY.out.rdh j (by rw [HN.out]; exact hj) (by omega)
    obtain ⟨q0, q1⟩ := e3 i hi
    exact ⟨b, off, e1, (hV.cell (p := ⟨b, off + i * 2, none⟩) e2).trans q0, (hV.cell (p := ⟨b, off + i * 2 + 1, none⟩) e2).trans q1⟩
  have HLN : Hid (∀ j, j < n → (ss.getD j src0).ts.length ≤ 1048576) := fun j hj => HLE.out j (by rw [HN.out]; exact hj)
  have HSB : Hid (sumN (lens (plays ss)) n ≤ 67108864) := by
    have h2 : sumN (lens (plays ss)) n ≤ n * 1048576 := sum_bound (fun j hj => HLE.out j (by rw [HN.out]; exact hj))
    show _ ≤ _
    omega
  go_enter Try.func6, Try.ntmps6
  go_wp2_with fail
  clear hm3 hm4 hw1 hw2 hw3 hw4 hgr hgt hga hgk HLE HRY
  go_loopw [7] (fun s7 wr => ∃ i : Nat, i ≤ n ∧ .int .i64 (i : Int) = s7 ∧ Hid (RR w wr gr gt ga gk n none 0 [] (fun _ => 0) (fun j => if j < i then 1 else 0)) ∧ Hid (∀ j, j < i → okF (plays ss) j)) (fun s7 _ => n - (intOf s7).toNat)
  case atStart => exact ⟨0, by omega, rfl, HR0.out.congr (fun _ _ => rfl) (fun x _ => by rw [if_neg (by omega)]), (fun j hj => absurd hj (by omega))⟩
  case round =>
    clear HR0
    obtain ⟨i, hi, rfl, HRR, HOK⟩ := hrel
    by_cases hin : i < n
    · have hii : (i : Int) < (n : Int) := by omega
      obtain ⟨k0, k1⟩ := HRR.out.ask.cell i hin
      rw [if_neg (by omega)] at k0
      have HR1 := hide (HRR.out.setAsk i 1 hin)
      obtain ⟨w5, hw5⟩ : ∃ w5, wr.setCell ⟨gk, i, none⟩ (.int .i64 ((1 : Nat) : Int)) = w5 := ⟨_, rfl⟩
      have hw5' : wr.setCell ⟨gk, i, none⟩ (.int .i64 1) = w5 := hw5
      rw [hw5] at HR1
      clear hw5
      have HR2 : Hid (RR w w5 gr gt ga gk n none 0 [] (fun _ => 0) (fun j => if j < i + 1 then 1 else 0)) := HR1.out.congr (fun _ _ => rfl) (fun x _ => by
        show _ = if x = i then 1 else if x < i then 1 else 0
        by_cases e : x = i
        · rw [if_pos (by omega), if_pos e]
        · rw [if_neg e]
          by_cases q : x < i
          · rw [if_pos (by omega), if_pos q]
          · rw [if_neg (by omega), if_neg q])
      obtain ⟨b, off, rfl, c0, c1⟩ := HCS.out i hin w5 HR2.out.bel
      have HOF : Hid (okF (plays ss) i ↔ (0 < (ss.getD i src0).ts.length ∨ (ss.getD i src0).fin = 0)) := Iff.rfl
      have HBD : Hid ((plays ss i).ts.length = (ss.getD i src0).ts.length ∧ (plays ss i).fin = (ss.getD i src0).fin) := ⟨rfl, rfl⟩
      obtain ⟨K, hK⟩ : ∃ K, (ss.getD i src0).ts.length = K := ⟨_, rfl⟩
      obtain ⟨fn, hfn⟩ : ∃ x, (ss.getD i src0).fin = x := ⟨_, rfl⟩
      rw [hK, hfn] at HOF HBD
      rw [hK] at c0
      rw [hfn] at c1
      generalize (ss.getD i src0).a = sa at c0
      generalize (ss.getD i src0).c = sc at c0
      clear hK hfn HR1
      by_cases hK0 : K = 0
      · subst hK0
        by_cases hf0 : fn = 0
        · subst hf0
          go_wp2_with fail
          go_roundw
          case rel => exact ⟨i + 1, by omega, by go_num, HR2, (fun j hj => by by_cases e : j = i; · subst e; exact HOF.out.2 (.inr rfl)
                                                                              · exact HOK.out j (by omega))⟩
          case measure => simp [intOf]; omega
        · have hfb : (fn != 0) = true := by simp; exact hf0
          have hfi : ¬ fn = 0 := hf0
          have f1 : w5.frozen? ⟨gt, 1, none⟩ = false := frozen_of_row _ _ _ _ _ HR2.out.tld
          have t1 := (two_of HR2.out.tld).2
          obtain ⟨w6, hw6⟩ : ∃ w6, w5.setCell ⟨gt, 1, none⟩ (.int .i64 fn) = w6 := ⟨_, rfl⟩
          have HZ := hide (HR2.out.out fn w6 (.inl hw6.symm))
          obtain ⟨⟨x0, x1⟩, ⟨y0, y1⟩, z0, z1⟩ := HR2.out.outc fn w6 (.inl hw6.symm)
          go_wp2_with fail
          refine bodyPost_ret (results_told rfl _ _ gr _ _ rfl HZ.out.1) rfl ?_
          refine ⟨none, 0, [], fn, gk, rfl, fun j => if j < i + 1 then 1 else 0, .inl ⟨i, hin, HBD.out.1, (by rw [HBD.out.2]; exact hf0), HOK.out, rfl, HBD.out.2.symm, fun j hj => ?_⟩, HZ.out.2.1, HZ.out.2.2.1, HZ.out.2.2.2⟩
          show (if j < i + 1 then 1 else 0) = _
          by_cases q : j ≤ i
          · rw [if_pos q, if_pos (by omega)]
          · rw [if_neg q, if_neg (by omega)]
      · have hKb : ((K : Int) == 0) = false := by simp; omega
        have hKi : ¬ (K : Int) = 0 := by omega
        go_wp2_with fail
        go_roundw
        case rel => exact ⟨i + 1, by omega, by go_num, HR2, (fun j hj => by by_cases e : j = i; · subst e; exact HOF.out.2 (.inl (by omega))
                                                                            · exact HOK.out j (by omega))⟩
        case measure => simp [intOf]; omega
    · obtain rfl : i = n := by omega
      have HST : Hid (RR w wr gr gt ga gk i none 0 [] pos0 (fun j => pos0 j + 1)) := HRR.out.congr (fun _ _ => rfl) (fun x hx => by show pos0 x + 1 = _; rw [if_pos hx]; rfl)
      clear HRR
      go_wp2_with fail
      go_loopw [8] (fun _ wr => ∃ (P : List Th) (pos : Nat → Nat) (al : Option Addr) (cl : Nat), Hid (RR w wr gr gt ga gk i al cl P pos (fun j => pos j + 1)) ∧ Hid (∀ j, j < i → pos j ≤ (plays ss j).ts.length) ∧ Hid (P.length = sumN pos i) ∧ Hid (∀ L e A, RunA (plays ss) i pos L e A → RunsA (plays ss) i (P ++ L) e A)) (fun _ wr => 67108865 - lenAt gt wr)
      case atStart => exact ⟨[], pos0, none, 0, HST, (fun j hj => Nat.zero_le _), (sum_zero i).symm, (fun L e A h => .inr ⟨HOK.out, h⟩)⟩
      case round =>
        clear HST
        obtain ⟨P, pos, al, cl, HRR, HPL, HPS, HCT⟩ := hrel
        have HLW := hide HRR.out.lenAt
        obtain ⟨w6, rfl⟩ : ∃ w6, w6 = wr := ⟨_, rfl⟩
        go_wp2_with fail
        go_loopw [8, 9] (fun s8 s9 wr => ∃ (m : Nat) (bi : Int), m ≤ i ∧ .int .i64 bi = s8 ∧ .int .i64 (m : Int) = s9 ∧ Hid (BestTo (plays ss) pos m bi) ∧ Hid (Below w6.heap.size w6 wr)) (fun _ s9 _ => i - (intOf s9).toNat)
        case atStart => exact ⟨0, -1, by omega, rfl, rfl, .inl ⟨rfl, fun j hj => absurd hj (by omega)⟩, Below.refl _ _⟩
        case round =>
          obtain ⟨m, bi, hm, rfl, rfl, HBT, HB⟩ := hrel
          have HRB := hide (HRR.out.below HB.out)
          by_cases hmi : m < i
          · have hmii : (m : Int) < (i : Int) := by omega
            obtain ⟨b, off, ha, c0, _⟩ := HCS.out m hmi wr HRB.out.bel
            subst ha
            have p0 := (HRB.out.at_.cell m hmi).1
            have HLM : Hid ((plays ss m).ts.length = (ss.getD m src0).ts.length) := rfl
            go_upto_region 15 with fail
            go_cut [99] from 52 to 100 (fun s99 wx => ∃ tt : Bool, .bool tt = s99 ∧ Hid (tt = true → BestTo (plays ss) pos (m + 1) (m : Int)) ∧ Hid (tt = false → BestTo (plays ss) pos (m + 1) bi) ∧ Hid (Below wr.heap.size wr wx))
            case first =>
              as_aux_lemma =>
                by_cases hp : pos m < (ss.getD m src0).ts.length
                · obtain ⟨b2, o2, e2, t0, _⟩ := HTS.out m (pos m) hmi hp wr HRB.out.bel
                  have HKM : Hid (keyP (plays ss) pos m = ((ss.getD m src0).ts.getD (pos m) th0).key) := rfl
                  rw [e2] at c0
                  have HPM : Hid (pos m < (plays ss m).ts.length) := hp
                  rcases HBT.out with ⟨hb1, hb2⟩ | ⟨v, hb1, hvm, hpv, hb3⟩
                  · subst hb1
                    have HB2 := hide hb2
                    clear hb2
                    obtain ⟨K, hK⟩ : ∃ K, (ss.getD m src0).ts.length = K := ⟨_, rfl⟩
                    rw [hK] at c0 hp
                    obtain ⟨q, hq⟩ : ∃ q, pos m = q := ⟨_, rfl⟩
                    rw [hq] at p0 hp t0
                    clear hK hq
                    generalize (ss.getD m src0).c = sc at c0
                    generalize ((ss.getD m src0).ts.getD q th0).key = kk at t0
                    have d1 : decide ((q : Int) < (K : Int)) = true := by simpa using hp
                    have d2 : decide (q < K) = true := by simpa using hp
                    have d3 : (q : Int) < (K : Int) := by omega
                    go_quiet (fail)
                    go_wp2_with fail
                    go_meet
                    case rel => exact ⟨true, rfl, (fun _ => BestTo.first HB2.out HPM.out), (fun h => by cases h), below_drewN' _ _ _⟩
                  · subst hb1
                    have HB3 := hide hb3
                    have HPV : Hid (pos v < (plays ss v).ts.length) := hpv
                    have hvi : v < i := by omega
                    have hvii : (v : Int) < (i : Int) := by omega
                    obtain ⟨b', off', ha', v0, _⟩ := HCS.out v hvi wr HRB.out.bel
                    simp only [Option.some.injEq, Addr.mk.injEq] at ha'
                    obtain ⟨rfl, rfl, _⟩ := ha'
                    have hpv' : pos v < (ss.getD v src0).ts.length := hpv
                    obtain ⟨b3, o3, e3, u0, _⟩ := HTS.out v (pos v) hvi hpv' wr HRB.out.bel
                    rw [e3] at v0
                    have r0 := (HRB.out.at_.cell v hvi).1
                    have HKV : Hid (keyP (plays ss) pos v = ((ss.getD v src0).ts.getD (pos v) th0).key) := rfl
                    clear hb3 hpv
                    obtain ⟨K, hK⟩ : ∃ K, (ss.getD m src0).ts.length = K := ⟨_, rfl⟩
                    obtain ⟨J, hJ⟩ : ∃ J, (ss.getD v src0).ts.length = J := ⟨_, rfl⟩
                    rw [hK] at c0 hp
                    rw [hJ] at v0 hpv'
                    obtain ⟨q, hq⟩ : ∃ q, pos m = q := ⟨_, rfl⟩
                    obtain ⟨r, hr⟩ : ∃ r, pos v = r := ⟨_, rfl⟩
                    rw [hq] at p0 hp t0 HKM
                    rw [hr] at r0 hpv' u0 HKV
                    clear hK hJ hq hr
                    generalize (ss.getD m src0).c = sc at c0
                    generalize (ss.getD v src0).c = sd at v0
                    generalize ((ss.getD m src0).ts.getD q th0).key = kk at t0 HKM
                    generalize ((ss.getD v src0).ts.getD r th0).key = jj at u0 HKV
                    have d1 : decide ((q : Int) < (K : Int)) = true := by simpa using hp
                    have d2 : decide (q < K) = true := by simpa using hp
                    have d3 : (q : Int) < (K : Int) := by omega
                    have d4 : decide ((v : Int) < 0) = false := by rw [decide_eq_false_iff_not]; omega
                    have d5 : (r : Int) < (J : Int) := by omega
                    by_cases hkj : kk < jj
                    · have d6 : decide (kk < jj) = true := by simpa using hkj
                      go_quiet (fail)
                      go_wp2_with fail
                      go_meet
                      case rel => exact ⟨true, rfl, (fun _ => BestTo.take HB3.out HPM.out (by rw [HKM.out, HKV.out]; exact hkj)), (fun h => by cases h), below_drewN' _ _ _⟩
                    · have d6 : decide (kk < jj) = false := by simpa using hkj
                      go_quiet (fail)
                      go_wp2_with fail
                      go_meet
                      case rel => exact ⟨false, rfl, (fun h => by cases h), (fun _ => BestTo.keep HB3.out hvm HPV.out (by rw [HKM.out, HKV.out]; omega)), below_drewN' _ _ _⟩
                · have HNP : Hid (¬ pos m < (plays ss m).ts.length) := hp
                  obtain ⟨K, hK⟩ : ∃ K, (ss.getD m src0).ts.length = K := ⟨_, rfl⟩
                  rw [hK] at c0 hp
                  obtain ⟨q, hq⟩ : ∃ q, pos m = q := ⟨_, rfl⟩
                  rw [hq] at p0 hp
                  clear hK hq
                  generalize (ss.getD m src0).c = sc at c0
                  generalize (ss.getD m src0).a = sa at c0
                  have d1 : decide ((q : Int) < (K : Int)) = false := by rw [decide_eq_false_iff_not]; omega
                  have d2 : decide (q < K) = false := by rw [decide_eq_false_iff_not]; exact hp
                  go_quiet (fail)
                  go_wp2_with fail
                  go_meet
                  case rel => exact ⟨false, rfl, (fun h => by cases h), (fun _ => HBT.out.skip HNP.out), below_drewN' _ _ _⟩
            case rest =>
              focus
                obtain ⟨tt, rfl, HT1, HT2, HBX⟩ := hcut
                cases tt with
                | true =>
                  focus
                    go_wp2_with fail
                    go_roundw
                    case rel => exact ⟨m + 1, (m : Int), by omega, rfl, by go_num, HT1.out rfl, below_trans HB.out HBX.out⟩
                    case measure => simp [intOf]; omega
                | false =>
                  focus
                    go_wp2_with fail
                    go_roundw
                    case rel => exact ⟨m + 1, bi, by omega, rfl, by go_num, HT2.out rfl, below_trans HB.out HBX.out⟩
                    case measure => simp [intOf]; omega
          · obtain rfl : m = i := by omega
            rcases HBT.out.best with ⟨hb1, hb2⟩ | ⟨v, hb1, hbv⟩
            · subst hb1
              have HZ := hide (HRB.out.out 0 wr (.inr ⟨rfl, rfl⟩))
              obtain ⟨⟨x0, x1⟩, ⟨y0, y1⟩, z0, z1⟩ := HRB.out.outc 0 wr (.inr ⟨rfl, rfl⟩)
              have HRA := hide (HCT.out [] 0 (fun j => pos j + 1) ⟨rfl, fun j hj => by have h1 := HPL.out j hj; have h2 := hb2 j hj; omega, fun j hj => rfl⟩)
              clear hb2
              go_wp2_with fail
              refine bodyPost_ret (results_told rfl _ _ gr _ _ rfl HZ.out.1) rfl ?_
              refine ⟨al, cl, P, 0, gk, rfl, fun j => pos j + 1, ?_, HZ.out.2.1, HZ.out.2.2.1, HZ.out.2.2.2⟩
              have h := HRA.out
              rw [List.append_nil] at h
              exact h
            · subst hb1
              have HBV := hide hbv
              have hvi : v < m := hbv.1
              have hvii : (v : Int) < (m : Int) := by omega
              have hpv : pos v < (ss.getD v src0).ts.length := hbv.2.1
              clear hbv
              have hPb : P.length ≤ 67108864 := by
                have h1 := HPS.out
                have h2 := HSB.out
                have h3 : sumN pos m ≤ sumN (lens (plays ss)) m := sum_le HPL.out
                omega
              obtain ⟨T, hT⟩ : ∃ T, (ss.getD v src0).ts.getD (pos v) th0 = T := ⟨_, rfl⟩
              have HTT := hide hT
              have HKL := hide (HLN.out v hvi)
              have HCL : Hid (∀ V, Below w.heap.size w V → ∃ b off b2 o2, a = some ⟨b, off, none⟩ ∧ V.cell? ⟨b, off + v * 2, none⟩ = some (.slice (some ⟨b2, o2, none⟩) (ss.getD v src0).ts.length (ss.getD v src0).c) ∧ V.cell? ⟨b, off + v * 2 + 1, none⟩ = some (.int .i64 (ss.getD v src0).fin) ∧ (V.cell? ⟨b2, o2 + pos v * 2, none⟩ = some (.int .i64 T.key) ∧ V.cell? ⟨b2, o2 + pos v * 2 + 1, none⟩ = some (.int .i64 T.name)) ∧ (pos v + 1 < (ss.getD v src0).ts.length → V.cell? ⟨b2, o2 + (pos v + 1) * 2, none⟩ = some (.int .i64 ((ss.getD v src0).ts.getD (pos v + 1) th0).key))) := fun V hV => by
                obtain ⟨b, off, e1, q0, q1⟩ := HCS.out v hvi V hV
                obtain ⟨b2, o2, e2, t0, t1⟩ := HTS.out v (pos v) hvi hpv V hV
                rw [e2] at q0
                rw [HTT.out] at t0 t1
                refine ⟨b, off, b2, o2, e1, q0, q1, ⟨t0, t1⟩, fun hlt => ?_⟩
                obtain ⟨b3, o3, e3, t3, _⟩ := HTS.out v (pos v + 1) hvi hlt V hV
                rw [e2] at e3
                simp only [Option.some.injEq, Addr.mk.injEq] at e3
                obtain ⟨rfl, rfl, _⟩ := e3
                exact t3
              have HCOD : Hid (codP (plays ss) pos v = if pos v + 1 < (ss.getD v src0).ts.length then (if ((ss.getD v src0).ts.getD (pos v + 1) th0).key < T.key then 61 else 0) else (ss.getD v src0).fin) := by
                show codP (plays ss) pos v = _
                rw [← HTT.out]
                rfl
              clear hT
              have HAF : Hid (∀ (z : Nat → Nat), (∀ j, j < m → z j = upP pos v j + 1) → codP (plays ss) pos v ≠ 0 → RunsA (plays ss) m (P ++ [T]) (codP (plays ss) pos v) z) := fun z hz hc => HCT.out [T] _ z ⟨v, HBV.out, HTT.out.symm, .inl ⟨hc, rfl, rfl, hz⟩⟩
              have HGO : Hid (codP (plays ss) pos v = 0 → ∀ L e A, RunA (plays ss) m (upP pos v) L e A → RunsA (plays ss) m ((P ++ [T]) ++ L) e A) := fun hc L e A h => by
                rw [List.append_assoc]
                exact HCT.out (T :: L) e A ⟨v, HBV.out, HTT.out.symm, .inr ⟨hc, h⟩⟩
              have HUP : Hid (∀ j, j < m → upP pos v j ≤ (plays ss j).ts.length) := upP_le HPL.out HBV.out.2.1
              have HUS : Hid ((P ++ [T]).length = sumN (upP pos v) m) := by
                show _ = _
                rw [List.length_append, List.length_singleton, HPS.out, sum_up pos v m hvi]
              obtain ⟨K, hK⟩ : ∃ K, (ss.getD v src0).ts.length = K := ⟨_, rfl⟩
              obtain ⟨fn, hfn⟩ : ∃ x, (ss.getD v src0).fin = x := ⟨_, rfl⟩
              obtain ⟨sc, hsc⟩ : ∃ x, (ss.getD v src0).c = x := ⟨_, rfl⟩
              obtain ⟨nk, hnk⟩ : ∃ x, ((ss.getD v src0).ts.getD (pos v + 1) th0).key = x := ⟨_, rfl⟩
              obtain ⟨q, hq⟩ : ∃ q, pos v = q := ⟨_, rfl⟩
              have HQ := hide hq
              rw [hnk] at HCL HCOD
              rw [hK, hfn, hq] at HCOD
              rw [hK, hfn, hsc, hq] at HCL
              rw [hK] at hpv HKL
              rw [hq] at hpv
              have hKl : K ≤ 1048576 := HKL.out
              clear hK hfn hsc hnk hq HKL
              obtain ⟨tk, tn⟩ := T
              obtain ⟨b, off, b2, o2, ha, c0, c1, ⟨t0, t1⟩, _⟩ := HCL.out wr HRB.out.bel
              subst ha
              have p0 := (HRB.out.at_.cell v hvi).1
              rw [HQ.out] at p0
              have hqK : (q : Int) < (K : Int) := by omega
              obtain ⟨x0, _⟩ := two_of HRB.out.tld
              have HPX : Hid (∀ V, Below wr.heap.size wr V → V.cell? ⟨gt, 0, none⟩ = some (.slice al P.length cl)) := fun V hV => (two_of (HRB.out.below hV).tld).1
              simp only at t0 t1
              obtain ⟨g7, hg7⟩ : ∃ g, wr.heap.size = g := ⟨_, rfl⟩
              obtain ⟨w7, hw7⟩ : ∃ w7, wr.alloc (.cells #[.int .i64 tk, .int .i64 tn] 36) = w7 := ⟨_, rfl⟩
              have HB7 : Hid (Below wr.heap.size wr w7) := by rw [← hw7]; exact (Below.refl _ _).alloc (Nat.le_refl _) _
              have B7 : Hid (Below w7.heap.size w7 w7.drew) := (Below.refl _ _).drew
              have HX7 : Hid (w7.drew.heap[g7]? = some (.cells #[.int .i64 tk, .int .i64 tn] 36)) := by
                have h1 : w7.heap[g7]? = some (.cells #[.int .i64 tk, .int .i64 tn] 36) := by rw [← hw7, ← hg7]; exact heap_alloc_new _ _
                exact (B7.out.block g7 (lt_row h1)).trans h1
              have HBB := hide (below_trans HB7.out B7.out)
              have HO7 := hide ((HRB.out.below HBB.out).own)
              have HSZ7 : Hid (w.heap.size ≤ w7.drew.heap.size) := (HRB.out.below HBB.out).bel.size
              have u0 := HPX.out w7 HB7.out
              have u1 := HPX.out w7.drew HBB.out
              go_upto_region 19 with fail
              go_cut [8] from 52 to 201 (fun s8 wx => .int .i64 (v : Int) = s8 ∧ ∃ g8 c8 : Nat, Hid (RR w wx gr gt ga gk m (some ⟨g8, 0, none⟩) c8 (P ++ [⟨tk, tn⟩]) pos (fun j => pos j + 1)))
              case first =>
                focus
                  go_region_law (refine step_pushT rfl (.tmp 106) (.tmp 118) rfl 119 rfl w.heap.size (.slice al P.length cl) P (by first | rfl | (simp [Act.eval]; done)) HO7.out g7 ⟨tk, tn⟩ (by first | rfl | (simp [Act.eval]; done)) HX7.out (by omega) HSZ7.out ?_
                                 intro g8 c8 w8 ho8 hg8
                                 have HR8 := hide (HRB.out.push HBB.out ho8 hg8)
                                 have ht8 := (hg8.block gt (lt_row (HRB.out.below HBB.out).tld) (fun e => own_ne (HRB.out.below HBB.out).own (HRB.out.below HBB.out).tld (by decide) e.symm)).trans (HRB.out.below HBB.out).tld
                                 obtain ⟨i0, i1⟩ := two_of ht8
                                 have f0 : w8.frozen? ⟨gt, 0, none⟩ = false := frozen_of_row _ _ _ _ _ ht8
                                 clear ho8 hg8 ht8)
                  all_goals
                    go_wp2_with fail
                    go_meet
                    case rel => exact ⟨rfl, g8, c8, HR8⟩
              case rest =>
                as_aux_lemma =>
                  obtain ⟨rfl, g8, c8, HR9⟩ := hcut
                  clear x0 u0 u1 HX7 HO7 HSZ7 HBB B7 HB7 hw7 hg7 HPX c0 c1 t0 t1 p0 HRB HB HRR
                  obtain ⟨w9, rfl⟩ : ∃ w9, w9 = wc := ⟨_, rfl⟩
                  obtain ⟨r, hr⟩ : ∃ r, q + 1 = r := ⟨_, rfl⟩
                  obtain ⟨r2, hr2⟩ : ∃ r2, r + 1 = r2 := ⟨_, rfl⟩
                  have HCM : Hid (∀ V, Below w.heap.size w V → ∃ b2 o2, V.cell? ⟨b, off + v * 2, none⟩ = some (.slice (some ⟨b2, o2, none⟩) K sc) ∧ V.cell? ⟨b, off + v * 2 + 1, none⟩ = some (.int .i64 fn) ∧ (V.cell? ⟨b2, o2 + q * 2, none⟩ = some (.int .i64 tk) ∧ V.cell? ⟨b2, o2 + q * 2 + 1, none⟩ = some (.int .i64 tn)) ∧ (r < K → V.cell? ⟨b2, o2 + r * 2, none⟩ = some (.int .i64 nk))) := fun V hV => by
                    obtain ⟨b', off', b2', o2', ha, q0, q1, q2, q3⟩ := HCL.out V hV
                    simp only [Option.some.injEq, Addr.mk.injEq] at ha
                    obtain ⟨rfl, rfl, _⟩ := ha
                    rw [hr] at q3
                    exact ⟨b2', o2', q0, q1, q2, q3⟩
                  have HCD : Hid (codP (plays ss) pos v = if r < K then (if nk < tk then 61 else 0) else fn) := by have h := HCOD.out; rw [hr] at h; exact h
                  have HRQ : Hid (q + 1 = r ∧ r + 1 = r2) := ⟨hr, hr2⟩
                  have hqr : (q : Int) + 1 = (r : Int) := by omega
                  have hrr : (r : Int) + 1 = (r2 : Int) := by omega
                  have hrK : r ≤ K := by omega
                  have hrl : r ≤ 1048576 := by omega
                  clear HCL HCOD hr hr2
                  obtain ⟨b4, o4, c0, c1, ⟨t0, t1⟩, _⟩ := HCM.out w9 HR9.out.bel
                  have p0 := (HR9.out.at_.cell v hvi).1
                  rw [HQ.out] at p0
                  go_upto_region 20 with fail
                  go_cut [10] from 52 to 201 (fun s10 wx => .int .i64 tk = s10 ∧ Hid (Below w9.heap.size w9 wx))
                  case first =>
                    focus
                      go_quiet (fail)
                      go_wp2_with fail
                      go_meet
                      case rel => exact ⟨rfl, below_drewN' _ _ _⟩
                  case rest =>
                    focus
                      obtain ⟨rfl, HB10⟩ := hcut
                      have HR10 := hide (HR9.out.below HB10.out)
                      clear HR9 HB10 c0 c1 t0 t1 p0
                      obtain ⟨p0, p1⟩ := HR10.out.at_.cell v hvi
                      rw [HQ.out] at p0
                      obtain ⟨w11, hw11⟩ : ∃ w11, wc.setCell ⟨ga, v, none⟩ (.int .i64 (r : Int)) = w11 := ⟨_, rfl⟩
                      have HR11 : Hid (RR w w11 gr gt ga gk m (some ⟨g8, 0, none⟩) c8 (P ++ [⟨tk, tn⟩]) (upP pos v) (fun j => pos j + 1)) := by
                        rw [← hw11]
                        refine (HR10.out.setAt v r hvi).congr (fun x hx => ?_) (fun _ _ => rfl)
                        show upP pos v x = if x = v then r else pos x
                        unfold upP
                        by_cases e : x = v
                        · rw [if_pos e, if_pos e, e, HQ.out]; exact HRQ.out.1
                        · rw [if_neg e, if_neg e]
                      obtain ⟨k0, k1⟩ := HR11.out.ask.cell v hvi
                      rw [show pos v + 1 = r by rw [HQ.out]; exact HRQ.out.1] at k0
                      obtain ⟨w12, hw12⟩ : ∃ w12, w11.setCell ⟨gk, v, none⟩ (.int .i64 (r2 : Int)) = w12 := ⟨_, rfl⟩
                      have HR12 : Hid (RR w w12 gr gt ga gk m (some ⟨g8, 0, none⟩) c8 (P ++ [⟨tk, tn⟩]) (upP pos v) (fun j => upP pos v j + 1)) := by
                        rw [← hw12]
                        refine (HR11.out.setAsk v r2 hvi).congr (fun _ _ => rfl) (fun x hx => ?_)
                        show upP pos v x + 1 = if x = v then r2 else pos x + 1
                        unfold upP
                        by_cases e : x = v
                        · rw [if_pos e, if_pos e, e, HQ.out]; have := HRQ.out; omega
                        · rw [if_neg e, if_neg e]
                      go_upto_region 23 with fail
                      clear p0 p1 k0 k1 hw11 hw12 HR10 HR11
                      obtain ⟨b5, o5, c0, c1, ⟨t0, t1⟩, tn1⟩ := HCM.out w12 HR12.out.bel
                      have HTN := hide tn1
                      clear tn1
                      have p0 := (HR12.out.at_.cell v hvi).1
                      rw [show upP pos v v = r by unfold upP; rw [if_pos rfl, HQ.out]; exact HRQ.out.1] at p0
                      have HPV : Hid (upP pos v v = r) := by show upP pos v v = r; unfold upP; rw [if_pos rfl, HQ.out]; exact HRQ.out.1
                      go_cut [163] from 52 to 201 (fun s163 wx => ∃ tt : Bool, .bool tt = s163 ∧ Hid (tt = true → r = K ∧ fn ≠ 0) ∧ Hid (tt = false → r < K ∨ fn = 0) ∧ Hid (Below w12.heap.size w12 wx))
                      case first =>
                        focus
                          by_cases hrK2 : r = K
                          · subst hrK2
                            by_cases hf0 : fn = 0
                            · subst hf0
                              go_quiet (fail)
                              go_wp2_with fail
                              go_meet
                              case rel => exact ⟨false, rfl, (fun h => by cases h), (fun _ => .inr (by trivial)), below_drewN' _ _ _⟩
                            · have d1 : (fn != 0) = true := by simp; exact hf0
                              have d2 : decide (fn = 0) = false := by simp; exact hf0
                              go_quiet (fail)
                              go_wp2_with fail
                              go_meet
                              case rel => exact ⟨true, rfl, (fun _ => ⟨by trivial, hf0⟩), (fun h => by cases h), below_drewN' _ _ _⟩
                          · have d1 : ((r : Int) == (K : Int)) = false := by simp; omega
                            have d2 : decide ((r : Int) = (K : Int)) = false := by rw [decide_eq_false_iff_not]; omega
                            have d3 : (r == K) = false := by simp; exact hrK2
                            have d4 : decide (r = K) = false := by simp; exact hrK2
                            go_quiet (fail)
                            go_wp2_with fail
                            go_meet
                            case rel => exact ⟨false, rfl, (fun h => by cases h), (fun _ => .inl (by omega)), below_drewN' _ _ _⟩
                      case rest =>
                        as_aux_lemma =>
                          obtain ⟨tt, rfl, HT1, HT2, HBX⟩ := hcut
                          have HR13 := hide (HR12.out.below HBX.out)
                          clear c0 c1 t0 t1 p0 HTN
                          obtain ⟨b6, o6, c0, c1, _, tn1⟩ := HCM.out wc HR13.out.bel
                          cases tt with
                          | true =>
                            focus
                              obtain ⟨rfl, hf0⟩ := HT1.out rfl
                              have f1 : wc.frozen? ⟨gt, 1, none⟩ = false := frozen_of_row _ _ _ _ _ HR13.out.tld
                              have s1 := (two_of HR13.out.tld).2
                              obtain ⟨w14, hw14⟩ : ∃ w14, wc.setCell ⟨gt, 1, none⟩ (.int .i64 fn) = w14 := ⟨_, rfl⟩
                              have HZ := hide (HR13.out.out fn w14 (.inl hw14.symm))
                              obtain ⟨⟨x0, x1⟩, ⟨y0, y1⟩, z0, z1⟩ := HR13.out.outc fn w14 (.inl hw14.symm)
                              have HCE : Hid (codP (plays ss) pos v = fn) := by have h := HCD.out; rw [if_neg (by omega)] at h; exact h
                              have HRM : Hid (RunsA (plays ss) m (P ++ [⟨tk, tn⟩]) fn (fun j => upP pos v j + 1)) := by
                                have h := HAF.out (fun j => upP pos v j + 1) (fun j hj => rfl) (by rw [HCE.out]; exact hf0)
                                rw [HCE.out] at h
                                exact h
                              clear tn1
                              obtain ⟨l1, hl1⟩ : ∃ l, (P ++ [⟨tk, tn⟩] : List Th).length = l := ⟨_, rfl⟩
                              rw [hl1] at x0
                              have HZ1 := hide HZ.out.1
                              rw [hl1] at HZ1
                              have HL1 := hide hl1
                              clear hl1
                              go_wp2_with fail
                              refine bodyPost_ret (results_told rfl _ _ gr _ _ rfl HZ1.out) rfl ?_
                              rw [← HL1.out]
                              exact ⟨some ⟨g8, 0, none⟩, c8, P ++ [⟨tk, tn⟩], fn, gk, rfl, fun j => upP pos v j + 1, HRM.out, HZ.out.2.1, HZ.out.2.2.1, HZ.out.2.2.2⟩
                          | false =>
                            focus
                              have p0 := (HR13.out.at_.cell v hvi).1
                              rw [HPV.out] at p0
                              have HTF := hide (HT2.out rfl)
                              go_upto_region 26 with fail
                              go_cut [198] from 52 to 201 (fun s198 wx => ∃ tt : Bool, .bool tt = s198 ∧ Hid (tt = true → r < K ∧ nk < tk) ∧ Hid (tt = false → codP (plays ss) pos v = 0) ∧ Hid (Below wc.heap.size wc wx))
                              case first =>
                                focus
                                  by_cases hrK2 : r < K
                                  · have n0 := tn1 hrK2
                                    have d1 : decide ((r : Int) < (K : Int)) = true := by rw [decide_eq_true_iff]; omega
                                    have d2 : decide (r < K) = true := by simpa using hrK2
                                    have d3 : (r : Int) < (K : Int) := by omega
                                    clear tn1
                                    by_cases hnt : nk < tk
                                    · have d4 : decide (nk < tk) = true := by simpa using hnt
                                      go_quiet (fail)
                                      go_wp2_with fail
                                      go_meet
                                      case rel => exact ⟨true, rfl, (fun _ => ⟨hrK2, hnt⟩), (fun h => by cases h), below_drewN' _ _ _⟩
                                    · have d4 : decide (nk < tk) = false := by simpa using hnt
                                      go_quiet (fail)
                                      go_wp2_with fail
                                      go_meet
                                      case rel => exact ⟨false, rfl, (fun h => by cases h), (fun _ => by have h := HCD.out; rw [if_pos hrK2, if_neg (by omega)] at h; exact h), below_drewN' _ _ _⟩
                                  · have d1 : decide ((r : Int) < (K : Int)) = false := by rw [decide_eq_false_iff_not]; omega
                                    have d2 : decide (r < K) = false := by simpa using hrK2
                                    have HC0 : Hid (codP (plays ss) pos v = 0) := by
                                      have h := HCD.out
                                      rw [if_neg hrK2] at h
                                      rcases HTF.out with e | e
                                      · exact absurd e hrK2
                                      · exact h.trans e
                                    clear tn1
                                    go_quiet (fail)
                                    go_wp2_with fail
                                    go_meet
                                    case rel => exact ⟨false, rfl, (fun h => by cases h), (fun _ => HC0.out), below_drewN' _ _ _⟩
                              case rest =>
                                focus
                                  obtain ⟨tt, rfl, HU1, HU2, HBY⟩ := hcut
                                  have HR14 := hide (HR13.out.below HBY.out)
                                  clear c0 c1 p0 tn1
                                  cases tt with
                                  | true =>
                                    focus
                                      obtain ⟨hrK2, hnt⟩ := HU1.out rfl
                                      have HCE : Hid (codP (plays ss) pos v = 61) := by have h := HCD.out; rw [if_pos hrK2, if_pos hnt] at h; exact h
                                      have HRM : Hid (RunsA (plays ss) m (P ++ [⟨tk, tn⟩]) 61 (fun j => upP pos v j + 1)) := by
                                        have h := HAF.out (fun j => upP pos v j + 1) (fun j hj => rfl) (by rw [HCE.out]; decide)
                                        rw [HCE.out] at h
                                        exact h
                                      obtain ⟨w13, rfl⟩ : ∃ w13, w13 = wc := ⟨_, rfl⟩
                                      have f1 : w13.frozen? ⟨gt, 1, none⟩ = false := frozen_of_row _ _ _ _ _ HR14.out.tld
                                      have s1 := (two_of HR14.out.tld).2
                                      obtain ⟨w14, hw14⟩ : ∃ w14, w13.setCell ⟨gt, 1, none⟩ (.int .i64 61) = w14 := ⟨_, rfl⟩
                                      have HZ := hide (HR14.out.out 61 w14 (.inl hw14.symm))
                                      obtain ⟨⟨x0, x1⟩, ⟨y0, y1⟩, z0, z1⟩ := HR14.out.outc 61 w14 (.inl hw14.symm)
                                      obtain ⟨l1, hl1⟩ : ∃ l, (P ++ [⟨tk, tn⟩] : List Th).length = l := ⟨_, rfl⟩
                                      rw [hl1] at x0
                                      have HZ1 := hide HZ.out.1
                                      rw [hl1] at HZ1
                                      have HL1 := hide hl1
                                      clear hrK2 hnt hl1
                                      go_wp2_with fail
                                      refine bodyPost_ret (results_told rfl _ _ gr _ _ rfl HZ1.out) rfl ?_
                                      rw [← HL1.out]
                                      exact ⟨some ⟨g8, 0, none⟩, c8, P ++ [⟨tk, tn⟩], 61, gk, rfl, fun j => upP pos v j + 1, HRM.out, HZ.out.2.1, HZ.out.2.2.1, HZ.out.2.2.2⟩
                                  | false =>
                                    focus
                                      have hc0 := HU2.out rfl
                                      have HGG := hide (HGO.out hc0)
                                      have HLA := hide HR14.out.lenAt
                                      clear hc0
                                      go_wp2_with fail
                                      go_roundw
                                      case rel => exact ⟨P ++ [⟨tk, tn⟩], upP pos v, some ⟨g8, 0, none⟩, c8, HR14, HUP, HUS, HGG⟩
                                      case measure =>
                                        have h1 := HLA.out
                                        have h2 := HLW.out
                                        rw [List.length_append, List.length_singleton] at h1
                                        rw [h1, h2]
                                        omega
end Go.Proofs.Ytcnfkgmefikcjaa.Me
