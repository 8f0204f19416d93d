/-
  MergeUpTo, walked.
-/
import Derived.Test.YtiepinhkmcjmkaaMeBrkS
import Derived.Test.YtiepinhkmcjmkaaMeHead
import Derived.Test.YtiepinhkmcjmkaaMeStab
import Derived.Deep.DeepCutAuto
import Derived.Deep.RegionHeldLaw
import Derived.Laws.StructEq
namespace Go.Proofs.Ytiepinhkmcjmkaa.Me
open Go.ChangeShapes Go.WideShapes Go.ChangeAt Go.RowKit
open Go.Proofs.Ytiepinhkmcjmkaa.Base
set_option linter.unusedVariables false
set_option maxHeartbeats 8000000 in
set_option maxRecDepth 100000 in
theorem upwalk (a : Option Addr) (c : Nat) (ss : List Src) (x y : Int) (w : World) (hR : Rdy w a ss) (hl : ∀ j, j < ss.length → (ss.getD j src0).ts.length ≤ 1048576) (hn : ss.length ≤ 1048576) (hx : (Lit.int .i64 x).wf = true) (hy : (Lit.int .i64 y).wf = true) :
    Calls Try.prog 4 #[.slice a ss.length c, .int .i64 x, .int .i64 y] w fun e w' => e = .returned (.bool true) ∧ Below w.heap.size w w' := by
  have HTI := hide (tidy_any a c ss w hR.rdq hR.rdh hl (by omega))
  clear hR hl
  go_enter Try.func4, Try.ntmps4
  go_upto_region 2 with (go_at_call 15; refine HTI.out.mono ?_; rintro e w1 ⟨a1, c1, us, rfl, hou, hti, h64, hle, hb1⟩; have HOU := hide hou; have HTD := hide hti; have HLE := hide hle; have H64 := hide h64; have HB1 := hide hb1; clear hou hti hle h64 hb1)
  have HRY := hide HOU.out.rdy
  have HFR := hide (feed_run a1 c1 us w1 HRY.out H64.out HLE.out)
  obtain ⟨M, hM⟩ : ∃ M, us.length = M := ⟨_, rfl⟩
  have HM := hide hM
  rw [hM] at H64 HFR HTD ⊢
  clear hM HTI
  by_cases hM0 : M = 0
  · subst hM0
    go_wp2_with (go_at_call 16; refine (head_any _).mono ?_; rintro e w5 ⟨rfl, hb5⟩; have HB5 := hide (below_trans HB1.out hb5); clear hb5)
    go_ret
    exact ⟨rfl, HB5.out⟩
  · have hMp : 0 < M := by omega
    have hMi : ¬ (M : Int) = 0 := by omega
    have hMb : ((M : Int) == 0) = false := by simp; omega
    obtain ⟨hr1, hr2⟩ := rem_in x M hMp
    go_upto_if 29 with fail
    generalize x.tmod (M : Int) = r at hr1 hr2 ⊢
    have H6 : M ≤ 64 := H64.out
    go_cut [1] (fun s1 wx => ∃ wh : Nat, wh < M ∧ .int .i64 (wh : Int) = s1 ∧ w1 = wx)
    case first =>
      by_cases hr0 : r < 0
      · obtain ⟨wh, hwh⟩ : ∃ wh : Nat, r + (M : Int) = (wh : Int) := ⟨(r + M).toNat, by omega⟩
        have hw : IntKind.i64.wrap (r + (M : Int)) = (wh : Int) := by rw [IntKind.wrap_i64, hwh]; omega
        have hd : decide (r < 0) = true := by simpa using hr0
        have hwm : wh < M := by omega
        clear hwh
        go_wp2_with fail
        go_meet
        case rel => exact ⟨wh, hwm, rfl, rfl⟩
      · obtain ⟨wh, rfl⟩ : ∃ wh : Nat, r = (wh : Int) := ⟨r.toNat, by omega⟩
        have hd : decide ((wh : Int) < 0) = false := by rw [decide_eq_false_iff_not]; omega
        have hwm : wh < M := by omega
        go_wp2_with fail
        go_meet
        case rel => exact ⟨wh, hwm, rfl, rfl⟩
    case rest =>
      obtain ⟨wh, hwh, rfl, rfl⟩ := hcut
      clear hr1 hr2
      have hwi : (wh : Int) < (M : Int) := by omega
      go_upto_region 8 with (first
        | (go_at_call 9; refine HFR.out.mono ?_; rintro e w2 ⟨al, cl, gl, rfl, hb2, hrun⟩; have HB2 := hide hb2; have HRUN := hide hrun; clear hb2 hrun)
        | (go_at_call 17; refine HRUN.out.mono ?_; rintro e w3 ⟨a3, c3, W, xx, rfl, hru, how, hb3⟩; have HRW := hide hru; have HOW := hide how.rd; have HB3 : Hid (Below w1.heap.size w1 w3) := HB2.out.trans hb3; clear hru how hb3))
      have HRY3 := hide (HRY.out.below HB3.out)
      have HOU3 := hide (HOU.out.below HB3.out)
      obtain ⟨b, off, rfl, hbl, hcs⟩ := HRY3.out.rdq (by rw [HM.out]; omega)
      have HCS := hide (fun j (hj : j < M) => hcs j (by rw [HM.out]; exact hj))
      have HBL := hide hbl
      have c0 := (hcs wh (by rw [HM.out]; exact hwh)).1
      clear hcs hbl
      obtain ⟨K, hK⟩ : ∃ K, (us.getD wh src0).ts.length = K := ⟨_, rfl⟩
      rw [hK] at c0
      have HK := hide hK
      have hKl : K ≤ 1048576 := by rw [← hK]; exact HLE.out wh (by rw [HM.out]; exact hwh)
      clear hK
      have HC0 := hide c0
      generalize (us.getD wh src0).a = sa at c0
      generalize (us.getD wh src0).c = sc at c0
      go_cut [52] (fun s52 wx => ∃ tt : Bool, .bool tt = s52 ∧ Hid (tt = true → y < 0 ∨ (K : Int) < y) ∧ Hid (tt = false → 0 ≤ y ∧ y ≤ (K : Int)) ∧ w3 = wx)
      case first =>
        by_cases hy0 : y < 0
        · have d1 : decide (y < 0) = true := by simpa using hy0
          go_wp2_with fail
          go_meet
          case rel => exact ⟨true, rfl, (fun _ => .inl hy0), (fun h => by cases h), rfl⟩
        · have d1 : decide (y < 0) = false := by simpa using hy0
          by_cases hyK : (K : Int) < y
          · have d2 : decide ((K : Int) < y) = true := by simpa using hyK
            go_wp2_with fail
            go_meet
            case rel => exact ⟨true, rfl, (fun _ => .inr hyK), (fun h => by cases h), rfl⟩
          · have d2 : decide ((K : Int) < y) = false := by simpa using hyK
            go_wp2_with fail
            go_meet
            case rel => exact ⟨false, rfl, (fun h => by cases h), (fun _ => ⟨by omega, by omega⟩), rfl⟩
      case rest =>
        obtain ⟨tt, rfl, HT1, HT2, rfl⟩ := hcut
        go_upto_if 52 with fail
        go_cut [2] (fun s2 wx => ∃ k : Nat, k ≤ K ∧ .int .i64 (k : Int) = s2 ∧ w3 = wx)
        case first =>
          cases tt with
          | true =>
            go_wp2_with fail
            go_meet
            case rel => exact ⟨K, Nat.le_refl _, rfl, rfl⟩
          | false =>
            obtain ⟨h1, h2⟩ := HT2.out rfl
            obtain ⟨k, rfl⟩ : ∃ k : Nat, y = (k : Int) := ⟨y.toNat, by omega⟩
            go_wp2_with fail
            go_meet
            case rel => exact ⟨k, by omega, rfl, rfl⟩
        case rest =>
          obtain ⟨k, hkK, rfl, rfl⟩ := hcut
          clear HT1 HT2 c0
          obtain ⟨gl, hgl⟩ : ∃ g, w3.heap.size = g := ⟨_, rfl⟩
          obtain ⟨w4, hw4⟩ : ∃ w4, w3.alloc (.cells #[.int .i64 0, .int .i64 (-1)] 36) = w4 := ⟨_, rfl⟩
          have HB4 : Hid (Below w3.heap.size w3 w4) := by rw [← hw4]; exact (Below.refl _ _).alloc (Nat.le_refl _) _
          have HG4 : Hid (w4.heap[gl]? = some (.cells #[.int .i64 0, .int .i64 (-1)] 36)) := by rw [← hw4, ← hgl]; exact heap_alloc_new _ _
          have HGL := hide hgl
          go_upto_if 61 with fail
          go_cut [10] (fun s10 wx => .pointer (some ⟨gl, 0, none⟩) = s10 ∧ ∃ tk tn : Int, Hid (wx.heap[gl]? = some (.cells #[.int .i64 tk, .int .i64 tn] 36)) ∧ Hid (0 < k → (us.getD wh src0).ts.getD (k - 1) th0 = ⟨tk, tn⟩) ∧ Hid (Below w3.heap.size w3 wx))
          case first =>
            by_cases hk0 : k = 0
            · subst hk0
              go_wp2_with fail
              go_meet
              case rel => exact ⟨rfl, 0, -1, HG4, (fun h => absurd h (by omega)), HB4⟩
            · obtain ⟨m, hm⟩ : ∃ m, k - 1 = m := ⟨_, rfl⟩
              have hm1 : IntKind.i64.wrap ((k : Int) - 1) = (m : Int) := by rw [IntKind.wrap_i64]; omega
              have hm0 : (k : Int) - 1 = (m : Int) := by omega
              have hk1 : (0 : Int) < (k : Int) := by omega
              have hkd : decide ((0 : Int) < (k : Int)) = true := by simpa using hk1
              have hmK : (m : Int) < (K : Int) := by omega
              have c0 := (HB4.out.cell (p := ⟨b, off + wh * 2, none⟩) HBL.out).trans HC0.out
              obtain ⟨b2, o2, hsa, hb2, hc2⟩ := (HRY3.out.rdh wh (by rw [HM.out]; exact hwh)) (by rw [HK.out]; omega)
              rw [hsa] at c0
              obtain ⟨t0, t1⟩ := hc2 m (by rw [HK.out]; omega)
              have p0 := (HB4.out.cell (p := ⟨b2, o2 + m * 2, none⟩) hb2).trans t0
              have p1 := (HB4.out.cell (p := ⟨b2, o2 + m * 2 + 1, none⟩) hb2).trans t1
              clear hc2 t0 t1 hsa
              generalize (us.getD wh src0).c = sc at c0
              obtain ⟨T, hT⟩ : ∃ T, (us.getD wh src0).ts.getD m th0 = T := ⟨_, rfl⟩
              rw [hT] at p0 p1
              have HTT : Hid ((us.getD wh src0).ts.getD (k - 1) th0 = T) := by rw [hm]; exact hT
              clear hT hm
              obtain ⟨tk, tn⟩ := T
              simp only at p0 p1
              have HX : Hid (((w4.setCell ⟨gl, 0, none⟩ (.int .i64 tk)).setCell ⟨gl, 1, none⟩ (.int .i64 tn)).heap[gl]? = some (.cells #[.int .i64 tk, .int .i64 tn] 36)) := by rw [heap_setCell_same _ _ _ _ _ _ (heap_setCell_same _ _ _ _ _ _ HG4.out)]; rfl
              have HY : Hid (Below w3.heap.size w3 ((w4.setCell ⟨gl, 0, none⟩ (.int .i64 tk)).setCell ⟨gl, 1, none⟩ (.int .i64 tn))) := below_by HB4.out (grown_cell (grown_cell (World.grownBy.refl _ (some gl)) _ _) _ _) (fun j e => by have e2 : gl = j := Option.some.inj e; have := HGL.out; omega)
              obtain ⟨q0, q1⟩ := two_of HG4.out
              have f0 : w4.frozen? ⟨gl, 0, none⟩ = false := frozen_of_row _ _ _ _ _ HG4.out
              have f1 : w4.frozen? ⟨gl, 1, none⟩ = false := frozen_of_row _ _ _ _ _ HG4.out
              go_wp2_with fail
              go_meet
              case rel => exact ⟨rfl, tk, tn, HX, (fun _ => HTT.out), HY⟩
          case rest =>
            obtain ⟨rfl, tk, tn, HGX, HTK, HBX⟩ := hcut
            clear HB4 HG4 hw4 w4
            obtain ⟨w4, rfl⟩ : ∃ w4, w4 = wc := ⟨_, rfl⟩
            go_wp2_with fail
            go_loopw [11, 12] (fun s11 s12 wr => ∃ (i cb : Nat) (ab : Option Addr), i ≤ M ∧ .slice ab i cb = s11 ∧ .int .i64 (i : Int) = s12 ∧ Hid (OwnQ wr w4.heap.size (.slice ab i cb) (brkL us wh k i)) ∧ Hid (Below w4.heap.size w4 wr)) (fun _ s12 _ => M - (intOf s12).toNat)
            case atStart => exact ⟨0, 0, none, by omega, rfl, rfl, ⟨rfl, .inl ⟨rfl, rfl⟩⟩, Below.refl _ _⟩
            case round =>
              obtain ⟨i, cb, ab, hi, rfl, rfl, HOQ, HB5⟩ := hrel
              have HW5 := hide (below_trans HBX.out HB5.out)
              by_cases hiM : i < M
              · have hii : (i : Int) < (M : Int) := by omega
                obtain ⟨q0, q1⟩ := HCS.out i hiM
                have c0 := (HW5.out.cell (p := ⟨b, off + i * 2, none⟩) HBL.out).trans q0
                have c1 := (HW5.out.cell (p := ⟨b, off + i * 2 + 1, none⟩) HBL.out).trans q1
                clear q0 q1
                have HOWi := hide (HOU3.out.own _ (getD_srcmem (us := us) (j := i) (by rw [HM.out]; exact hiM)))
                obtain ⟨t, ht⟩ : ∃ t, us.getD i src0 = t := ⟨_, rfl⟩
                have HTI := hide ht
                rw [ht] at c0 c1 HOWi
                clear ht
                obtain ⟨ia, ic, its, ifin⟩ := t
                simp only at c0 c1
                obtain ⟨I, hI⟩ : ∃ I, its.length = I := ⟨_, rfl⟩
                have HI := hide hI
                have HOWj : Hid (OwnT w3 w.heap.size (.slice ia I ic) its) := by rw [← hI]; exact HOWi.out
                rw [hI] at c0
                clear hI HOWi
                by_cases hiw : wh = i
                · have HKI : Hid (K = I) := by have h1 := HK.out; have h2 := HTI.out; rw [← hiw] at h2; rw [h2] at h1; exact h1.symm.trans HI.out
                  have hkI : k ≤ I := by have := HKI.out; omega
                  subst hiw
                  obtain ⟨hcut1, _⟩ := cutT HOWj.out k hkI
                  have HLT : Hid ((its.take k).length = k) := by rw [List.length_take]; have := HI.out; show _ = _; omega
                  obtain ⟨g5, hg5⟩ : ∃ g, wr.heap.size = g := ⟨_, rfl⟩
                  obtain ⟨w5, hw5⟩ : ∃ w5, wr.alloc (.cells #[.slice ia k ic, .int .i64 77] 49) = w5 := ⟨_, rfl⟩
                  obtain ⟨g6, hg6⟩ : ∃ g, w5.heap.size = g := ⟨_, rfl⟩
                  obtain ⟨w6, hw6⟩ : ∃ w6, w5.alloc (.cells #[.slice ia k ic, .int .i64 77] 49) = w6 := ⟨_, rfl⟩
                  have HA5 : Hid (Below wr.heap.size wr w5) := by rw [← hw5]; exact (Below.refl _ _).alloc (Nat.le_refl _) _
                  have HA6 : Hid (Below w5.heap.size w5 w6) := by rw [← hw6]; exact (Below.refl _ _).alloc (Nat.le_refl _) _
                  have HR5 : Hid (w5.heap[g5]? = some (.cells #[.slice ia k ic, .int .i64 77] 49)) := by rw [← hw5, ← hg5]; exact heap_alloc_new _ _
                  have HR6 : Hid (w6.heap[g6]? = some (.cells #[.slice ia k ic, .int .i64 77] 49)) := by rw [← hw6, ← hg6]; exact heap_alloc_new _ _
                  obtain ⟨s0, s1⟩ := two_of HR5.out
                  have HA := hide (below_trans HA5.out HA6.out)
                  have HOQ6 := hide (HOQ.out.below HA.out)
                  have HB6 := hide (below_trans HB5.out HA.out)
                  have HTE : Hid (brkL us wh k (wh + 1) = brkL us wh k wh ++ [⟨ia, ic, its.take k, 77⟩]) := by show _ = _; rw [brk_succ]; unfold brkS; rw [HTI.out]; rw [if_pos rfl]
                  go_wp2_with (at_builtin; refine pushSrc _ rfl _ _ rfl w4.heap.size (.slice ab wh cb) (brkL us wh k wh) rfl (by rw [length_brk]; have h := HOQ6.out; unfold OwnQ at h; rw [length_brk] at h; exact h) g6 ⟨ia, ic, its.take k, 77⟩ rfl (by rw [HLT.out]; exact HR6.out) (by rw [length_brk]; omega) HB6.out.size ?_; intro g7 c7 w7 hr7 hg7 hv7; rw [length_brk] at hr7 ⊢; have HO7 : Hid (OwnQ w7 w4.heap.size (.slice (some ⟨g7, 0, none⟩) (wh + 1) c7) (brkL us wh k (wh + 1))) := (by unfold OwnQ; rw [length_brk, HTE.out]; exact hr7); have HB7 := hide (below_by HB6.out hg7 (fun j e => (row_blk HOQ6.out j e).1)); clear hr7 hg7 hv7)
                  go_roundw
                  case rel => exact ⟨wh + 1, c7, some ⟨g7, 0, none⟩, by omega, rfl, by go_num, HO7, HB7⟩
                  case measure => simp [intOf]; omega
                · have hbe : ((i : Int) == (wh : Int)) = false := by simp; omega
                  have hbi : ¬ (i : Int) = (wh : Int) := by omega
                  obtain ⟨g5, hg5⟩ : ∃ g, wr.heap.size = g := ⟨_, rfl⟩
                  obtain ⟨w5, hw5⟩ : ∃ w5, wr.alloc (.cells #[.slice ia I ic, .int .i64 ifin] 49) = w5 := ⟨_, rfl⟩
                  obtain ⟨g6, hg6⟩ : ∃ g, w5.heap.size = g := ⟨_, rfl⟩
                  obtain ⟨w6, hw6⟩ : ∃ w6, w5.alloc (.cells #[.slice ia I ic, .int .i64 ifin] 49) = w6 := ⟨_, rfl⟩
                  have HA5 : Hid (Below wr.heap.size wr w5) := by rw [← hw5]; exact (Below.refl _ _).alloc (Nat.le_refl _) _
                  have HA6 : Hid (Below w5.heap.size w5 w6) := by rw [← hw6]; exact (Below.refl _ _).alloc (Nat.le_refl _) _
                  have HR5 : Hid (w5.heap[g5]? = some (.cells #[.slice ia I ic, .int .i64 ifin] 49)) := by rw [← hw5, ← hg5]; exact heap_alloc_new _ _
                  have HR6 : Hid (w6.heap[g6]? = some (.cells #[.slice ia I ic, .int .i64 ifin] 49)) := by rw [← hw6, ← hg6]; exact heap_alloc_new _ _
                  obtain ⟨s0, s1⟩ := two_of HR5.out
                  have HA := hide (below_trans HA5.out HA6.out)
                  have HOQ6 := hide (HOQ.out.below HA.out)
                  have HB6 := hide (below_trans HB5.out HA.out)
                  have HTE : Hid (brkL us wh k (i + 1) = brkL us wh k i ++ [⟨ia, ic, its, ifin⟩]) := by show _ = _; rw [brk_succ]; unfold brkS; rw [HTI.out]; rw [if_neg (fun e => hiw e.symm)]
                  go_wp2_with (at_builtin; refine pushSrc _ rfl _ _ rfl w4.heap.size (.slice ab i cb) (brkL us wh k i) rfl (by rw [length_brk]; have h := HOQ6.out; unfold OwnQ at h; rw [length_brk] at h; exact h) g6 ⟨ia, ic, its, ifin⟩ rfl (by rw [HI.out]; exact HR6.out) (by rw [length_brk]; omega) HB6.out.size ?_; intro g7 c7 w7 hr7 hg7 hv7; rw [length_brk] at hr7 ⊢; have HO7 : Hid (OwnQ w7 w4.heap.size (.slice (some ⟨g7, 0, none⟩) (i + 1) c7) (brkL us wh k (i + 1))) := (by unfold OwnQ; rw [length_brk, HTE.out]; exact hr7); have HB7 := hide (below_by HB6.out hg7 (fun j e => (row_blk HOQ6.out j e).1)); clear hr7 hg7 hv7)
                  go_roundw
                  case rel => exact ⟨i + 1, c7, some ⟨g7, 0, none⟩, by omega, rfl, by go_num, HO7, HB7⟩
                  case measure => simp [intOf]; omega
              · obtain rfl : i = M := by omega
                have HRB : Hid (Rdy wr ab (brkL us wh k i)) := ⟨HOQ.out.rdq, fun j hj => by
                  rw [length_brk] at hj
                  rw [getD_brk _ _ _ _ _ hj]
                  have h0 := (HRY3.out.below HW5.out).rdh j (by rw [HM.out]; exact hj)
                  unfold brkS
                  split
                  · exact h0.take k
                  · exact h0⟩
                have HLB : Hid (∀ j, j < (brkL us wh k i).length → (plays (brkL us wh k i) j).ts.length ≤ 1048576) := fun j hj => by
                  rw [length_brk] at hj
                  have h0 := HLE.out j (by rw [HM.out]; exact hj)
                  unfold plays at h0 ⊢
                  rw [getD_brk _ _ _ _ _ hj]
                  unfold brkS
                  split
                  · show ((us.getD j src0).ts.take k).length ≤ _
                    rw [List.length_take]
                    have h1 : (us.getD j src0).ts.length ≤ 1048576 := h0
                    omega
                  · exact h0
                have HFB0 := feed_run ab cb (brkL us wh k i) wr HRB.out (by rw [length_brk]; omega) HLB.out
                rw [length_brk] at HFB0
                have HFB := hide HFB0
                have HBK : Hid (Brk (plays us) (plays (brkL us wh k i)) i wh k) := by
                  have h := brk_of us wh k (by rw [HM.out]; exact hwh) (by rw [HK.out]; exact hkK)
                  rw [HM.out] at h
                  exact h
                clear HFB0 HRB HLB HFR HC0
                go_upto_region 24 with (first
                  | (go_at_call 9; refine HFB.out.mono ?_; rintro e w5 ⟨al5, cl5, gl5, rfl, hb5, hrun5⟩; have HA5 := hide hb5; have HRUN5 := hide hrun5; clear hb5 hrun5)
                  | (go_at_call 17; refine HRUN5.out.mono ?_; rintro e w6 ⟨a6, c6, L, ee, rfl, hru, how, hb6⟩; obtain ⟨rfl, hz0, hzp⟩ := HBK.out.runs HTD.out hru HRW.out; have HZ0 := hide hz0; have HZP := hide hzp; have HOL := hide how.rd; have HB6 : Hid (Below wr.heap.size wr w6) := HA5.out.trans hb6; clear hru how hb6 hz0 hzp))
                have HW6 := hide (below_trans HW5.out HB6.out)
                have HT6 := hide (below_trans HB1.out (below_trans HB3.out HW6.out))
                obtain ⟨l, hl⟩ : ∃ l, L.length = l := ⟨_, rfl⟩
                obtain ⟨Wn, hWn⟩ : ∃ n, W.length = n := ⟨_, rfl⟩
                have HLL := hide hl
                have HWN := hide hWn
                rw [hl, hWn]
                clear hl hWn
                by_cases hk0 : k = 0
                · subst hk0
                  have hl0 : l = 0 := HLL.out.symm.trans (HZ0.out rfl)
                  subst hl0
                  go_wp2_with (go_at_call 16; refine (head_any _).mono ?_; rintro e w9 ⟨rfl, hb9⟩; have HB9 := hide (below_trans HT6.out hb9); clear hb9)
                  go_ret
                  exact ⟨rfl, HB9.out⟩
                · have hki : ¬ (k : Int) = 0 := by omega
                  have hkb : ((k : Int) == 0) = false := by simp; omega
                  obtain ⟨z1, z2, z3, z4⟩ := HZP.out (by omega)
                  rw [HLL.out] at z1 z2 z3 z4
                  rw [HWN.out] at z2
                  have hWl : Wn ≤ 67108864 := by
                    have h1 := (HRW.out.tidy HTD.out).2.2.2
                    have h2 : sumN (lens (plays us)) i ≤ i * 1048576 := sum_bound (fun j hj => HLE.out j (by rw [HM.out]; exact hj))
                    rw [HWN.out] at h1
                    omega
                  have HZ3 := hide z3
                  have HZ4 := hide (z4.trans (HTK.out (by omega)))
                  clear z3 z4
                  have HXL : Hid (∀ V, Below w6.heap.size w6 V → ∃ b1 o1 b2 o2, (a6 = some ⟨b1, o1, none⟩ ∧ a3 = some ⟨b2, o2, none⟩) ∧ (b1 < V.heap.size ∧ b2 < V.heap.size) ∧ ∀ j, j < l → (V.cell? ⟨b1, o1 + j * 2, none⟩ = some (.int .i64 (L.getD j th0).key) ∧ V.cell? ⟨b1, o1 + j * 2 + 1, none⟩ = some (.int .i64 (L.getD j th0).name)) ∧ (V.cell? ⟨b2, o2 + j * 2, none⟩ = some (.int .i64 (L.getD j th0).key) ∧ V.cell? ⟨b2, o2 + j * 2 + 1, none⟩ = some (.int .i64 (L.getD j th0).name))) := fun V hV => by
                    obtain ⟨b1, o1, e1, f1, g1⟩ := (HOL.out.below hV) (by rw [HLL.out]; exact z1)
                    obtain ⟨b2, o2, e2, f2, g2⟩ := (HOW.out.below (below_trans HW6.out hV)) (by rw [HWN.out]; omega)
                    refine ⟨b1, o1, b2, o2, ⟨e1, e2⟩, ⟨f1, f2⟩, fun j hj => ⟨g1 j (by rw [HLL.out]; exact hj), ?_⟩⟩
                    have g3 := g2 j (by rw [HWN.out]; omega)
                    rw [← HZ3.out j hj] at g3
                    exact g3
                  have HGL6 : Hid (gl < w6.heap.size ∧ w6.heap[gl]? = some (.cells #[.int .i64 tk, .int .i64 tn] 36)) := by
                    have h1 := lt_row HGX.out
                    have h2 := below_trans HB5.out HB6.out
                    exact ⟨Nat.lt_of_lt_of_le h1 h2.size, (h2.block gl h1).trans HGX.out⟩
                  obtain ⟨w7, rfl⟩ : ∃ w7, w7 = wr := ⟨_, rfl⟩
                  go_wp2_with fail
                  go_loopw [17] (fun s17 wr => ∃ j : Nat, j ≤ l ∧ .int .i64 (j : Int) = s17 ∧ Hid (Below w6.heap.size w6 wr)) (fun s17 _ => l - (intOf s17).toNat)
                  case atStart => exact ⟨0, by omega, rfl, Below.refl _ _⟩
                  case round =>
                    obtain ⟨j, hj, rfl, HB8⟩ := hrel
                    obtain ⟨b1, o1, b2, o2, ⟨rfl, rfl⟩, ⟨hv1, hv2⟩, hcc⟩ := HXL.out _ HB8.out
                    by_cases hjl : j < l
                    · have hji : (j : Int) < (l : Int) := by omega
                      have hjW : (j : Int) < (Wn : Int) := by omega
                      have hjd : decide ((Wn : Int) ≤ (j : Int)) = false := by rw [decide_eq_false_iff_not]; omega
                      have hjn : j < Wn := by omega
                      have hjd2 : decide (Wn ≤ j) = false := by rw [decide_eq_false_iff_not]; omega
                      obtain ⟨⟨p0, p1⟩, q0, q1⟩ := hcc j hjl
                      clear hcc
                      generalize L.getD j th0 = Y at p0 p1 q0 q1
                      obtain ⟨yk, yn⟩ := Y
                      simp only at p0 p1 q0 q1
                      go_wp2_with fail
                      go_quiet (fail)
                      go_wp2_with fail
                      go_roundw
                      case rel => exact ⟨j + 1, by omega, by go_num, below_trans HB8.out (below_drewN' _ _ _)⟩
                      case measure => simp [intOf]; omega
                    · obtain rfl : j = l := by omega
                      obtain ⟨m, hm⟩ : ∃ m, j - 1 = m := ⟨_, rfl⟩
                      have hm1 : IntKind.i64.wrap ((j : Int) - 1) = (m : Int) := by rw [IntKind.wrap_i64]; omega
                      have hm4 : IntKind.i64.wrap (m : Int) = (m : Int) := by rw [IntKind.wrap_i64]; omega
                      have hj1 : (0 : Int) < (j : Int) := by omega
                      have hjd : decide ((0 : Int) < (j : Int)) = true := by simpa using hj1
                      have hjd2 : decide (0 < j) = true := by simpa using z1
                      have hmj : (m : Int) < (j : Int) := by omega
                      have hmn : m < j := by omega
                      obtain ⟨⟨p0, p1⟩, _, _⟩ := hcc m hmn
                      have hz := HZ4.out
                      rw [hm] at hz
                      rw [hz] at p0 p1
                      simp only at p0 p1
                      clear hcc hz hm
                      have HG8 : Hid (wr.heap[gl]? = some (.cells #[.int .i64 tk, .int .i64 tn] 36)) := (HB8.out.block gl HGL6.out.1).trans HGL6.out.2
                      obtain ⟨q0, q1⟩ := two_of HG8.out
                      have HT8 := hide (below_trans HT6.out HB8.out)
                      have HSS : Hid ((wr.cell? ⟨b1, o1 + m * 2, none⟩ = some (.int .i64 tk) ∧ wr.cell? ⟨b1, o1 + m * 2 + 1, none⟩ = some (.int .i64 tn)) ∧ wr.cell? ⟨gl, 0, none⟩ = some (.int .i64 tk) ∧ wr.cell? ⟨gl, 1, none⟩ = some (.int .i64 tn)) := ⟨⟨p0, p1⟩, q0, q1⟩
                      have HLT8 : Hid (b1 < wr.heap.size ∧ gl < wr.heap.size) := ⟨hv1, lt_row HG8.out⟩
                      go_wp2_with fail
                      (go_region_held_law (fun V => (V.cell? ⟨b1, o1 + m * 2, none⟩ = some (.int .i64 tk) ∧ V.cell? ⟨b1, o1 + m * 2 + 1, none⟩ = some (.int .i64 tn)) ∧ V.cell? ⟨gl, 0, none⟩ = some (.int .i64 tk) ∧ V.cell? ⟨gl, 1, none⟩ = some (.int .i64 tn)) (first | exact E9.out | go_keep) (first
                        | (go_at_call 16; refine (head_any _).mono ?_; rintro e w9 ⟨rfl, hb9⟩; have hbw : Below wr.heap.size wr w9 := below_trans ((Below.refl _ _).drew) hb9; have HB9 := hide (below_trans HT8.out hbw); have E9 : Hid ((w9.cell? ⟨b1, o1 + m * 2, none⟩ = some (.int .i64 tk) ∧ w9.cell? ⟨b1, o1 + m * 2 + 1, none⟩ = some (.int .i64 tn)) ∧ w9.cell? ⟨gl, 0, none⟩ = some (.int .i64 tk) ∧ w9.cell? ⟨gl, 1, none⟩ = some (.int .i64 tn)) := ⟨⟨(hbw.cell (p := ⟨b1, o1 + m * 2, none⟩) HLT8.out.1).trans HSS.out.1.1, (hbw.cell (p := ⟨b1, o1 + m * 2 + 1, none⟩) HLT8.out.1).trans HSS.out.1.2⟩, (hbw.cell (p := ⟨gl, 0, none⟩) HLT8.out.2).trans HSS.out.2.1, (hbw.cell (p := ⟨gl, 1, none⟩) HLT8.out.2).trans HSS.out.2.2⟩; clear hb9 hbw)))
                      all_goals
                        go_wp2_with fail
                        go_ret
                        exact ⟨rfl, HB9.out⟩
end Go.Proofs.Ytiepinhkmcjmkaa.Me
