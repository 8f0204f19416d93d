/-
  tidy, walked.
-/
import Derived.Test.YtiepinhkmcjmkaaMeTidy
namespace Go.Proofs.Ytiepinhkmcjmkaa.Me
open Go.ChangeShapes Go.WideShapes Go.ChangeAt Go.RowKit
open Go.Proofs.Ytiepinhkmcjmkaa.Base
set_option linter.unusedVariables false
theorem OwnT.slice {w : World} {base n : Nat} {v : Value} {L : List Th} (h : OwnT w base v L) (hl : L.length = n) : ∃ a c, v = .slice a n c ∧ n ≤ c := by
  subst hl
  obtain ⟨a, c, h1, h2, _⟩ := h.shape'
  exact ⟨a, c, h1, h2⟩
set_option maxHeartbeats 8000000 in
set_option maxRecDepth 100000 in
theorem tidy_any (a : Option Addr) (c : Nat) (ss : List Src) (w : World) (hR : RdQ w a ss) (hT : ∀ j, j < ss.length → RdH w (ss.getD j src0).a (ss.getD j src0).ts) (hl : ∀ j, j < ss.length → (ss.getD j src0).ts.length ≤ 1048576) (hn : ss.length ≤ 4611686018427387904) :
    Calls Try.prog 15 #[.slice a ss.length c] w fun e w' => ∃ a' c' us, e = .returned (.slice a' us.length c') ∧ OutS w' w.heap.size (.slice a' us.length c') us ∧ Tidy (plays us) us.length ∧ us.length ≤ 64 ∧ (∀ j, j < us.length → (plays us j).ts.length ≤ 1048576) ∧ Below w.heap.size w w' := by
  have HR := hide hR
  have HT := hide hT
  have HLN := hide hl
  clear hR hT hl
  obtain ⟨N, hN⟩ : ∃ N, ss.length = N := ⟨_, rfl⟩
  have HN := hide hN
  rw [hN] at hn ⊢
  clear hN
  go_enter Try.func15, Try.ntmps15
  go_wp2_with fail
  go_loopw [3, 4, 5] (fun s3 s4 s5 wr => ∃ (i q : Nat) (ao : Option Addr) (co : Nat) (us : List Src), i ≤ N ∧ i ≤ 64 ∧ q ≤ 67108864 ∧ .slice ao i co = s3 ∧ .int .i64 (q : Int) = s4 ∧ .int .i64 (i : Int) = s5 ∧ Hid (us.length = i) ∧ Hid (OutS wr w.heap.size (.slice ao i co) us) ∧ Hid (Tidy (plays us) us.length) ∧ Hid (sumN (lens (plays us)) us.length = q) ∧ Hid (∀ j, j < us.length → (plays us j).ts.length ≤ 1048576) ∧ Hid (Below w.heap.size w wr)) (fun _ _ s5 _ => N - (intOf s5).toNat)
  case atStart => exact ⟨0, 0, none, 0, [], by omega, by omega, by omega, rfl, rfl, rfl, rfl, OutS.nil _ _, tidy_nil, rfl, (fun j hj => absurd hj (by simp)), Below.refl _ _⟩
  case round =>
    obtain ⟨i, q, ao, co, us, hi, hi6, hq, rfl, rfl, rfl, HUL, HOU, HTI, HSM, HLE, HW⟩ := hrel
    by_cases hin : i < N ∧ i < 64
    · obtain ⟨hin, hi64⟩ := hin
      have hii : (i : Int) < (N : Int) := by omega
      have hij : (i : Int) < 64 := by omega
      obtain ⟨b, off, rfl, hbl, hcs⟩ := HR.out (by rw [HN.out]; omega)
      have HC0 := hide (hcs i (by rw [HN.out]; exact hin)).1
      have HTS := hide (HT.out i (by rw [HN.out]; exact hin))
      have HTL := hide (HLN.out i (by rw [HN.out]; exact hin))
      have HBL := hide hbl
      clear hcs hbl
      generalize ss.getD i src0 = t at HC0 HTS HTL
      obtain ⟨sa, sc, sts, sfin⟩ := t
      obtain ⟨K, hK⟩ : ∃ K, sts.length = K := ⟨_, rfl⟩
      have hKl : K ≤ 1048576 := by rw [← hK]; exact HTL.out
      have HC1 : Hid (w.cell? ⟨b, off + i * 2, none⟩ = some (.slice sa K sc)) := by rw [← hK]; exact HC0.out
      have HTS1 : Hid (RdH w sa sts) := HTS.out
      have HK := hide hK
      clear hK HC0 HTS HTL
      obtain ⟨w1, rfl⟩ : ∃ w1, w1 = wr := ⟨_, rfl⟩
      have HQ : Hid (q + K ≤ 67108864) := by
        have h1 := HSM.out
        have h2 : sumN (lens (plays us)) us.length ≤ us.length * 1048576 := sum_bound HLE.out
        have h3 := HUL.out
        show q + K ≤ _
        omega
      go_wp2_with fail
      go_loopw [6, 7] (fun s6 s7 wr => ∃ (k cl : Nat) (al : Option Addr) (L : List Th), k ≤ K ∧ .slice al k cl = s6 ∧ .int .i64 (k : Int) = s7 ∧ k ≤ cl ∧ Hid (OwnT wr w1.heap.size (.slice al k cl) L) ∧ Hid (L.length = k) ∧ Hid (Srt L) ∧ Hid (Below w1.heap.size w1 wr)) (fun _ s7 _ => K - (intOf s7).toNat)
      case atStart => exact ⟨0, 0, none, [], by omega, rfl, rfl, by omega, ownT_nil _ _, rfl, (fun i k h1 h2 => absurd h2 (by simp)), Below.refl _ _⟩
      case round =>
        obtain ⟨k, cl, al, L, hk, rfl, rfl, hkc, HO, HLL, HS, HB1⟩ := hrel
        have HBW := hide (below_trans HW.out HB1.out)
        have c0 := (HBW.out.cell (p := ⟨b, off + i * 2, none⟩) HBL.out).trans HC1.out
        by_cases hkK : k < K
        · have hki : (k : Int) < (K : Int) := by omega
          obtain ⟨b2, o2, rfl, hb2, hc2⟩ := HTS1.out (by rw [HK.out]; omega)
          obtain ⟨t0, t1⟩ := hc2 k (by rw [HK.out]; exact hkK)
          generalize sts.getD k th0 = T at t0 t1
          obtain ⟨tk, tn⟩ := T
          have HT0 : Hid (∀ V, Below w.heap.size w V → V.cell? ⟨b, off + i * 2, none⟩ = some (.slice (some ⟨b2, o2, none⟩) K sc) ∧ V.cell? ⟨b2, o2 + k * 2, none⟩ = some (.int .i64 tk) ∧ V.cell? ⟨b2, o2 + k * 2 + 1, none⟩ = some (.int .i64 tn)) := fun V hV => ⟨(hV.cell (p := ⟨b, off + i * 2, none⟩) HBL.out).trans HC1.out, (hV.cell (p := ⟨b2, o2 + k * 2, none⟩) hb2).trans t0, (hV.cell (p := ⟨b2, o2 + k * 2 + 1, none⟩) hb2).trans t1⟩
          clear t0 t1 hc2
          obtain ⟨w2, rfl⟩ : ∃ w2, w2 = wr := ⟨_, rfl⟩
          go_wp2_with fail
          go_loopw [8] (fun s8 wr => ∃ n : Nat, .int .i64 (n : Int) = s8 ∧ n ≤ k ∧ Hid (∀ j, n ≤ j → j < L.length → tk < (L.getD j th0).key) ∧ Hid (Below w2.heap.size w2 wr)) (fun s8 _ => (intOf s8).toNat)
          case atStart => exact ⟨k, rfl, Nat.le_refl _, (fun j h1 h2 => by have := HLL.out; omega), Below.refl _ _⟩
          case round =>
            obtain ⟨n, rfl, hnk, HGT, HB3⟩ := hrel
            have HBW3 := hide (below_trans HBW.out HB3.out)
            have HO3 := hide (HO.out.below HB3.out)
            go_upto_region 11 with fail
            go_cut [52] from 33 to 54 (fun s52 wx => ∃ tt : Bool, .bool tt = s52 ∧ Hid (tt = true → 0 < n ∧ tk < (L.getD (n - 1) th0).key) ∧ Hid (tt = false → n = 0 ∨ (L.getD (n - 1) th0).key ≤ tk) ∧ Hid (Below wr.heap.size wr wx))
            case first =>
              by_cases hn0 : 0 < n
              · obtain ⟨m, hm⟩ : ∃ m, n - 1 = m := ⟨_, rfl⟩
                have HM := hide hm
                have hm1 : IntKind.i64.wrap ((n : Int) - 1) = (m : Int) := by rw [IntKind.wrap_i64]; omega
                have hm0 : (n : Int) - 1 = (m : Int) := by omega
                have hn1 : (0 : Int) < (n : Int) := by omega
                have hn1d : decide ((0 : Int) < (n : Int)) = true := by simpa using hn0
                have hn2d : decide (0 < n) = true := by simpa using hn0
                have hm2 : (m : Int) < (k : Int) := by omega
                have hm3 : m < k := by omega
                have hm4 : IntKind.i64.wrap (m : Int) = (m : Int) := by rw [IntKind.wrap_i64]; omega
                clear hm
                obtain ⟨b1, o1, rfl, hl1, hc1⟩ := HO3.out.rd (by have := HLL.out; omega)
                obtain ⟨p0, _⟩ := hc1 m (by have := HLL.out; omega)
                obtain ⟨r0, r1, _⟩ := HT0.out _ HBW3.out
                clear hc1
                generalize hy : (L.getD m th0).key = y at p0
                have HY := hide hy
                clear hy
                by_cases hyy : tk < y
                · have hyd : decide (tk < y) = true := by simpa using hyy
                  go_quiet (fail)
                  go_wp2_with fail
                  go_meet
                  case rel => exact ⟨true, rfl, (fun _ => ⟨hn0, by rw [HM.out, HY.out]; exact hyy⟩), (fun h => nomatch h), below_drewN' _ _ _⟩
                · have hyd : decide (tk < y) = false := by simpa using hyy
                  go_quiet (fail)
                  go_wp2_with fail
                  go_meet
                  case rel => exact ⟨false, rfl, (fun h => nomatch h), (fun _ => .inr (by rw [HM.out, HY.out]; omega)), below_drewN' _ _ _⟩
              · obtain rfl : n = 0 := by omega
                go_quiet (fail)
                go_wp2_with fail
                go_meet
                case rel => exact ⟨false, rfl, (fun h => nomatch h), (fun _ => .inl (by trivial)), below_drewN' _ _ _⟩
            case rest =>
              obtain ⟨tt, rfl, HT1, HT2, HBX⟩ := hcut
              cases tt with
              | true =>
                obtain ⟨hn0, hlt⟩ := HT1.out rfl
                have HLT := hide hlt
                clear hlt
                go_wp2_with fail
                go_roundw
                case rel => exact ⟨n - 1, (by rw [show ((n - 1 : Nat) : Int) = (n : Int) - 1 by omega]), by omega, (fun j h1 h2 => by
                  by_cases e : j = n - 1
                  · subst e; exact HLT.out
                  · exact HGT.out j (by omega) h2), below_trans HB3.out HBX.out⟩
                case measure => simp [intOf]; omega
              | false =>
                have HINS := hide (HS.out.ins n ⟨tk, tn⟩ (by have := HLL.out; omega) HGT.out (HT2.out rfl))
                have HOC := hide (HO3.out.below HBX.out)
                have HWC := hide (below_trans HBW3.out HBX.out)
                have HB1C := hide (below_trans HB1.out (below_trans HB3.out HBX.out))
                obtain ⟨hcut1, hnil1, la, hsl, hla, hnil2⟩ := cutT HOC.out n hnk
                have HN1 := hide hnil1
                have HLA := hide hla
                have HN2 := hide hnil2
                clear hnil1 hla hnil2 HT1 HT2 HGT HB3 HO3 HO
                obtain ⟨gc, hgc⟩ : ∃ gc, wc.heap.size = gc := ⟨_, rfl⟩
                have HE := hide (ownT_nil wc gc)
                go_wp2_with (first
                  | (at_builtin; refine joinT _ rfl _ _ rfl gc (.slice none 0 0) [] rfl HE.out al n cl (L.take n) rfl (by rw [List.length_take]; have := HLL.out; omega) (HOC.out.rd.take n) HN1.out (by simp; omega) (by omega) ?_
                     intro v4 w4 ho4 hg4
                     have HO4 := hide ho4
                     have HB4 : Hid (Below wc.heap.size wc w4) := ⟨hg4.os, hg4.tape, hg4.output, hg4.size, fun j hj => hg4.block j hj (by simp [Value.ownBlock])⟩
                     have HW4 := hide (below_trans HWC.out HB4.out)
                     obtain ⟨p0, p1, p2⟩ := HT0.out _ HW4.out
                     obtain ⟨g5, hg5⟩ : ∃ g, w4.heap.size = g := ⟨_, rfl⟩
                     obtain ⟨w5, hw5⟩ : ∃ w5, w4.alloc (.cells #[.int .i64 tk, .int .i64 tn] 36) = w5 := ⟨_, rfl⟩
                     have HB5 : Hid (Below w4.heap.size w4 w5) := by rw [← hw5]; exact (Below.refl _ _).alloc (Nat.le_refl _) _
                     have HR5 : Hid (w5.heap[g5]? = some (.cells #[.int .i64 tk, .int .i64 tn] 36)) := by rw [← hw5, ← hg5]; exact heap_alloc_new _ _
                     have HO5 := hide (HO4.out.below HB5.out)
                     have HC5 := hide (below_trans HB4.out HB5.out)
                     clear ho4 hg4 HE)
                  | (at_builtin; refine pushTh _ rfl _ _ rfl gc v4 ([] ++ L.take n) rfl HO5.out g5 ⟨tk, tn⟩ rfl HR5.out (by rw [List.nil_append, List.length_take]; have := HLL.out; omega) (by have := HC5.out.size; omega) ?_
                     intro g6 c6 w6 ho6 hg6 hv6
                     rw [show ([] ++ L.take n : List Th).length = n by rw [List.nil_append, List.length_take]; have := HLL.out; omega] at ho6 ⊢
                     have HO6 := hide ho6
                     have HC6 : Hid (Below wc.heap.size wc w6) := below_by HC5.out hg6 (fun j e => by have := (row_blk HO5.out j e).1; omega)
                     have HD6 := hide (HLA.out _ (HOC.out.rd.below HC6.out))
                     clear ho6 hg6 hv6 HO5 HR5)
                  | (at_builtin; refine joinT _ rfl _ _ rfl gc (.slice (some ⟨g6, 0, none⟩) (n + 1) c6) (([] ++ L.take n) ++ [⟨tk, tn⟩]) rfl HO6.out la (k - n) (cl - n) (L.drop n) rfl (by rw [List.length_drop, HLL.out]) HD6.out HN2.out (by rw [List.nil_append, List.length_append, List.length_take, HLL.out]; simp; omega) (by have := HC6.out.size; omega) ?_
                     intro v7 w7 ho7 hg7
                     have HC7 : Hid (Below wc.heap.size wc w7) := below_by HC6.out hg7 (fun j e => by have := (row_blk HO6.out j e).1; omega)
                     have HB7 := hide (below_trans HB1C.out HC7.out)
                     rw [List.nil_append] at ho7
                     have HLM : Hid ((L.take n ++ [⟨tk, tn⟩] ++ L.drop n : List Th).length = k + 1) := (length_ins L n ⟨tk, tn⟩ (by have := HLL.out; omega)).trans (by rw [HLL.out])
                     have HO7 := hide (ho7.mono (b' := w1.heap.size) (by have := HB1C.out.size; omega))
                     obtain ⟨a7, c7, hv7, h71⟩ := ho7.slice HLM.out
                     subst hv7
                     clear ho7 hg7 HO6))
                go_roundw
                case rel => exact ⟨k + 1, c7, a7, _, by omega, rfl, by go_num, h71, HO7, HLM, HINS, HB7⟩
                case measure => simp [intOf]; omega
        · obtain rfl : k = K := by omega
          obtain ⟨w2, rfl⟩ : ∃ w2, w2 = wr := ⟨_, rfl⟩
          go_wp2_with fail
          go_loopw [4, 10] (fun s4 s10 wr => ∃ (m : Nat) (L : List Th), m ≤ k ∧ .int .i64 ((q + m : Nat) : Int) = s4 ∧ .int .i64 (m : Int) = s10 ∧ Hid (OwnT wr w1.heap.size (.slice al k cl) L) ∧ Hid (L.length = k) ∧ Hid (Srt L) ∧ Hid (Nmd L q m) ∧ Hid (Below w1.heap.size w1 wr)) (fun _ s10 _ => k - (intOf s10).toNat)
          case atStart => exact ⟨0, L, by omega, rfl, rfl, HO, HLL, HS, (fun j hj => absurd hj (by omega)), HB1⟩
          case round =>
            clear HO HS HLL HB1
            obtain ⟨m, L, hm, rfl, rfl, HO, HLL, HS, HNM, HB1⟩ := hrel
            by_cases hmk : m < k
            · have hmi : (m : Int) < (k : Int) := by omega
              obtain ⟨g, hg⟩ : ∃ g, al = some ⟨g, 0, none⟩ := by
                rcases HO.out.shape with ⟨h1, _⟩ | ⟨g, c', h1, _⟩
                · have h2 := HLL.out; rw [h1] at h2; simp at h2; omega
                · simp only [Value.slice.injEq] at h1; exact ⟨g, h1.1⟩
              subst hg
              have p1 := (HO.out.cells m (by have := HLL.out; omega)).2
              have f1 := HO.out.frozen (m * 2 + 1)
              have HGB : Hid (w1.heap.size ≤ g) := (row_blk HO.out g rfl).1
              generalize (L.getD m th0).name = nm0 at p1
              obtain ⟨Q, hQ⟩ : ∃ Q, q + m = Q := ⟨_, rfl⟩
              have hQ2 : Q ≤ 67108864 := by have := HQ.out; omega
              have HO9 := hide (HO.out.set m (by have := HLL.out; omega) (Q : Int))
              have HS9 := hide (HS.out.setName m (Q : Int) (by have := HLL.out; omega))
              have HN9 : Hid (Nmd (setNm L m (Q : Int)) q (m + 1)) := by rw [← hQ]; exact HNM.out.setName (by have := HLL.out; omega)
              have HL9 : Hid ((setNm L m (Q : Int)).length = k) := by rw [length_setNm]; exact HLL.out
              have HB9 : Hid (Below w1.heap.size w1 (wr.setCell ⟨g, m * 2 + 1, none⟩ (.int .i64 (Q : Int)))) := below_by HB1.out (grown_cell (World.grownBy.refl _ _) _ _) (fun j e => by have e2 : g = j := Option.some.inj e; rw [← e2]; exact HGB.out)
              have HQQ := hide hQ
              rw [hQ]
              clear hQ
              go_wp2_with fail
              go_roundw
              case rel => exact ⟨m + 1, _, by omega, (by have h1 := HQQ.out; rw [show q + (m + 1) = Q + 1 by omega]; go_num), by go_num, HO9, HL9, HS9, HN9, HB9⟩
              case measure => simp [intOf]; omega
            · obtain rfl : m = k := by omega
              have HOW := hide (HO.out.mono (b' := w.heap.size) HW.out.size)
              have HU1 := hide (HOU.out.below HB1.out)
              have HBW2 := hide (below_trans HW.out HB1.out)
              obtain ⟨g5, hg5⟩ : ∃ g, wr.heap.size = g := ⟨_, rfl⟩
              obtain ⟨w5, hw5⟩ : ∃ w5, wr.alloc (.cells #[.slice al m cl, .int .i64 0] 49) = w5 := ⟨_, rfl⟩
              have HB5 : Hid (Below wr.heap.size wr w5) := by rw [← hw5]; exact (Below.refl _ _).alloc (Nat.le_refl _) _
              have HR5 : Hid (w5.heap[g5]? = some (.cells #[.slice al L.length cl, .int .i64 0] 49)) := by rw [HLL.out, ← hw5, ← hg5]; exact heap_alloc_new _ _
              have HU5 := hide (HU1.out.below HB5.out)
              have HOW5 : Hid (OwnT w5 w.heap.size (.slice al L.length cl) L) := by rw [HLL.out]; exact HOW.out.below HB5.out
              have HBW5 := hide (below_trans HBW2.out HB5.out)
              have HB15 := hide (below_trans HB1.out HB5.out)
              have HTP := hide (Tidy.push (s := ⟨al, cl, L, 0⟩) HTI.out rfl HS.out (by rw [HSM.out, HLL.out]; exact HNM.out))
              have HSP : Hid (sumN (lens (plays (us ++ [(⟨al, cl, L, 0⟩ : Src)]))) (us ++ [(⟨al, cl, L, 0⟩ : Src)]).length = q + m) := by
                show _ = _
                rw [List.length_append, List.length_singleton]
                unfold sumN
                rw [lens_push _ _ _ (Nat.le_refl _), HSM.out]
                have e : lens (plays (us ++ [(⟨al, cl, L, 0⟩ : Src)])) us.length = L.length := by unfold lens plays; rw [getD_src, if_pos rfl]; rfl
                rw [e, HLL.out]
              have HLP : Hid (∀ j, j < (us ++ [(⟨al, cl, L, 0⟩ : Src)]).length → (plays (us ++ [⟨al, cl, L, 0⟩]) j).ts.length ≤ 1048576) := fun j hj => by
                rw [List.length_append, List.length_singleton] at hj
                unfold plays
                rw [getD_src]
                by_cases e : j = us.length
                · rw [if_pos e]; show L.length ≤ _; rw [HLL.out]; exact hKl
                · rw [if_neg e]; exact HLE.out j (by omega)
              have HQ2 : q + m ≤ 67108864 := HQ.out
              clear HU1 HNM HS HO
              go_wp2_with (at_builtin; refine pushSrc _ rfl _ _ rfl w.heap.size _ us rfl HU5.out.row g5 ⟨al, cl, L, 0⟩ rfl HR5.out (by rw [HUL.out]; omega) HBW5.out.size ?_; intro g7 c7 w7 hr7 hg7 hv7; have HU7 := hide (HOU.out.push HB15.out HOW5.out hr7 hg7); have HB7 := hide (below_by HBW5.out hg7 (fun j e => (row_blk HU5.out.row j e).1)); rw [HUL.out] at HU7 ⊢; clear hr7 hg7 hv7)
              go_roundw
              case rel => exact ⟨i + 1, q + m, some ⟨g7, 0, none⟩, c7, us ++ [⟨al, cl, L, 0⟩], by omega, by omega, HQ2, rfl, rfl, by go_num, (by show (us ++ [_]).length = _; rw [List.length_append, List.length_singleton, HUL.out]), HU7, HTP, HSP, HLP, HB7⟩
              case measure => simp [intOf]; omega
    · have hcase : ¬ i < N ∨ (i < N ∧ ¬ i < 64) := by omega
      clear hin
      rcases hcase with h | ⟨h, h'⟩
      · have hii : ¬ (i : Int) < (N : Int) := by omega
        go_wp2_with fail
        go_ret
        exact ⟨ao, co, us, (by rw [HUL.out]; rfl), by rw [HUL.out]; exact HOU.out, HTI.out, by rw [HUL.out]; exact hi6, HLE.out, HW.out⟩
      · have hii : (i : Int) < (N : Int) := by omega
        have hij : ¬ (i : Int) < 64 := by omega
        go_wp2_with fail
        go_ret
        exact ⟨ao, co, us, (by rw [HUL.out]; rfl), by rw [HUL.out]; exact HOU.out, HTI.out, by rw [HUL.out]; exact hi6, HLE.out, HW.out⟩
end Go.Proofs.Ytiepinhkmcjmkaa.Me
