/-
  The text that bytes tell: the program's Decode.
-/
import Derived.Test.YthdblnfohbldcaaGreatHuffD2
import Derived.Test.YthdblnfohbldcaaGreatHuffD3
import Derived.Test.YthdblnfohbldcaaGreatHuffD4
namespace Go.Proofs.YthdblnfohbldcaaGreat.Huff
open Go.ChangeShapes Go.WideShapes Go.ChangeAt Go.RowKit
open Go.Proofs.YthdblnfohbldcaaGreat.Base
set_option linter.unusedVariables false
theorem text_set (t : List (BitVec 8)) (N k : Nat) (c : BitVec 8) (h : t.length = k) (hk : k < N) : (t ++ List.replicate (N - k) 0).set k c = (t ++ [c]) ++ List.replicate (N - (k + 1)) 0 := by
  rw [List.set_append_right _ _ (by omega), h, Nat.sub_self, show N - k = (N - (k + 1)) + 1 by omega, List.replicate_succ, List.set_cons_zero, List.append_assoc]
  rfl
theorem dec_arg (bs : List (BitVec 8)) (n : Int) (h : n < 0 ∨ 65536 < n) : decoded bs n = ([], 3) := by unfold decoded; rw [if_pos h]
theorem dec_none (bs : List (BitVec 8)) (N : Nat) (hN : N ≤ 65536) (h : lensOf bs = none) : decoded bs (N : Int) = ([], 40) := by unfold decoded; rw [if_neg (by omega), h]
theorem dec_wrong (bs r : List (BitVec 8)) (ls : List Int) (N : Nat) (hN : N ≤ 65536) (h : lensOf bs = some (ls, r)) (hr : right ls = false) : decoded bs (N : Int) = ([], 40) := by unfold decoded; rw [if_neg (by omega), h]; simp only []; rw [if_pos hr]
theorem dec_stop (bs r : List (BitVec 8)) (ls : List Int) (N : Nat) (hN : N ≤ 65536) (h : lensOf bs = some (ls, r)) (ht : textTo ls r N = none) : decoded bs (N : Int) = ([], 40) := by
  unfold decoded; rw [if_neg (by omega), h]; simp only [Int.toNat_natCast, ht]; split <;> rfl
theorem dec_text (bs r t : List (BitVec 8)) (ls : List Int) (N i : Nat) (hN : N ≤ 65536) (h : lensOf bs = some (ls, r)) (hr : right ls = true) (ht : textTo ls r N = some (t, i)) : decoded bs (N : Int) = if isEnd r i = true then (t, 0) else ([], 40) := by
  unfold decoded; rw [if_neg (by omega), h]; simp only [Int.toNat_natCast, ht]; rw [if_neg (by rw [hr]; decide)]
set_option maxHeartbeats 2000000 in
set_option maxRecDepth 100000 in
theorem decode_any (a : Option Addr) (len cap : Nat) (bs : List (BitVec 8)) (n : Int) (w : World) (hr : Rd w a len bs) (hcap : len ≤ cap) (hm : cap ≤ 9223372036854775807) :
    Calls Tryz.prog 13 #[.slice a len cap, .int .i64 n] w fun e w' => ∃ v, e = .returned (.tuple #[v, .int .i64 (decoded bs n).2]) ∧ Own w' w.heap.size v (decoded bs n).1 ∧ Below w.heap.size w w' := by
  have HR := hide hr
  have HCAP := hide hcap
  have hlen := hr.2.1
  by_cases hn : n < 0 ∨ 65536 < n
  · rw [dec_arg bs n hn]
    clear hr hcap
    rcases Int.lt_or_le n 0 with h0 | h0
    · clear hn
      go_enter Tryz.func13, Tryz.ntmps13
      go_wp2_with fail
      go_ret2
      exact ⟨_, rfl, own_none _ _, Below.refl _ _⟩
    · have h1 : ¬ n < 0 := by omega
      have h2 : 65536 < n := by omega
      clear hn
      go_enter Tryz.func13, Tryz.ntmps13
      go_wp2_with fail
      go_ret2
      exact ⟨_, rfl, own_none _ _, Below.refl _ _⟩
  obtain ⟨N, rfl⟩ : ∃ N : Nat, n = (N : Int) := ⟨n.toNat, by omega⟩
  have hN : N ≤ 65536 := by omega
  have hNi : (N : Int) ≤ 65536 := by omega
  have hN0 : ¬ (N : Int) < 0 := by omega
  have hN1 : ¬ 65536 < (N : Int) := by omega
  have HLN := hide (lengths_any a len cap bs w hr hcap hm)
  clear hr hcap hn
  obtain ⟨D, hD⟩ : ∃ D, decoded bs (N : Int) = D := ⟨_, rfl⟩
  have HD := hide hD
  rw [hD]
  clear hD
  go_enter Tryz.func13, Tryz.ntmps13
  go_wp2_with fail
  refine HLN.out.mono ?_
  rintro e w1 ⟨v1, v2, ok, rfl, hb1, hcase⟩
  rcases hcase with ⟨rfl, hno⟩ | ⟨rfl, ls, r, a1, c1, a2, l2, c2, hyes, rfl, ho1, rfl, hr2, hl2, hc2⟩
  · obtain rfl : D = ([], 40) := HD.out.symm.trans (dec_none bs N hN hno)
    clear hno
    go_wp2_with fail
    go_ret2
    exact ⟨_, rfl, own_none _ _, hb1⟩
  obtain ⟨hin, hls, hrl⟩ := lensOf_ok hyes
  have HY := hide hyes
  have HIN := hide hin
  have HB1 := hide hb1
  have HO1 := hide ho1
  have HR2 := hide hr2
  have HRL := hide hr2.1
  have hl2b : l2 ≤ 140737488355328 := hr2.2.1
  have hl2i : (l2 : Int) ≤ 140737488355328 := by omega
  obtain ⟨m, hmm⟩ : ∃ m, ls.length = m := ⟨_, rfl⟩
  have HM := hide hmm
  rw [hmm] at hls HO1 ⊢
  have hs1 : w.heap.size ≤ w1.heap.size := hb1.size
  clear hyes hin hb1 ho1 hr2 hrl hmm HLN
  have HNW := hide (newWords_any a1 m c1 ls w1 (HO1.out.rd (by rw [HM.out]; omega)) hls HIN.out)
  go_wp2_with fail
  refine HNW.out.mono ?_
  rintro e w2 ⟨rfl, hb2⟩
  have HB2 := hide (below_trans HB1.out hb2)
  have HO2 := hide (HO1.out.below hb2)
  have HLW := hide (wordsOf_len ls)
  have HN : Hid (RowI 81 (w2.alloc (.cells Z48 81)) w2.heap.size (List.replicate 48 0)) := rowi_new _ _ _
  have HRS : Hid (RowI 81 ((w2.alloc (.cells Z48 81)).setCells w2.heap.size 0 (ivals (wordsOf ls))) w2.heap.size (wordsOf ls)) := row_setAll HN.out (by rw [List.length_replicate, HLW.out])
  have HONE := hide (ivals_one (wordsOf ls))
  have HBX : Hid (Below w2.heap.size w2 ((w2.alloc (.cells Z48 81)).setCells w2.heap.size 0 (ivals (wordsOf ls)))) :=
    ((Below.refl w2.heap.size w2).alloc (Nat.le_refl _) _).grown (setCells_grown _ _ _ (World.grownBy.refl _ _)) ((Below.refl w2.heap.size w2).alloc (Nat.le_refl _) _).size (fun i e => by cases e; exact Nat.le_refl _)
  have HTH : Hid ((w2.alloc (.cells Z48 81)).there w2.heap.size 0 (ivals (wordsOf ls)).toArray.size) := hide (by
    have e48 : (ivals (wordsOf ls)).toArray.size = 48 := by rw [List.size_toArray, length_ivals, HLW.out]
    rw [e48]
    exact row_there HN.out 0 48 (by rw [List.length_replicate]; omega))
  have I2 : Hid ((Tryz.prog.info? 81).map (·.size) = some (ivals (wordsOf ls)).toArray.size) := by show _ = _; rw [List.size_toArray, length_ivals, HLW.out]; exact info48
  obtain ⟨V, hV⟩ : ∃ V, ivals (wordsOf ls) = V := ⟨_, rfl⟩
  rw [hV] at HRS HONE HBX HTH I2 ⊢
  obtain ⟨w3, hw3⟩ : ∃ w3, (w2.alloc (.cells Z48 81)).setCells w2.heap.size 0 V = w3 := ⟨_, rfl⟩
  have HW3 := hide hw3
  rw [hw3] at HRS HBX
  have HB3 := hide (below_trans HB2.out HBX.out)
  have HO3 := hide (HO2.out.below HBX.out)
  obtain ⟨RT, hRT⟩ : ∃ RT, right ls = RT := ⟨_, rfl⟩
  have HRT := hide hRT
  rw [hRT]
  clear hb2 hV hw3 hRT HNW HBX HO2
  by_cases hsmall : RT = true ∧ N ≤ 8 * l2
  · obtain ⟨rfl, h8⟩ := hsmall
    have h8i : ¬ 8 * (l2 : Int) < (N : Int) := by omega
    go_wp2_with (refine wpList_store_mid rfl 81 (.tmp 9) (.tmp 34) rfl w2.heap.size 0 V.toArray rfl rfl HTH.out I2.out (all_oneCell_toArray HONE.out) ?_
                 rw [z48, List.toList_toArray, HW3.out])
    obtain ⟨gw, hgw⟩ : ∃ gw, w2.heap.size = gw := ⟨_, rfl⟩
    have HRW : Hid (RowI 81 w3 gw (wordsOf ls)) := by rw [← hgw]; exact HRS.out
    rw [hgw]
    have HORD := hide (order_any gw a1 m c1 ls w3 HRW.out (HO3.out.rd (by rw [HM.out]; omega)) hls HIN.out)
    clear hgw HRS HN HTH HW3 I2 HONE HO1
    refine HORD.out.mono ?_
    rintro e w4 ⟨gq, nq0, O, rfl, hord, hown, hb4⟩
    have HB4 := hide (below_trans HB3.out hb4)
    have HRW4 := hide (HRW.out.below hb4)
    have HQ4 := hide hown
    have HOD := hide hord
    have hs4 : w.heap.size ≤ w4.heap.size := HB4.out.size
    have HGQ : Hid (gq < w4.heap.size) := hown.lt'.2
    have HGW : Hid (gw < w4.heap.size) := HRW4.out.lt
    have HNQ : Hid (nq0 = ahead ls 16) := by show _ = _; rw [hown.len]; exact hord.1
    clear hord hown hb4 HORD HO3 HRW
    obtain ⟨i0, hi, hz0, hz1, hz2⟩ := info_parts info8
    go_wp2_with (at_make; refine wpList_make_full _ rfl _ _ 24 rfl w.heap.size 5 i0 (.int .u8 0) 1 Tryz.underlying24 hi hz0 hz1 .i64 .i64 _ _ N rfl rfl rfl rfl (by rw [hz2]; omega) (by unfold maxLen; omega) hs4 ?_
                 intro w5 hown5 hgrow5)
    have HT5 : Hid (Own w5 w.heap.size (.slice (some ⟨w4.heap.size, 0, none⟩) N N) ([] ++ List.replicate (N - 0) 0)) := by
      show Own _ _ _ _
      rw [List.nil_append, Nat.sub_zero]
      unfold Own
      rw [List.length_replicate, show (0 : BitVec 8) = BitVec.ofNat 8 0 from rfl, ← vals_replicate]
      exact hown5
    have HB5 : Hid (Below w.heap.size w w5) := HB4.out.grown hgrow5 hs4 (fun i e => by cases e)
    have HRW5 : Hid (RowI 81 w5 gw (wordsOf ls)) := HRW4.out.grown hgrow5 (by simp)
    have HQ5 : Hid (Own w5 w3.heap.size (.slice (some ⟨gq, 0, none⟩) nq0 nq0) O) := keep HQ4.out hgrow5 (fun i j _ e => by cases e)
    obtain ⟨gt, hgt⟩ : ∃ gt, w4.heap.size = gt := ⟨_, rfl⟩
    have HGT : Hid (gq ≠ gt ∧ gw ≠ gt ∧ w.heap.size ≤ gt) := by have h1 := HGQ.out; have h2 := HGW.out; refine ⟨?_, ?_, ?_⟩ <;> omega
    have HT6 : Hid (Own w5 w.heap.size (.slice (some ⟨gt, 0, none⟩) N N) ([] ++ List.replicate (N - 0) 0)) := by rw [← hgt]; exact HT5.out
    rw [hgt]
    clear hown5 hgrow5 hi hz0 hz1 hz2 HB4 HRW4 HQ4 hgt HT5 HGQ HGW hs4 HB3 HB2
    go_loopw [13, 51] (fun sp si wr => ∃ (k i : Nat) (t : List (BitVec 8)), k ≤ N ∧ i ≤ 8 * l2 ∧ sp = .int .i64 (i : Int) ∧ si = .int .i64 (k : Int) ∧ Hid (textTo ls r k = some (t, i) ∧ Own wr w.heap.size (.slice (some ⟨gt, 0, none⟩) N N) (t ++ List.replicate (N - k) 0) ∧ RowI 81 wr gw (wordsOf ls) ∧ Own wr w3.heap.size (.slice (some ⟨gq, 0, none⟩) nq0 nq0) O ∧ Below w.heap.size w wr)) (fun _ si _ => N - (intOf si).toNat)
    case atStart => exact ⟨0, 0, [], Nat.zero_le _, Nat.zero_le _, rfl, rfl, rfl, HT6.out, HRW5.out, HQ5.out, HB5.out⟩
    case round =>
      clear HT6 HRW5 HQ5 HB5
      obtain ⟨k, i, t, hk, hi8, rfl, rfl, H⟩ := hrel
      have hii : (i : Int) ≤ 1125899906842624 := by omega
      have HRr := hide (HR2.out.below H.out.2.2.2.2)
      by_cases hlt : (k : Int) < (N : Int)
      · have HRD := hide (read_any gw a2 l2 c2 ls r i wr H.out.2.2.1 HRr.out hi8 (by rw [HM.out]; exact hls))
        go_wp2_with fail
        refine HRD.out.mono ?_
        rintro e w6 ⟨p, s, rfl, hcase, rfl⟩
        rcases hcase with ⟨rfl, hno⟩ | ⟨hs, M, hyes, rfl⟩
        · obtain rfl : D = ([], 40) := HD.out.symm.trans (dec_stop bs r ls N hN HY.out (textTo_stop H.out.1 hno (by omega)))
          rw [show ((0 : Nat) : Int) = 0 from rfl]
          clear hno HRD
          go_wp2_with fail
          go_ret2
          exact ⟨_, rfl, own_none _ _, H.out.2.2.2.2⟩
        · obtain ⟨q1, q2, q3, q4, q5⟩ := wordAt_ok hyes
          obtain ⟨y1, y2, y3, y4⟩ := symOf_there (ls := ls) hs q4 q5
          have HTN := hide (textTo_next H.out.1 hyes)
          have hpl := place_all y1 y3 hs (by omega)
          have hod := HOD.out.2 (symOf ls s M) (by rw [← HM.out]; exact y1) (by rw [y3]; omega)
          rw [y4] at hod hpl
          obtain ⟨P, hP⟩ : ∃ P, ahead ls s + (M - first ls s) = P := ⟨_, rfl⟩
          rw [hP] at hod hpl ⊢
          have hPn : P < nq0 := by rw [HNQ.out]; exact hpl.2
          have hPi : (P : Int) < (nq0 : Int) := by omega
          have cq := H.out.2.2.2.1.cell P hPn
          rw [hod] at cq
          obtain ⟨c, hc⟩ : ∃ c, BitVec.ofNat 8 (symOf ls s M) = c := ⟨_, rfl⟩
          rw [hc] at cq HTN
          have ct := H.out.2.1.cell k (by omega)
          have ft := H.out.2.1.frozen k
          generalize (t ++ List.replicate (N - k) 0).getD k 0 = d at ct
          have HST := hide (H.out.2.1.store k c)
          rw [text_set t N k c (textTo_ok _ _ _ _ _ H.out.1).1 (by omega)] at HST
          have hsi : ((s : Int) == 0) = false := by rw [beq_eq_false_iff_ne]; omega
          have hsb : (s : Int) ≤ 15 := by omega
          have HBS : Hid (Below w.heap.size w (w6.setCell ⟨gt, k, none⟩ (.int .u8 (c.toNat : Int)))) := H.out.2.2.2.2.setCell HGT.out.2.2 _
          have HI9 : Hid (i + s ≤ 8 * l2) := by show _ ≤ _; rw [HRL.out] at q3; exact q3
          clear hyes q1 q2 q3 q4 q5 y1 y2 y3 y4 hpl hod hP hc HRD hs
          go_wp2_with fail
          go_roundw
          case rel =>
            refine ⟨k + 1, i + s, t ++ [c], by omega, HI9.out, by go_num, by go_num, HTN.out, HST.out.1, H.out.2.2.1.grown HST.out.2 (fun e => HGT.out.2.1 (Option.some.inj e).symm), keep H.out.2.2.2.1 HST.out.2 (fun i j e e2 => by have h1 := blk_eq e; have h2 := Option.some.inj e2; have := HGT.out.1; omega), HBS.out⟩
          case measure => simp [intOf]; omega
      · obtain rfl : k = N := by omega
        have HIE := hide (isEnd_any a2 l2 c2 r i wr HRr.out hi8)
        have HDT := hide (HD.out.symm.trans (dec_text bs r t ls k i hN HY.out HRT.out H.out.1))
        have HTX : Hid (Own wr w.heap.size (.slice (some ⟨gt, 0, none⟩) k k) t) := by
          have h := H.out.2.1
          rw [Nat.sub_self, List.replicate_zero, List.append_nil] at h
          exact h
        obtain ⟨E, hE⟩ : ∃ E, isEnd r i = E := ⟨_, rfl⟩
        rw [hE] at HIE HDT
        cases E with
        | true =>
          obtain rfl : D = (t, 0) := by have h := HDT.out; rw [if_pos rfl] at h; exact h
          clear hE HDT
          go_wp2_with fail
          refine HIE.out.mono ?_
          rintro e w6 ⟨rfl, rfl⟩
          go_wp2_with fail
          go_ret2
          exact ⟨_, rfl, HTX.out, H.out.2.2.2.2⟩
        | false =>
          obtain rfl : D = ([], 40) := by have h := HDT.out; rw [if_neg (by decide)] at h; exact h
          clear hE HDT
          go_wp2_with fail
          refine HIE.out.mono ?_
          rintro e w6 ⟨rfl, rfl⟩
          go_wp2_with fail
          go_ret2
          exact ⟨_, rfl, own_none _ _, H.out.2.2.2.2⟩
  · obtain rfl : D = ([], 40) := by
      refine HD.out.symm.trans ?_
      by_cases h1 : RT = true
      · exact dec_stop bs r ls N hN HY.out (textTo_far (by rw [HRL.out]; have : ¬ N ≤ 8 * l2 := fun h => hsmall ⟨h1, h⟩; omega))
      · exact dec_wrong bs r ls N hN HY.out (by rw [HRT.out]; simpa using h1)
    cases RT with
    | false =>
      clear hsmall
      go_wp2_with (refine wpList_store_mid rfl 81 (.tmp 9) (.tmp 34) rfl w2.heap.size 0 V.toArray rfl rfl HTH.out I2.out (all_oneCell_toArray HONE.out) ?_
                   rw [z48, List.toList_toArray, HW3.out])
      go_ret2
      exact ⟨_, rfl, own_none _ _, HB3.out⟩
    | true =>
      have h8i : 8 * (l2 : Int) < (N : Int) := by have : ¬ N ≤ 8 * l2 := fun h => hsmall ⟨rfl, h⟩; omega
      clear hsmall
      go_wp2_with (refine wpList_store_mid rfl 81 (.tmp 9) (.tmp 34) rfl w2.heap.size 0 V.toArray rfl rfl HTH.out I2.out (all_oneCell_toArray HONE.out) ?_
                   rw [z48, List.toList_toArray, HW3.out])
      go_ret2
      exact ⟨_, rfl, own_none _ _, HB3.out⟩
end Go.Proofs.YthdblnfohbldcaaGreat.Huff
