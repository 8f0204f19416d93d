/-
  The text that bytes tell: the document's own Decode.
-/
import Derived.Test.YtjpmeecahckglaaHuffD1
import Derived.Test.YtjpmeecahckglaaHuffD5
import Derived.Test.YtjpmeecahckglaaHuffD6
import Derived.Test.YtjpmeecahckglaaHuffD2r
import Derived.Test.YtjpmeecahckglaaHuffC7
namespace Go.Proofs.Ytjpmeecahckglaa.Huff
open Go.ChangeShapes Go.WideShapes Go.ChangeAt Go.RowKit
open Go.Proofs.Ytjpmeecahckglaa.Base
set_option linter.unusedVariables false
theorem codesOf_get (ls : List Int) (i : Nat) (h : i < ls.length) : (codesOf ls).getD i (0, 0) = codeAt ls i := by
  unfold codesOf
  rw [List.getD_eq_getElem?_getD, List.getElem?_map, List.getElem?_range h]; rfl
theorem coded_ok (ls : List Int) (hl : ls.length ≤ 256) (hin : allIn 15 ls = true) : coded ls = if right ls = true then (codesOf ls, 0) else ([], 41) := by
  unfold coded; rw [if_neg (by omega), if_neg (by rw [hin]; decide)]
theorem lensOf_nil : lensOf [] = none := rfl
/-- How far the reading of a word has come: none yet, or it has been found. -/
def WState (ls : List Int) (r : List (BitVec 8)) (i p l N : Nat) (s : Int) : Prop :=
  (s = -1 ∧ p + 1 = i + l ∧ N + 1 ≤ 2 ^ (l - 1) ∧ wordGo ls r (16 - l) p l N = wordAt ls r i) ∨ (∃ k M, wordAt ls r i = some (k, M) ∧ p = i + k ∧ s = ((BitVec.ofNat 8 (symOf ls k M)).toNat : Int))
theorem wordGo_step {ls : List Int} {r : List (BitVec 8)} {i p l N : Nat} (h : wordGo ls r (16 - l) p l N = wordAt ls r i) (hl : l ≤ 15) (hp : p < 8 * r.length) :
    wordAt ls r i = if first ls l ≤ 2 * N + bitAt r p ∧ 2 * N + bitAt r p < first ls l + cntW ls ls.length l then some (l, 2 * N + bitAt r p) else wordGo ls r (16 - (l + 1)) (p + 1) (l + 1) (2 * N + bitAt r p) := by
  rw [← h, show 16 - l = (16 - (l + 1)) + 1 by omega]
  simp only [wordGo]
  rw [if_neg (by omega)]
theorem wordGo_over {ls : List Int} {r : List (BitVec 8)} {i p l N : Nat} (h : wordGo ls r (16 - l) p l N = wordAt ls r i) (hl : l ≤ 15) (hp : 8 * r.length ≤ p) : wordAt ls r i = none := by
  rw [← h, show 16 - l = (16 - (l + 1)) + 1 by omega]
  simp only [wordGo]
  rw [if_pos hp]
theorem pow_next (l N B : Nat) (hl : 1 ≤ l) (hB : B ≤ 1) (h : N + 1 ≤ 2 ^ (l - 1)) : 2 * N + B + 1 ≤ 2 ^ (l + 1 - 1) := by
  obtain ⟨q, rfl⟩ : ∃ q, l = q + 1 := ⟨l - 1, by omega⟩
  rw [Nat.add_sub_cancel] at h ⊢
  rw [Nat.pow_succ]
  omega
/-- What 'find' says of the words. -/
theorem found {ls : List Int} {l M : Nat} (hl : 0 < l) (hls : ls.length ≤ 256) {R : Int}
    (h : R = -1 ∧ (∀ i, i < ls.length → (codesOf ls).getD i (0, 0) ≠ ((l : Int), M)) ∨ ∃ i : Nat, i < ls.length ∧ R = (i : Int) ∧ (codesOf ls).getD i (0, 0) = ((l : Int), M)) :
    (R = -1 ∧ ¬ (first ls l ≤ M ∧ M < first ls l + cntW ls ls.length l)) ∨ ((first ls l ≤ M ∧ M < first ls l + cntW ls ls.length l) ∧ R = ((BitVec.ofNat 8 (symOf ls l M)).toNat : Int)) := by
  rcases h with ⟨h1, h2⟩ | ⟨i, h1, h2, h3⟩
  · left
    refine ⟨h1, fun h => ?_⟩
    obtain ⟨j, hj, hc⟩ := (word_there ls l M hl).2 h
    exact h2 j hj (by rw [codesOf_get ls j hj]; exact hc)
  · right
    rw [codesOf_get ls i h1] at h3
    refine ⟨(word_there ls l M hl).1 ⟨i, h1, h3⟩, ?_⟩
    rw [symOf_eq ls l M i hl h1 h3, BitVec.toNat_ofNat, h2]
    omega
set_option maxHeartbeats 2000000 in
set_option maxRecDepth 100000 in
theorem refDecode_any (a : Option Addr) (len cap : Nat) (bs : List (BitVec 8)) (n : Int) (w : World) (hr : Rd w a len bs) (hcap : len ≤ cap) :
    Calls Try.prog 9 #[.slice a len cap, .int .i64 n] w fun e w' => ∃ v, e = .returned (.tuple #[v, .int .i64 (decoded bs n).2]) ∧ Own w' w.heap.size v (decoded bs n).1 ∧ Below w.heap.size w w' := by
  have HR := hide hr
  have HCAP := hide hcap
  have hlen := hr.2.1
  by_cases hn : n < 0 ∨ 65536 < n
  · rw [dec_arg bs n hn]
    clear hr hcap
    rcases Int.lt_or_le n 0 with h0 | h0
    · clear hn
      go_enter Try.func9, Try.ntmps9
      go_wp2_with fail
      go_ret2
      exact ⟨_, rfl, own_none _ _, Below.refl _ _⟩
    · have h1 : ¬ n < 0 := by omega
      have h2 : 65536 < n := by omega
      clear hn
      go_enter Try.func9, Try.ntmps9
      go_wp2_with fail
      go_ret2
      exact ⟨_, rfl, own_none _ _, Below.refl _ _⟩
  obtain ⟨N, rfl⟩ : ∃ N : Nat, n = (N : Int) := ⟨n.toNat, by omega⟩
  have hN : N ≤ 65536 := by omega
  have hNi : (N : Int) ≤ 65536 := by omega
  have hN0 : ¬ (N : Int) < 0 := by omega
  have hN1 : ¬ 65536 < (N : Int) := by omega
  have HLN := hide (readLens_any a len cap bs w hr hcap)
  clear hr hcap hn
  obtain ⟨D, hD⟩ : ∃ D, decoded bs (N : Int) = D := ⟨_, rfl⟩
  have HD := hide hD
  rw [hD]
  clear hD
  go_enter Try.func9, Try.ntmps9
  go_wp2_with fail
  refine HLN.out.mono ?_
  rintro e w1 ⟨v1, p0, ok, rfl, hb1, hcase⟩
  rcases hcase with ⟨rfl, hno⟩ | ⟨rfl, hp0, ls, a1, c1, hyes, rfl, ho1⟩
  · obtain rfl : D = ([], 40) := HD.out.symm.trans (dec_none bs N hN hno)
    clear hno
    go_wp2_with fail
    go_ret2
    exact ⟨_, rfl, own_none _ _, hb1⟩
  obtain ⟨hin, hls, hrl⟩ := lensOf_ok hyes
  obtain ⟨b1, o1, rfl, hbb, _⟩ := HR.out.2.2 (by
    rcases Nat.eq_zero_or_pos len with h | h
    · have : bs = [] := List.length_eq_zero_iff.1 (HR.out.1.trans h)
      subst this
      rw [lensOf_nil] at hyes
      cases hyes
    · exact h)
  obtain ⟨la2, hcut, hla, hsp, hbl⟩ := cut_l b1 o1 len cap p0 hp0 HCAP.out
  have HR2 : Hid (Rd w (some la2) (len - p0) (bs.drop p0)) := HR.out.past p0 hp0 la2 hla
  obtain ⟨l2, hl2⟩ : ∃ l2, len - p0 = l2 := ⟨_, rfl⟩
  obtain ⟨c2, hc2⟩ : ∃ c2, cap - p0 = c2 := ⟨_, rfl⟩
  rw [hl2, hc2] at hcut
  rw [hl2] at HR2
  have HY := hide hyes
  obtain ⟨r, hrr⟩ : ∃ r, bs.drop p0 = r := ⟨_, rfl⟩
  rw [hrr] at HR2 HY
  have HIN := hide hin
  have HB1 := hide hb1
  have HO1 := hide ho1
  have HRL := hide HR2.out.1
  have hl2b : l2 ≤ 140737488355328 := HR2.out.2.1
  have hl2i : (l2 : Int) ≤ 140737488355328 := by omega
  have HLS := hide hls
  obtain ⟨m, hmm⟩ : ∃ m, ls.length = m := ⟨_, rfl⟩
  have HM := hide hmm
  rw [hmm] at hls HO1 ⊢
  have hs1 : w.heap.size ≤ w1.heap.size := hb1.size
  have HCD := hide (refCodes_any a1 m c1 ls w1 (HO1.out.rd (by rw [HM.out]; omega)))
  rw [coded_ok ls HLS.out HIN.out] at HCD
  obtain ⟨RT, hRT⟩ : ∃ RT, right ls = RT := ⟨_, rfl⟩
  have HRT := hide hRT
  rw [hRT] at HCD
  clear hyes hin hb1 ho1 hrl hmm HLN hla hsp hbl hrr hRT hl2 hc2
  cases RT with
  | false =>
    obtain rfl : D = ([], 40) := HD.out.symm.trans (dec_wrong bs r ls N hN HY.out HRT.out)
    rw [if_neg (by decide)] at HCD
    go_wp2_with fail
    refine HCD.out.mono ?_
    rintro e w2 ⟨v2, rfl, _, hb2⟩
    have HB2 := hide (below_trans HB1.out hb2)
    clear hb2
    go_wp2_with fail
    go_ret2
    exact ⟨_, rfl, own_none _ _, HB2.out⟩
  | true =>
  rw [if_pos rfl] at HCD
  go_wp2_with fail
  refine HCD.out.mono ?_
  rintro e w2 ⟨v2, rfl, ho2, hb2⟩
  obtain ⟨ac, cc, rfl⟩ := ho2.shape
  have HOC : Hid (OwnC w2 w1.heap.size (.slice ac m cc) (codesOf ls)) := by
    have h := ho2
    rw [codesOf_len, HM.out] at h
    exact h
  rw [codesOf_len, HM.out]
  have HB2 := hide (below_trans HB1.out hb2)
  have HCM : Hid ((codesOf ls).length = m) := by show _ = _; rw [codesOf_len]; exact HM.out
  clear hb2 ho2 HCD HO1
  go_wp2_with fail
  have HCB : Hid (∀ q, (Value.slice ac m cc).ownBlock = some q → q < w2.heap.size) := fun q e => (World.ownsRow.lt HOC.out q e).2
  have hs2 : w.heap.size ≤ w2.heap.size := HB2.out.size
  have HCB : Hid (∀ q, (Value.slice ac m cc).ownBlock = some q → q < w2.heap.size) := fun q e => (World.ownsRow.lt HOC.out q e).2
  have hs2 : w.heap.size ≤ w2.heap.size := HB2.out.size
  have HCB : Hid (∀ q, (Value.slice ac m cc).ownBlock = some q → q < w2.heap.size) := fun q e => (World.ownsRow.lt HOC.out q e).2
  have hs2 : w.heap.size ≤ w2.heap.size := HB2.out.size
  go_loopw [12, 13] (fun sp sv wr => ∃ (k i : Nat) (t : List (BitVec 8)) (va : Option Addr) (vc : Nat), k ≤ N ∧ i ≤ 8 * l2 ∧ sp = .int .i64 (i : Int) ∧ sv = .slice va k vc ∧ Hid (textTo ls r k = some (t, i) ∧ t.length = k ∧ Own wr w2.heap.size (.slice va k vc) t ∧ OwnC wr w1.heap.size (.slice ac m cc) (codesOf ls) ∧ Below w.heap.size w wr ∧ w2.heap.size ≤ wr.heap.size)) (fun _ sv _ => N - slen sv)
  case atStart => exact ⟨0, 0, [], none, 0, Nat.zero_le _, Nat.zero_le _, rfl, rfl, rfl, rfl, own_none _ _, HOC.out, HB2.out, Nat.le_refl _⟩
  case round =>
    clear HOC HB2
    obtain ⟨k, i, t, va, vc, hk, hi8, rfl, rfl, H⟩ := hrel
    have hii : (i : Int) ≤ 1125899906842624 := by omega
    by_cases hlt : (k : Int) < (N : Int)
    · have HT0 := hide H.out.1
      go_wp2_with fail
      go_loopw [12, 14, 15, 16] (fun sp sw ss sl wz => ∃ (p l M : Nat) (s : Int), 1 ≤ l ∧ l ≤ 16 ∧ M ≤ 32768 ∧ p ≤ 8 * l2 ∧ -1 ≤ s ∧ s ≤ 255 ∧ sp = .int .i64 (p : Int) ∧ sw = .int .u32 (M : Int) ∧ ss = .int .i64 s ∧ sl = .int .i64 (l : Int) ∧ Hid (WState ls r i p l M s ∧ Own wz w2.heap.size (.slice va k vc) t ∧ OwnC wz w1.heap.size (.slice ac m cc) (codesOf ls) ∧ Below w.heap.size w wz ∧ w2.heap.size ≤ wz.heap.size)) (fun _ _ _ sl _ => 16 - (intOf sl).toNat)
      case atStart => exact ⟨i, 1, 0, -1, by omega, by omega, by omega, hi8, by omega, by omega, rfl, rfl, rfl, rfl, .inl ⟨rfl, rfl, by decide, rfl⟩, H.out.2.2⟩
      case round =>
        have HTL := hide H.out.2.1
        clear H
        obtain ⟨p, l, M, s, hl1, hl2, hM, hp8, hs0, hs9, rfl, rfl, rfl, rfl, H⟩ := hrel
        have hpi : (p : Int) ≤ 1125899906842624 := by omega
        have HRr := hide (HR2.out.below H.out.2.2.2.1)
        by_cases hfnd : s < 0
        · have HG : Hid (s = -1 ∧ p + 1 = i + l ∧ M + 1 ≤ 2 ^ (l - 1) ∧ wordGo ls r (16 - l) p l M = wordAt ls r i) := by
            rcases H.out.1 with h | ⟨_, _, _, _, h⟩
            · exact h
            · omega
          by_cases hl15 : (l : Int) ≤ 15
          · by_cases hend : 8 * (l2 : Int) ≤ (p : Int)
            · obtain rfl : D = ([], 40) := HD.out.symm.trans (dec_stop bs r ls N hN HY.out (textTo_stop HT0.out (wordGo_over HG.out.2.2.2 (by omega) (by rw [HRL.out]; omega)) (by omega)))
              go_wp2_with fail
              go_ret2
              exact ⟨_, rfl, own_none _ _, H.out.2.2.2.1⟩
            · have HBIT := hide (bit_any (some la2) l2 c2 r p wr HRr.out (by omega))
              have HST := hide (wordGo_step HG.out.2.2.2 (by omega) (by rw [HRL.out]; omega))
              have hB1 := bitAt_le r p
              have hMl : 2 * M + bitAt r p ≤ 32768 ∧ 2 * M + bitAt r p + 1 ≤ 2 ^ (l + 1 - 1) := by
                have h1 := pow_next l M (bitAt r p) hl1 hB1 HG.out.2.2.1
                have h2 : 2 ^ (l + 1 - 1) ≤ 2 ^ 15 := Nat.pow_le_pow_right (by decide) (by omega)
                exact ⟨by omega, h1⟩
              have HMP := hide hMl.2
              obtain ⟨B, hB⟩ : ∃ B, bitAt r p = B := ⟨_, rfl⟩
              rw [hB] at HBIT HST hB1 hMl HMP
              have hMi : (M : Int) ≤ 32768 := by omega
              have hBi : (B : Int) ≤ 1 := by omega
              obtain ⟨X, hX⟩ : ∃ X, 2 * M + B = X := ⟨_, rfl⟩
              have hX1 : (M : Int) * 2 + (B : Int) = (X : Int) := by omega
              rw [hX] at HST hMl HMP
              have hXb : X ≤ 32768 := hMl.1
              have HFD := hide (find_any w1.heap.size m cc ac (codesOf ls) l X wr H.out.2.2.1 HCM.out (by omega) (by omega) hls)
              have HPL := hide HG.out.2.1
              clear hB hX hMl HG hB1
              go_wp2_with (first
                | (go_at_call 34; refine HBIT.out.mono ?_; rintro e w6 ⟨rfl, rfl⟩)
                | (go_at_call 35; refine HFD.out.mono ?_; rintro e w7 ⟨R, rfl, hres, hb7⟩
                   rw [← HM.out] at hres
                   have HRES := hide (found (by omega) HLS.out hres)
                   have hR1 : -1 ≤ R ∧ R ≤ 255 := by
                     rcases HRES.out with ⟨h, _⟩ | ⟨_, h⟩
                     · omega
                     · have := (BitVec.ofNat 8 (symOf ls l X)).isLt; omega
                   have HB7 := hide hb7
                   clear hres hb7))
              go_roundw
              case rel =>
                refine ⟨p + 1, l + 1, X, R, by omega, by omega, hXb, by omega, hR1.1, hR1.2, by go_num, rfl, rfl, by go_num, ?_, H.out.2.1.below HB7.out, H.out.2.2.1.below HB7.out, below_trans H.out.2.2.2.1 HB7.out, Nat.le_trans H.out.2.2.2.2 HB7.out.size⟩
                rcases HRES.out with ⟨h1, h2⟩ | ⟨h1, h2⟩
                · exact .inl ⟨h1, by have := HPL.out; omega, HMP.out, by rw [HST.out, if_neg h2]⟩
                · exact .inr ⟨l, X, by rw [HST.out, if_pos h1], by have := HPL.out; omega, h2⟩
              case measure => simp [intOf]; omega
          · obtain rfl : l = 16 := by omega
            obtain rfl : D = ([], 40) := HD.out.symm.trans (dec_stop bs r ls N hN HY.out (textTo_stop HT0.out (HG.out.2.2.2.symm.trans rfl) (by omega)))
            go_wp2_with fail
            go_ret2
            exact ⟨_, rfl, own_none _ _, H.out.2.2.2.1⟩
        · obtain ⟨kk, MM, hw, hpk, hsv⟩ : ∃ k M, wordAt ls r i = some (k, M) ∧ p = i + k ∧ s = ((BitVec.ofNat 8 (symOf ls k M)).toNat : Int) := by
            rcases H.out.1 with h | h
            · omega
            · exact h
          have HTN := hide (textTo_next HT0.out hw)
          obtain ⟨c, hc⟩ : ∃ c, BitVec.ofNat 8 (symOf ls kk MM) = c := ⟨_, rfl⟩
          rw [hc] at HTN hsv
          subst hsv
          rw [← hpk] at HTN
          have hc8 : (c.toNat : Int) % 256 = (c.toNat : Int) := by omega
          have hc9 : (c.toNat : Int) < 256 := by omega
          have HOA := hide (H.out.2.1.below ((Below.refl wr.heap.size wr).alloc (Nat.le_refl _) (.cells #[.int .u8 (c.toNat : Int)] 5)))
          have hsr : w2.heap.size ≤ wr.heap.size := H.out.2.2.2.2
          have HTI := hide (textTo_ok ls r _ _ _ HTN.out)
          clear hw hpk hc
          by_cases hl15 : (l : Int) ≤ 15
          all_goals
            go_wp2_with (at_builtin; refine push _ rfl _ _ rfl w2.heap.size _ t rfl HOA.out ⟨wr.heap.size, 0, none⟩ 1 c rfl (cell_one_new _ _ _ 0 _ rfl) (by have := HTL.out; omega) (by simp; omega) ?_
                         intro v9 w9 ho9 hg9
                         obtain ⟨va9, vc9, rfl⟩ := ho9.shape
                         have hq9 : (t ++ [c]).length = k + 1 := by rw [List.length_append, HTL.out]; rfl
                         rw [hq9] at ho9 ⊢
                         have HO9 := hide ho9
                         have HG9 : Hid (wr.grownBy w9 (Value.slice va k vc).ownBlock) := grown_trans (grown_of_below ((Below.refl wr.heap.size wr).alloc (Nat.le_refl _) _)) hg9
                         clear ho9 hg9 hq9)
            go_roundw
            case rel =>
              refine ⟨k + 1, p, t ++ [c], va9, vc9, by omega, by have := HTI.out.2.2; rw [HRL.out] at this; exact this, rfl, rfl, HTN.out, HTI.out.1, HO9.out, ownC_keep H.out.2.2.1 HG9.out (fun q e e2 => ?_), H.out.2.2.2.1.grown HG9.out H.out.2.2.2.1.size (fun q e => Nat.le_trans hs2 (blk H.out.2.1 q e).1), Nat.le_trans H.out.2.2.2.2 HG9.out.size⟩
              have h1 := HCB.out q e
              have h2 := (blk H.out.2.1 q e2).1
              omega
            case measure => simp [slen]; omega
    · obtain rfl : k = N := by omega
      have HDT := hide (HD.out.symm.trans (dec_text bs r t ls k i hN HY.out HRT.out H.out.1))
      have HRr := hide (HR2.out.below H.out.2.2.2.2.1)
      by_cases he : (i + 7) / 8 = l2
      · have hei : ((l2 : Int) != ((i : Int) + 7) / 8) = false := by rw [bne_eq_false_iff_eq]; omega
        have HEL := hide he
        clear he
        go_wp2_with fail
        go_loop [12] (fun sp => ∃ p : Nat, i ≤ p ∧ p ≤ 8 * l2 ∧ sp = .int .i64 (p : Int) ∧ Hid (∀ j, i ≤ j → j < p → bitAt r j = 0)) (fun sp => 8 * l2 - (intOf sp).toNat)
        case atStart => exact ⟨i, Nat.le_refl _, hi8, rfl, fun j h1 h2 => by omega⟩
        case round =>
          obtain ⟨p, hp1, hp2, rfl, HZ⟩ := hrel
          have hpi : (p : Int) ≤ 1125899906842624 := by omega
          by_cases hlt2 : (p : Int) < 8 * (l2 : Int)
          · have HBIT := hide (bit_any (some la2) l2 c2 r p wr HRr.out (by omega))
            obtain ⟨B, hB⟩ : ∃ B, bitAt r p = B := ⟨_, rfl⟩
            have HBB := hide hB
            rw [hB] at HBIT
            clear hB
            by_cases hB0 : B = 0
            · subst hB0
              rw [show ((0 : Nat) : Int) = 0 from rfl] at HBIT
              go_wp2_with (go_at_call 34; refine HBIT.out.mono ?_; rintro e w6 ⟨rfl, rfl⟩)
              go_round
              case rel => exact ⟨p + 1, by omega, by omega, by go_num, fun j h1 h2 => by
                by_cases e : j = p
                · subst e; exact HBB.out
                · exact HZ.out j h1 (by omega)⟩
              case measure => simp [intOf]; omega
            · obtain rfl : D = ([], 40) := by
                have h := HDT.out
                rw [if_neg (by
                  unfold isEnd
                  rw [decide_eq_true_iff]
                  rintro ⟨_, q⟩
                  have := q p (by rw [HRL.out]; omega) hp1
                  rw [HBB.out] at this
                  exact hB0 this)] at h
                exact h
              have hBi : ((B : Int) != 0) = true := by rw [bne_iff_ne]; omega
              go_wp2_with (go_at_call 34; refine HBIT.out.mono ?_; rintro e w6 ⟨rfl, rfl⟩)
              go_ret2
              exact ⟨_, rfl, own_none _ _, H.out.2.2.2.2.1⟩
          · obtain rfl : D = (t, 0) := by
              have h := HDT.out
              rw [if_pos (by
                unfold isEnd
                rw [decide_eq_true_iff]
                refine ⟨by rw [HRL.out, HEL.out], fun j h1 h2 => HZ.out j h2 ?_⟩
                rw [HRL.out] at h1
                omega)] at h
              exact h
            go_wp2_with fail
            go_ret2
            exact ⟨_, rfl, H.out.2.2.1.mono hs2, H.out.2.2.2.2.1⟩
      · obtain rfl : D = ([], 40) := by
          have h := HDT.out
          rw [isEnd_len (by rw [HRL.out]; exact he), if_neg (by decide)] at h
          exact h
        have hei : ((l2 : Int) != ((i : Int) + 7) / 8) = true := by rw [bne_iff_ne]; omega
        go_wp2_with fail
        go_ret2
        exact ⟨_, rfl, own_none _ _, H.out.2.2.2.2.1⟩
end Go.Proofs.Ytjpmeecahckglaa.Huff
