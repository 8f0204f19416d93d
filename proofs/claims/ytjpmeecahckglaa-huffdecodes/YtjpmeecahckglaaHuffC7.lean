/-
  The document's Codes, at any lengths.
-/
import Derived.Test.YtjpmeecahckglaaHuffC6
namespace Go.Proofs.Ytjpmeecahckglaa.Huff
open Go.ChangeShapes Go.WideShapes Go.ChangeAt Go.RowKit
open Go.Proofs.Ytjpmeecahckglaa.Base
set_option linter.unusedVariables false
/-- The words of the lengths below n, and of those of length n that stand ahead of i. -/
def codesAt (ls : List Int) (n i : Nat) : List (Int × Nat) := (List.range ls.length).map fun s => if (0 < ls.getD s 0 ∧ ls.getD s 0 < (n : Int)) ∨ (ls.getD s 0 = (n : Int) ∧ s < i) then codeAt ls s else (0, 0)
theorem codesAt_len (ls : List Int) (n i : Nat) : (codesAt ls n i).length = ls.length := by simp [codesAt]
theorem codesAt_zero (ls : List Int) : codesAt ls 1 0 = List.replicate ls.length (0, 0) := by
  unfold codesAt
  apply List.ext_getElem
  · simp
  · intro j h1 h2
    simp only [List.getElem_map, List.getElem_range, List.getElem_replicate]
    rw [if_neg (by omega)]
theorem codesAt_set (ls : List Int) (n i : Nat) (hi : i < ls.length) (hn : 0 < n) (h : ls.getD i 0 = (n : Int)) : (codesAt ls n i).set i ((n : Int), first ls n + cnt ls n i) = codesAt ls n (i + 1) := by
  have hc : codeAt ls i = ((n : Int), first ls n + cnt ls n i) := by
    unfold codeAt; rw [h, if_neg (by omega), Int.toNat_natCast]
  rw [← hc]
  unfold codesAt
  apply List.ext_getElem
  · simp
  · intro j h1 h2
    rw [List.getElem_set]
    simp only [List.getElem_map, List.getElem_range]
    by_cases e : i = j
    · subst e; rw [if_pos rfl, if_pos (by omega)]
    · rw [if_neg e]
      by_cases hq : (0 < ls.getD j 0 ∧ ls.getD j 0 < (n : Int)) ∨ (ls.getD j 0 = (n : Int) ∧ j < i)
      · rw [if_pos hq, if_pos (by omega)]
      · rw [if_neg hq, if_neg (by omega)]
theorem codesAt_congr (ls : List Int) (n i n' i' : Nat) (h : ∀ s, s < ls.length → (((0 < ls.getD s 0 ∧ ls.getD s 0 < (n : Int)) ∨ (ls.getD s 0 = (n : Int) ∧ s < i)) ↔ ((0 < ls.getD s 0 ∧ ls.getD s 0 < (n' : Int)) ∨ (ls.getD s 0 = (n' : Int) ∧ s < i')))) : codesAt ls n i = codesAt ls n' i' := by
  unfold codesAt
  apply List.map_congr_left
  intro s hs
  have := h s (List.mem_range.1 hs)
  by_cases hq : (0 < ls.getD s 0 ∧ ls.getD s 0 < (n : Int)) ∨ (ls.getD s 0 = (n : Int) ∧ s < i)
  · rw [if_pos hq, if_pos (this.1 hq)]
  · rw [if_neg hq, if_neg (fun h2 => hq (this.2 h2))]
theorem codesAt_skip (ls : List Int) (n i : Nat) (h : ls.getD i 0 ≠ (n : Int)) : codesAt ls n i = codesAt ls n (i + 1) := by
  apply codesAt_congr
  intro s hs
  by_cases e : s = i
  · subst e; constructor <;> (intro h2; omega)
  · constructor <;> (intro h2; omega)
theorem codesAt_next (ls : List Int) (n : Nat) (hn : 0 < n) : codesAt ls n ls.length = codesAt ls (n + 1) 0 := by
  apply codesAt_congr
  intro s hs
  constructor <;> (intro h2; omega)
theorem codesAt_all (ls : List Int) (hin : allIn 15 ls = true) : codesAt ls 16 0 = codesOf ls := by
  unfold codesAt codesOf
  apply List.map_congr_left
  intro s hs
  have hx := allIn_get hin s (List.mem_range.1 hs)
  by_cases e : ls.getD s 0 = 0
  · rw [if_neg (by omega)]
    unfold codeAt; rw [if_pos e]
  · rw [if_pos (by omega)]
theorem cnt_succ_eq (ls : List Int) (n i : Nat) (h : ls.getD i 0 = (n : Int)) : cnt ls n (i + 1) = cnt ls n i + 1 := by simp only [cnt]; rw [if_pos h]
theorem cnt_succ_ne (ls : List Int) (n i : Nat) (h : ls.getD i 0 ≠ (n : Int)) : cnt ls n (i + 1) = cnt ls n i := by simp only [cnt]; rw [if_neg h]; rfl
theorem word_le (ls : List Int) (h : ls.length ≤ 256) (n i : Nat) (hn : n ≤ 15) (hi : i ≤ 256) : first ls n + cnt ls n i ≤ 16777472 := by
  have h1 := first_le ls h n
  have h2 := cnt_le ls n i
  have h3 : 512 * 2 ^ n ≤ 512 * 2 ^ 15 := Nat.mul_le_mul_left _ (Nat.pow_le_pow_right (by decide) hn)
  omega
set_option maxHeartbeats 1000000 in
set_option maxRecDepth 100000 in
theorem refCodes_any (a : Option Addr) (len cap : Nat) (ls : List Int) (w : World) (hr : RdI w a len ls) :
    Calls Try.prog 33 #[.slice a len cap] w fun e w' => ∃ v, e = .returned (.tuple #[v, .int .i64 (coded ls).2]) ∧ OwnC w' w.heap.size v (coded ls).1 ∧ Below w.heap.size w w' := by
  have HL := hide hr.1
  have HR := hide hr
  have HCY := hide hr.2.2
  have hm := hr.2.1
  clear hr
  by_cases h1 : 256 < len
  · have e : coded ls = ([], 2) := by unfold coded; rw [if_pos (by rw [HL.out]; exact h1)]
    rw [e]
    have h1i : (256 : Int) < (len : Int) := by omega
    go_enter Try.func33, Try.ntmps33
    go_wp2_with fail
    go_ret2
    exact ⟨_, rfl, ownC_none _ _, Below.refl _ _⟩
  have h1i : ¬ (256 : Int) < (len : Int) := by omega
  have HNL : Hid (¬ 256 < ls.length) := by rw [HL.out]; exact h1
  go_enter Try.func33, Try.ntmps33
  go_wp2_with fail
  go_loopw [4] (fun i wr => ∃ k : Nat, k ≤ len ∧ i = .int .i64 (k : Int) ∧ Hid (allIn 15 ls = allIn 15 (ls.drop k)) ∧ w = wr) (fun i _ => len - (intOf i).toNat)
  case atStart => exact ⟨0, Nat.zero_le _, rfl, rfl, rfl⟩
  case round =>
    obtain ⟨k, hk, rfl, HE, rfl⟩ := hrel
    by_cases hlt : k < len
    · obtain ⟨b1, o1, rfl, hb1, hc1⟩ := unhide HCY (by omega)
      have g1 := hc1 k hlt
      have HD := hide (allIn_drop 15 ls k (by have := HL.out; omega))
      clear hc1
      have hki : (k : Int) < (len : Int) := by omega
      generalize ls.getD k 0 = x at g1 HD
      by_cases hx : 0 ≤ x ∧ x ≤ 15
      · obtain ⟨x1, x2⟩ := hx
        have HD2 := hide (HD.out.trans (in_pos x1 x2 _))
        go_wp2_with fail
        go_roundw
        case rel => exact ⟨k + 1, by omega, by go_num, HE.out.trans HD2.out, by first | rfl | trivial⟩
        case measure => simp [intOf]; omega
      · have HD2 := hide (HE.out.trans (HD.out.trans (in_neg hx _)))
        have HBAD : Hid (coded ls = ([], 3)) := by show _ = _; unfold coded; rw [if_neg HNL.out, if_pos HD2.out]
        rcases Int.lt_or_le x 0 with h0 | h0
        · go_wp2_with fail
          go_ret2
          rw [HBAD.out]
          exact ⟨_, rfl, ownC_none _ _, Below.refl _ _⟩
        · have h1 : 15 < x := by omega
          have h0' : ¬ x < 0 := by omega
          go_wp2_with fail
          go_ret2
          rw [HBAD.out]
          exact ⟨_, rfl, ownC_none _ _, Below.refl _ _⟩
    · have hB : allIn 15 ls = true := HE.out.trans (allIn_end _ _ _ (by have := HL.out; omega))
      have HKR := hide (kraft_any a len cap ls w HR.out (by omega) hB)
      have HKL := hide (kraft_last ls hB)
      have HCD : Hid (coded ls = if right ls = true then (codesOf ls, 0) else ([], 41)) := by show _ = _; unfold coded; rw [if_neg HNL.out, if_neg (by rw [hB]; decide)]
      have HRT : Hid (right ls = decide (kraft ls len ≤ 32768)) := by show _ = _; rw [← HL.out, HKL.out]; rfl
      have HCALL := hide (codesAt_all ls hB)
      have hki : ¬ (k : Int) < (len : Int) := by omega
      clear hB HE hk hlt HKL
      generalize kraft ls len = K at HKR HRT
      go_wp2_with fail
      refine HKR.out.mono ?_
      rintro e w1 ⟨rfl, hb1⟩
      have HB1 := hide hb1
      clear hb1 hki HKR HR
      by_cases hK : K ≤ 32768
      · have hKi : ¬ (32768 : Int) < (K : Int) := by omega
        rw [decide_eq_true hK] at HRT
        have HCD2 : Hid (coded ls = (codesOf ls, 0)) := by show _ = _; rw [HCD.out, if_pos HRT.out]
        obtain ⟨i0, hi, hz0, hz1, hz2⟩ := info_parts infoC
        have hs1 : w.heap.size ≤ w1.heap.size := HB1.out.size
        clear hK HCD HRT
        go_wp2_with (at_make; refine wpList_make_full _ rfl _ _ 58 rfl w.heap.size 84 i0 (.agg #[.int .i64 0, .int .u32 0]) 2 Try.underlying58 hi hz0 hz1 .i64 .i64 _ _ len rfl rfl rfl rfl (by rw [hz2]; omega) (by unfold maxLen; omega) hs1 ?_
                     intro w2 hown hgrow
                     have HC0 : Hid (OwnC w2 w.heap.size (.slice (some ⟨w1.heap.size, 0, none⟩) len len) (codesAt ls 1 0)) := hide (by rw [codesAt_zero, HL.out]; exact ownC_zero hown)
                     have HB2 : Hid (Below w.heap.size w w2) := HB1.out.grown hgrow hs1 (fun i e => by cases e)
                     clear hown hgrow)
        obtain ⟨gc, hgc⟩ : ∃ gc, w1.heap.size = gc := ⟨_, rfl⟩
        rw [hgc] at HC0 hs1 ⊢
        clear hgc hi hz0 hz1 hz2 HB1
        go_loopw [6, 7] (fun wd n wr => ∃ (m p W : Nat), m ≤ 16 ∧ Hid (m = p + 1) ∧ n = .int .i64 (m : Int) ∧ wd = .int .u32 (W : Int) ∧ Hid (W = first ls p + cntW ls ls.length p) ∧ Hid (OwnC wr w.heap.size (.slice (some ⟨gc, 0, none⟩) len len) (codesAt ls m 0)) ∧ Hid (Below w.heap.size w wr)) (fun _ n _ => 16 - (intOf n).toNat)
        case atStart => exact ⟨1, 0, 0, by omega, rfl, rfl, rfl, rfl, HC0, HB2⟩
        case round =>
          clear HC0 HB2
          obtain ⟨m, p, W, hm16, HMP, rfl, rfl, HW, HO, HB⟩ := hrel
          by_cases hlt : m ≤ 15
          · have hWb : W ≤ 16777472 := by
              have h2 := first_le ls (by rw [HL.out]; omega) p
              have h3 := cntW_le ls ls.length p
              have h4 : 512 * 2 ^ p ≤ 512 * 2 ^ 15 := Nat.mul_le_mul_left _ (Nat.pow_le_pow_right (by decide) (by have := HMP.out; omega))
              have := HL.out
              have := HW.out
              omega
            have HF : Hid (W * 2 = first ls m + cnt ls m 0) := by
              show _ = _
              rw [HMP.out, HW.out]
              simp only [first, cnt]
              omega
            have hmi : (m : Int) ≤ 15 := by omega
            have hm1 : 0 < m := by have := HMP.out; omega
            have hWi : (W : Int) ≤ 16777472 := by omega
            go_wp2_with fail
            go_loopw [6, 8] (fun wd j wz => ∃ (k U : Nat), k ≤ len ∧ j = .int .i64 (k : Int) ∧ wd = .int .u32 (U : Int) ∧ Hid (U = first ls m + cnt ls m k) ∧ Hid (OwnC wz w.heap.size (.slice (some ⟨gc, 0, none⟩) len len) (codesAt ls m k)) ∧ Hid (Below w.heap.size w wz)) (fun _ j _ => len - (intOf j).toNat)
            case atStart => exact ⟨0, W * 2, Nat.zero_le _, rfl, val_int (by omega), HF, HO, HB⟩
            case round =>
              clear HF HO HB HW hWb hWi
              obtain ⟨k, U, hk, rfl, rfl, HU, HO, HB⟩ := hrel
              have hUb : U ≤ 16777472 := by rw [HU.out]; exact word_le ls (by rw [HL.out]; omega) m k hlt (by omega)
              have hUi : (U : Int) ≤ 16777472 := by omega
              by_cases hlk : k < len
              · obtain ⟨b1, o1, rfl, hb1, hc1⟩ := unhide HCY (by omega)
                have g1 := hc1 k hlk
                rw [← HB.out.cell (p := ⟨b1, o1 + k, none⟩) hb1] at g1
                clear hc1
                have hki : (k : Int) < (len : Int) := by omega
                obtain ⟨x, hxe⟩ : ∃ x, ls.getD k 0 = x := ⟨_, rfl⟩
                rw [hxe] at g1
                by_cases hx : x = (m : Int)
                · subst hx
                  have HCS := hide (codesAt_set ls m k (by rw [HL.out]; exact hlk) hm1 hxe)
                  rw [← HU.out] at HCS
                  have HCU : Hid (U + 1 = first ls m + cnt ls m (k + 1)) := by show _ = _; rw [cnt_succ_eq ls m k hxe, HU.out]; omega
                  obtain ⟨c1, c2⟩ := HO.out.cells (by rw [codesAt_len, HL.out]) k hlk
                  have f3 := HO.out.frozen (by rw [codesAt_len, HL.out]) (k * 2)
                  have f4 := HO.out.frozen (by rw [codesAt_len, HL.out]) (k * 2 + 1)
                  generalize ((codesAt ls m k).getD k (0, 0)).1 = C1 at c1
                  generalize ((codesAt ls m k).getD k (0, 0)).2 = C2 at c2
                  have HST := hide (HO.out.store (by rw [codesAt_len, HL.out]) k (m : Int) U)
                  rw [HCS.out] at HST
                  have HBS : Hid (Below w.heap.size w ((wr.setCell ⟨gc, k * 2, none⟩ (.int .i64 (m : Int))).setCell ⟨gc, k * 2 + 1, none⟩ (.int .u32 (U : Int)))) := (HB.out.setCell hs1 _).setCell hs1 _
                  have hxq : ((m : Int) == (m : Int)) = true := by simp
                  clear hxe HCS
                  go_wp2_with fail
                  go_roundw
                  case rel => exact ⟨k + 1, U + 1, by omega, by go_num, val_int (by omega), HCU, HST, HBS⟩
                  case measure => simp [intOf]; omega
                · have hxq : (x == (m : Int)) = false := by rw [beq_eq_false_iff_ne]; exact hx
                  have HCS := hide (codesAt_skip ls m k (by rw [hxe]; exact hx))
                  rw [HCS.out] at HO
                  have HCU : Hid (U = first ls m + cnt ls m (k + 1)) := by show _ = _; rw [cnt_succ_ne ls m k (by rw [hxe]; exact hx), HU.out]
                  clear hxe hx HCS
                  go_wp2_with fail
                  go_roundw
                  case rel => exact ⟨k + 1, U, by omega, by go_num, rfl, HCU, HO, HB⟩
                  case measure => simp [intOf]; omega
              · obtain rfl : k = len := by omega
                have HON : Hid (OwnC wr w.heap.size (.slice (some ⟨gc, 0, none⟩) k k) (codesAt ls (m + 1) 0)) := by
                  have h := HO.out
                  rw [← HL.out, codesAt_next ls m hm1, HL.out] at h
                  exact h
                have HWN : Hid (U = first ls m + cntW ls ls.length m) := by
                  show _ = _
                  unfold cntW
                  rw [if_neg (by omega), HU.out, HL.out]
                have hki : ¬ (k : Int) < (k : Int) := by omega
                clear HU HO hk hlk
                go_wp2_with fail
                go_roundw
                case rel => exact ⟨m + 1, m, U, by omega, rfl, by go_num, rfl, HWN, HON, HB⟩
                case measure => simp [intOf]; omega
          · obtain rfl : m = 16 := by omega
            rw [HCALL.out] at HO
            go_wp2_with fail
            go_ret2
            rw [HCD2.out]
            exact ⟨_, rfl, HO.out, HB.out⟩
      · have hKi : (32768 : Int) < (K : Int) := by omega
        rw [decide_eq_false hK] at HRT
        have HCD2 : Hid (coded ls = ([], 41)) := by show _ = _; rw [HCD.out, HRT.out, if_neg (by decide)]
        go_wp2_with fail
        go_ret2
        rw [HCD2.out]
        exact ⟨_, rfl, ownC_none _ _, HB1.out⟩
end Go.Proofs.Ytjpmeecahckglaa.Huff
