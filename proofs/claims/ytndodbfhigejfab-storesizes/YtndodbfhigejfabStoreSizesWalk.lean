/-
  The walk of the statement StoreSizes.
-/
import Derived.Test.YtndodbfhigejfabStFit
namespace Go.Proofs.Ytndodbfhigejfab.St
open Go.ChangeShapes Go.WideShapes Go.ChangeAt Go.RowKit Go.MuLone
open Go.Proofs.Ytndodbfhigejfab.Base
set_option linter.unusedVariables false
set_option maxHeartbeats 4000000
theorem read_all (xs : List (BitVec 8)) (k : Int) (h : (xs.length : Int) ≤ k) : readOf xs 0 k = (xs, 0) := by
  unfold readOf
  rw [if_neg (by omega)]
  simp only [Int.toNat_zero, List.drop_zero]
  rw [List.take_of_length_le (by omega)]
theorem resized_in (xs : List (BitVec 8)) (m k : Nat) (h : k < m) (h2 : k < xs.length) : (resized xs m).getD k 0 = xs.getD k 0 := by
  unfold resized
  rw [List.getD_eq_getElem?_getD, List.getElem?_append_left (by rw [List.length_take]; omega), List.getElem?_take, if_pos h, List.getD_eq_getElem?_getD]
theorem resized_out (xs : List (BitVec 8)) (m k : Nat) (h : k < m) (h2 : xs.length ≤ k) : (resized xs m).getD k 0 = 0 := by
  unfold resized
  rw [List.getD_eq_getElem?_getD, List.getElem?_append_right (by rw [List.length_take]; omega), List.getElem?_replicate]
  split <;> rfl
set_option maxRecDepth 100000 in
theorem sizes_any (a : Option Addr) (len cap : Nat) (bs : List (BitVec 8)) (n1 : Int) (w : World) (hr : Rd w a len bs) (hc : len ≤ cap) (hcm : cap ≤ 140737488351232) (hz : a = none → len = 0 ∧ cap = 0) (hw : (Lit.int .i64 n1).wf = true) :
    Calls Try.prog 8 #[.slice a len cap, .int .i64 n1] w fun e w' => e = .returned (.bool true) ∧ Below w.heap.size w w' := by
  have HNA : Hid ((⟨#[97]⟩ : ByteArray) = NA) := rfl
  have HF := hide (fit_any a len cap bs w hr hc hcm hz)
  have HZ := hide hz
  clear hr hc hcm hz
  go_enter Try.func8, Try.ntmps8
  go_wp2_with fail
  refine HF.out.mono ?_
  rintro e w0 ⟨L, rfl, hR, hL, hw0⟩
  obtain rfl : w0 = w := hw0
  have HR := hide hR
  clear hR HF
  go_wp2_with fail
  refine (new_any w0).mono ?_
  rintro e w1 ⟨s, bm, rfl, hs1, hsl, hbl, hb1⟩
  have HS1 := hide hs1
  have HB1 := hide hb1
  clear hs1 hb1
  go_wp2_with fail
  rw [HNA.out]
  refine (create_any s bm 0 (.map []) 0 0 0 NA w1 HS1.out okNA (by decide) (at_empty NA) (by omega)).mono ?_
  rintro e w2 ⟨b, rfl, hs2, hbt2, hlb2, k2⟩
  have HS2 := hide hs2
  have HT2 := hide hbt2
  have hw1l : w0.heap.size ≤ w1.heap.size := HB1.out.size
  have HB2 : Hid (Below w0.heap.size w0 w2) := below_kept HB1.out k2 (fun i e => by have := Option.some.inj e; omega) (fun i e => by have := Option.some.inj e; omega)
  have HD : Hid (((DataW.map [] : DataW Unit).put (key NA) (.lit (.int .i64 (b : Int)))).atKey (key NA) .nil = .lit (.int .i64 (b : Int))) := at_put _ _ _ (isMap_of HS1.out.map)
  have hsw1 := HS1.out.at_.lt
  have hmw1 := HS1.out.map.lt
  have hbw2 := hbt2.lt
  have hw2l := HB2.out.size
  clear hs2 hbt2 k2
  have HN : Hid (a = none → L = 0 ∧ cap = 0) := fun e => ⟨Classical.byContradiction (fun h0 => by obtain ⟨b0, o0, e0, _⟩ := HR.out.2.2 (by omega); rw [e0] at e; cases e), (HZ.out e).2⟩
  have HAP := hide (append_any s bm 1 b _ 0 0 0 NA a L cap (fitted bs) w2 HS2.out okNA (by decide) HD.out HT2.out (by omega) (by omega) (HR.out.below HB2.out) (fun h0 ad e => by obtain ⟨b0, o0, e0, hlt, _⟩ := HR.out.2.2 h0; rw [e0] at e; cases e; show b0 ≠ s; omega) HN.out hL)
  go_wp2_with fail
  refine HAP.out.mono ?_
  rintro e w4 ⟨v, rfl, hs4, ht4, ho4, k4⟩
  obtain ⟨va, vc, rfl⟩ := ho4.shape
  rw [HR.out.1] at ht4 ho4
  have HS4 := hide hs4
  have HT4 := hide ht4
  have HO4 := hide ho4
  have HBK : Hid (∀ i, (Value.slice va L vc).ownBlock = some i → w2.heap.size ≤ i) := fun i e => (blk ho4 i e).1
  have HB4 : Hid (Below w0.heap.size w0 w4) := below_kept HB2.out k4 (fun i e => by have := Option.some.inj e; omega) (fun i e => by have := Option.some.inj e; omega)
  have hsw2 : s < w2.heap.size := HS2.out.at_.lt
  have hmw2 : bm < w2.heap.size := HS2.out.map.lt
  have hw24 : w2.heap.size ≤ w4.heap.size := k4.size
  have hLi : (L : Int) ≤ 268435456 := by omega
  clear hs4 ht4 ho4 k4 HAP HS2 HT2 HS1 HB1
  have hsb : s ≠ b := by omega
  have hmb : bm ≠ b := by omega
  by_cases hbad : n1 < -(L : Int) ∨ 268435456 - (L : Int) < n1
  · have HRB := hide (resizeS_bad s bm 1 b _ 0 0 0 NA va L vc n1 w4 HS4.out okNA (by decide) HD.out HT4.out hL hbad hsb)
    have HHD := hide head_any
    by_cases h1 : n1 < -(L : Int)
    · have h2 : ¬ 1048576 < n1 := by omega
      go_wp2_with fail
      refine HRB.out.mono ?_
      rintro e w5 ⟨rfl, k5⟩
      have HB5 : Hid (Below w0.heap.size w0 w5) := below_kept HB4.out k5 (fun i e => by have := Option.some.inj e; omega) (fun i e => by cases e)
      clear k5
      go_wp2_with fail
      refine (HHD.out w5).mono ?_
      rintro e w6 ⟨rfl, hb6⟩
      have HB6 := hide (below_trans HB5.out hb6)
      clear hb6
      go_wp2_with fail
      go_ret
      exact ⟨rfl, HB6.out⟩
    · have h3 : 268435456 - (L : Int) < n1 := hbad.resolve_left h1
      have h4 : ¬ n1 ≤ 268435456 - (L : Int) := by omega
      by_cases h2 : 1048576 < n1 <;>
      · go_wp2_with fail
        refine HRB.out.mono ?_
        rintro e w5 ⟨rfl, k5⟩
        have HB5 : Hid (Below w0.heap.size w0 w5) := below_kept HB4.out k5 (fun i e => by have := Option.some.inj e; omega) (fun i e => by cases e)
        clear k5
        go_wp2_with fail
        refine (HHD.out w5).mono ?_
        rintro e w6 ⟨rfl, hb6⟩
        have HB6 := hide (below_trans HB5.out hb6)
        clear hb6
        go_wp2_with fail
        go_ret
        exact ⟨rfl, HB6.out⟩
  · have h1 : ¬ n1 < -(L : Int) := fun h => hbad (.inl h)
    have h2 : n1 ≤ 268435456 - (L : Int) := by omega
    have HBY : ∃ BY : Int, (1048576 < n1 ∧ BY = 1048576) ∨ (¬ 1048576 < n1 ∧ BY = n1) := by
      by_cases h : 1048576 < n1
      · exact ⟨_, .inl ⟨h, rfl⟩⟩
      · exact ⟨_, .inr ⟨h, rfl⟩⟩
    obtain ⟨BY, HBY⟩ := HBY
    have h5 : ¬ BY < -(L : Int) := by omega
    have h6 : ¬ 268435456 - (L : Int) < BY := by omega
    obtain ⟨m, hm⟩ : ∃ m : Nat, (L : Int) + BY = (m : Int) := ⟨((L : Int) + BY).toNat, by omega⟩
    have hm28 : m ≤ 268435456 := by omega
    have HRO := hide (resizeS_ok s bm 1 b w2.heap.size m _ 0 0 0 NA va L vc (fitted bs) BY w4 HS4.out okNA (by decide) HD.out HT4.out HO4.out (fun i e e2 => by have h1 := HBK.out i e; omega) hL hm28 hm hsb hmb)
    have HRF : Hid ((fitted bs).length = L) := HR.out.1
    have HX : Hid (readOf (resized (fitted bs) m) 0 ((m : Int) + 1) = (resized (fitted bs) m, 0)) := read_all _ _ (by rw [resized_len]; omega)
    have hq1 : ((m : Int) != (m : Int)) = false := by simp
    rcases HBY with ⟨h3, rfl⟩ | ⟨h3, rfl⟩ <;>
    · go_wp2_with fail
      refine HRO.out.mono ?_
      rintro e w5 ⟨v5, rfl, hs5, ht5, ho5, k5⟩
      obtain ⟨va5, vc5, rfl⟩ := ho5.shape
      rw [resized_len] at ht5 ho5
      have HS5 := hide hs5
      have HO5 := hide ho5
      have HBK5 : Hid (∀ i, (Value.slice va5 m vc5).ownBlock = some i → w4.heap.size ≤ i) := fun i e => (blk ho5 i e).1
      have HB5 : Hid (Below w0.heap.size w0 w5) := below_kept HB4.out k5 (fun i e => by have := Option.some.inj e; omega) (fun i e => by have := Option.some.inj e; omega)
      have HPU := hide (publishS_any s bm 1 b _ 0 0 0 NA (.slice va5 m vc5) w5 hs5 okNA (by decide) HD.out ht5 hsb hmb)
      clear hs5 ht5 ho5 k5 HRO HS4 HT4 HO4 HB4
      go_wp2_with fail
      refine HPU.out.mono ?_
      rintro e w6 ⟨rfl, hs6, ht6, k6⟩
      have HT6 := hide ht6
      have HO6 := hide (own_of_kept HO5.out k6 (fun i e e2 => by have h1 := HBK5.out i e; have h2 := Option.some.inj e2; omega) (fun i e e2 => by have h1 := HBK5.out i e; have h2 := Option.some.inj e2; omega))
      have HB6 : Hid (Below w0.heap.size w0 w6) := below_kept HB5.out k6 (fun i e => by have := Option.some.inj e; omega) (fun i e => by have := Option.some.inj e; omega)
      have HSZ := hide (sizeS_any s bm 1 b _ 0 0 0 NA va5 m vc5 w6 hs6 okNA (by decide) HD.out ht6 hm28 hsb)
      clear hs6 ht6 k6 HPU HS5 HO5 HB5
      go_wp2_with fail
      refine HSZ.out.mono ?_
      rintro e w7 ⟨rfl, hs7, k7⟩
      have HS7 := hide hs7
      have HT7 := hide (HT6.out.kept k7 (fun e => hsb (Option.some.inj e)) (by simp))
      have HO7 := hide (own_of_kept HO6.out k7 (fun i e e2 => by have h1 := HBK5.out i e; have h2 := Option.some.inj e2; omega) (fun i e => by simp))
      have HB7 : Hid (Below w0.heap.size w0 w7) := below_kept HB6.out k7 (fun i e => by have := Option.some.inj e; omega) (fun i e => by cases e)
      have HRA := hide (readS_any s bm 1 b w4.heap.size _ 0 0 0 NA va5 m vc5 (resized (fitted bs) m) 0 ((m : Int) + 1) w7 hs7 okNA (by decide) HD.out HT7.out HO7.out (fun i e e2 => by have h1 := HBK5.out i e; omega) hm28 hsb (by omega) (by omega) (by omega))
      rw [HX.out] at HRA
      clear hs7 k7 HSZ HT6 HO6 HB6
      go_wp2_with fail
      refine HRA.out.mono ?_
      rintro e w8 ⟨v8, rfl, ho8, hs8, k8⟩
      obtain ⟨a8, c8, rfl⟩ := ho8.shape
      rw [resized_len] at ho8
      have HB8 : Hid (Below w0.heap.size w0 w8) := below_kept HB7.out k8 (fun i e => by have := Option.some.inj e; omega) (fun i e => by cases e)
      have HC8 := hide (Got.rd ho8 (by rw [resized_len]; omega)).2.2
      have HCD := hide (HR.out.below HB8.out).2.2
      clear ho8 hs8 k8 HRA HS7 HT7 HO7 HB7
      simp only [resized_len]
      go_wp2_with fail
      go_loopw [13] (fun i wr => ∃ k : Nat, k ≤ m ∧ i = .int .i64 k ∧ ∃ n, wr = w8.drewN n) (fun i _ => m - (intOf i).toNat)
      case atStart => exact ⟨0, Nat.zero_le _, rfl, 0, rfl⟩
      case round =>
        obtain ⟨k, hk, rfl, n, rfl⟩ := hrel
        by_cases hlt : k < m
        · obtain ⟨b1, o1, rfl, hb1, hc1⟩ := unhide HC8 (by omega)
          have g1 := hc1 k hlt
          clear hc1
          have hki : (k : Int) < (m : Int) := by omega
          by_cases hin : k < L
          · obtain ⟨b2, o2, rfl, hb2, hc2⟩ := unhide HCD (by omega)
            have g2 := hc2 k hin
            clear hc2
            rw [resized_in _ _ _ hlt (by have := HRF.out; omega)] at g1
            generalize (fitted bs).getD k 0 = x at g1 g2
            have hkL : (k : Int) < (L : Int) := by omega
            have hkL2 : ((L : Int) ≤ (k : Int)) = False := by rw [eq_iff_iff, iff_false]; omega
            have hkL3 : decide ((L : Int) ≤ (k : Int)) = false := by rw [decide_eq_false_iff_not]; omega
            have hq : ((x.toNat : Int) != (x.toNat : Int)) = false := by simp
            go_wp2
            go_quiet (fail)
            go_wp2
            go_roundw
            case rel => exact ⟨k + 1, by omega, by go_num, n + nq, rfl⟩
            case measure => simp [intOf]; omega
          · rw [resized_out _ _ _ hlt (by have := HRF.out; omega)] at g1
            have hkL : ¬ (k : Int) < (L : Int) := by omega
            have hkL2 : (L : Int) ≤ (k : Int) := by omega
            go_wp2
            go_quiet (fail)
            go_wp2
            go_roundw
            case rel => exact ⟨k + 1, by omega, by go_num, n + nq, rfl⟩
            case measure => simp [intOf]; omega
        · have hki : ¬ (k : Int) < (m : Int) := by omega
          go_wp2_with fail
          refine (head_any _).mono ?_
          rintro e w9 ⟨rfl, hb9⟩
          have HB9 := hide (below_trans (HB8.out.trans (below_drewN' _ _ _)) hb9)
          clear hb9
          go_wp2_with fail
          go_ret
          exact ⟨rfl, HB9.out⟩
end Go.Proofs.Ytndodbfhigejfab.St
namespace Go.Proofs.Ytndodbfhigejfab.storeSizes
open Go.ChangeShapes Go.WideShapes Go.ChangeAt Go.RowKit
open Go.Proofs.Ytndodbfhigejfab.Base Go.Proofs.Ytndodbfhigejfab.St
theorem walk (a0 : Option Addr) (len0 cap0 : Nat) (b0 : List (BitVec 8)) (n1 : Int) (w : World) (r0 : Rd w a0 len0 b0) (l0 : len0 ≤ cap0) (m0 : cap0 ≤ 140737488351232) (z0 : a0 = none → len0 = 0 ∧ cap0 = 0) (w1 : (Lit.int .i64 n1).wf = true) :
    Calls Try.prog 8 #[.slice a0 len0 cap0, .int .i64 n1] w fun e w' => e = .returned (.bool true) ∧ Below w.heap.size w w' := sizes_any a0 len0 cap0 b0 n1 w r0 l0 m0 z0 w1
end Go.Proofs.Ytndodbfhigejfab.storeSizes
