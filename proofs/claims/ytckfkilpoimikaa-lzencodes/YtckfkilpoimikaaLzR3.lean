/-
  The document's own answer: Write.
-/
import Derived.Test.YtckfkilpoimikaaLzR2
namespace Go.Proofs.Ytckfkilpoimikaa.Lz
open Go.ChangeShapes Go.WideShapes Go.ChangeAt Go.RowKit
open Go.Proofs.Ytckfkilpoimikaa.Base Go.Proofs.Ytckfkilpoimikaa.Nums
set_option linter.unusedVariables false
theorem rd_off {w w' : World} {a : Option Addr} {len base : Nat} {bs : List (BitVec 8)} {r : Option Nat} (hr : Rd w a len bs) (hg : w.grownBy w' r) (hb : ∀ k, r = some k → base ≤ k) (ha : 0 < len → ∀ ad, a = some ad → ad.block < base) : Rd w' a len bs := by
  by_cases hl : len = 0
  · subst hl
    have : bs = [] := List.length_eq_zero_iff.1 hr.1
    subst this; exact rd_zero _ _
  · exact hr.grown hg (fun ad e e2 => by have h1 := hb _ e2; have h2 := ha (by omega) ad e; omega)
theorem expanded_err (ts : List Tok) : (expanded ts).2 = (measure 0 ts).2 := by
  unfold expanded
  split
  · rename_i h; exact h.symm
  · rfl
set_option maxHeartbeats 1000000 in
set_option maxRecDepth 100000 in
theorem refWrite_any (a : Option Addr) (n c : Nat) (ts : List Tok) (w : World) (hr : TRd w a n ts) :
    Calls Try.prog 15 #[.slice a n c] w fun e w' => ∃ v, e = .returned (.tuple #[v, .int .i64 ((written ts).2 : Nat)]) ∧ Own w' w.heap.size v (written ts).1 ∧ Below w.heap.size w w' := by
  have HR := hide hr
  have hn := hr.2.1
  have HL := hide hr.1
  clear hr
  have HD : Hid (written ts = if (measure 0 ts).2 = 0 then (bytesOf ts, 0) else ([], (measure 0 ts).2)) := rfl
  have HOK : Hid (∀ N, measure 0 ts = (N, 0) → _) := fun N e => measure_ok ts 0 N [] rfl (by omega) e
  have HEE := hide (expanded_err ts)
  go_enter Try.func15, Try.ntmps15
  go_wp2_with fail
  refine (refExpand_any a n c ts w HR.out).mono ?_
  rintro e w1 ⟨v1, rfl, _, hb1⟩
  rw [HEE.out]
  have HB1 := hide hb1
  have HR1 := hide (HR.out.below hb1)
  clear hb1 HEE
  generalize measure 0 ts = G at HD HOK
  obtain ⟨N, er⟩ := G
  simp only at HD ⊢
  by_cases he : er = 0
  · subst he
    rw [if_pos rfl] at HD
    obtain ⟨hN1, hN2, hN3⟩ := HOK.out N rfl
    have HN3 := hide hN3
    have hs1 := HB1.out.size
    clear hN3 HOK hN1
    have e0 : ((0 : Nat) : Int) = 0 := rfl
    simp only [e0]
    clear e0
    go_wp2_with fail
    go_loopw [6, 7] (fun o y wr => ∃ (k : Nat) (va : Option Addr) (vn vc : Nat), k ≤ n ∧ y = .int .i64 (k : Int) ∧ o = .slice va vn vc ∧ Hid (Own wr w1.heap.size (.slice va vn vc) (bytesOf (ts.take k))) ∧ Hid (Below w1.heap.size w1 wr)) (fun _ y _ => n - (intOf y).toNat)
    case atStart => exact ⟨0, _, _, _, Nat.zero_le _, rfl, rfl, own_none _ _, Below.refl _ _⟩
    case round =>
      obtain ⟨k, va, vn, vc, hk, rfl, rfl, HO, HB⟩ := hrel
      by_cases hlt : k < n
      · have hki : (k : Int) < (n : Int) := by omega
        obtain ⟨b, off, rfl, hb1, hcs⟩ := HR1.out.2.2 (by omega)
        obtain ⟨la, ln, lc, c0, c1, c2, hrd, hlc, hlm, hlz⟩ := (hcs k hlt).below HB.out hb1
        obtain ⟨⟨q1, q2, q3, q4, q5⟩, q6, q7⟩ := HN3.out k (by have := HL.out; omega)
        have HTK := hide (take_tok ts k (by have := HL.out; omega))
        have HAD : Hid (0 < ln → ∀ ad, la = some ad → ad.block < w1.heap.size) := by
          intro hpos ad e
          obtain ⟨la1, ln1, lc1, d0, d1, d2, hrd1, _⟩ := hcs k hlt
          have e3 : w1.cell? ⟨b, off + k * 3, none⟩ = some (.slice la ln lc) := by rw [← HB.out.cell (p := ⟨b, off + k * 3, none⟩) hb1]; exact c0
          rw [d0] at e3
          cases e3
          obtain ⟨bb, oo, e4, hlt2, _⟩ := hrd1.2.2 hpos
          rw [e] at e4
          cases e4
          exact hlt2
        generalize tokAt ts k = t at c1 c2 hrd q1 q2 q3 q4 q5 q6 HTK
        obtain ⟨lit, d, l⟩ := t
        simp only at c1 c2 hrd q1 q2 q3 q4 q5 q6
        have HRD := hide hrd
        have hln : lit.length = ln := hrd.1
        have hs := HB.out.size
        have hbne : b ≠ wr.heap.size := by omega
        have hOL : (bytesOf (ts.take k)).length + ln ≤ 1900544 := by omega
        have hlnn : ln ≤ 1900544 := by omega
        have hlni : (ln : Int) ≤ 1900544 := by omega
        have HOL := hide hOL
        have HLN := hide hln
        have hwf : (Lit.int .i64 (ln : Int)).wf = true := WalkArith.wf_i64 (by omega)
        have hp1 := put_nine ln (by omega)
        have HBR : Hid (Below wr.heap.size wr (wr.alloc (.cells #[.slice la ln lc, .int .i64 d, .int .i64 l] 32))) := (Below.refl _ _).alloc (Nat.le_refl _) _
        have HT := hide (TRow.new wr (.slice la ln lc) d l)
        generalize hO : bytesOf (ts.take k) = O at HO HOL
        have HOO := hide hO
        clear hrd hcs q5 q6 q7 hln hOL hO
        go_wp2_with fail
        refine (refPut_any _ _ hwf).mono ?_
        rintro e w3 ⟨v3, rfl, ho3, hb3⟩
        rw [putI_nat] at ho3
        obtain ⟨v3a, n3, v3c, rfl, HN3'⟩ := own_named ho3
        have HP3 := hide ho3
        have HB3 := hide (below_trans (below_trans HB.out HBR.out) hb3)
        have HO3 := hide ((HO.out.below HBR.out).below hb3)
        have HT3 := hide (HT.out.below hb3)
        have HRD3 := hide ((HRD.out.below HBR.out).below hb3)
        have k0 := HT3.out.c0
        have hs3 := HB3.out.size
        clear ho3 hb3 HBR HO HT HRD HB c0 c1 c2
        by_cases hl0 : 0 < l
        · obtain ⟨h4, h5⟩ : 4 ≤ l ∧ 0 ≤ d := by
            rcases q2 with h | h
            · have := h.2; simp only at this; omega
            · exact h
          obtain ⟨m, rfl⟩ : ∃ m : Nat, l = (m : Int) + 4 := ⟨(l - 4).toNat, by omega⟩
          obtain ⟨dd, rfl⟩ := Int.eq_ofNat_of_zero_le h5
          have HPT : Hid (putTok ⟨lit, (dd : Int), (m : Int) + 4⟩ = put ln ++ (lit ++ (put m ++ put dd))) := by
            show _ = _
            rw [putTok_match _ (not_bare _ (by simp only; omega))]
            simp only
            have e1 : ((m : Int) + 4 - 4).toNat = m := by omega
            rw [e1, Int.toNat_natCast, HLN.out]
          have hwm : (Lit.int .i64 (m : Int)).wf = true := WalkArith.wf_i64 (by omega)
          have hwd : (Lit.int .i64 (dd : Int)).wf = true := WalkArith.wf_i64 (by omega)
          have hm1 : (m : Int) ≤ 255 := by omega
          have hpm := put_nine m (by omega)
          have hpd := put_nine dd (by omega)
          clear q2 q1 q3 q4 h4 h5
          go_wp2_with (at_builtin
                       first
                       | (refine join _ rfl _ _ rfl w1.heap.size _ O rfl HO3.out v3a n3 v3c (put ln) rfl (Got.rd HP3.out (by omega)) (Got.nil HP3.out) (by have h1 := HOL.out; have h2 := HN3'.out; omega) hs3 ?_
                          intro v4 w4 ho4 hg4
                          obtain ⟨v4a, n4, v4c, hv4, HN4⟩ := own_named ho4
                          subst hv4
                          have HO4 := hide ho4
                          have HB4 : Hid (Below w1.heap.size w1 w4) := HB3.out.grown hg4 hs3 (own_blk HO3.out)
                          have HT4 := hide (HT3.out.grown hg4 (fun e => own_trow HO3.out HT3.out _ e rfl))
                          have HRD4 := hide (rd_off HRD3.out hg4 (own_blk HO3.out) HAD.out)
                          have k0' := HT4.out.c0
                          have hs4 := HB4.out.size
                          clear ho4 hg4)
                       | (refine join _ rfl _ _ rfl w1.heap.size _ (O ++ put ln) rfl HO4.out la ln lc lit rfl HRD4.out hlz (by have h1 := HOL.out; rw [List.length_append]; omega) hs4 ?_
                          intro v5 w5 ho5 hg5
                          obtain ⟨v5a, n5, v5c, hv5, HN5⟩ := own_named ho5
                          subst hv5
                          have HO5 := hide ho5
                          have HB5 : Hid (Below w1.heap.size w1 w5) := HB4.out.grown hg5 hs4 (own_blk HO4.out)
                          have HT5 := hide (HT4.out.grown hg5 (fun e => own_trow HO4.out HT4.out _ e rfl))
                          have k1'' := HT5.out.c1
                          have k2'' := HT5.out.c2
                          have hs5 := HB5.out.size
                          clear ho5 hg5))
          refine (refPut_any _ _ hwm).mono ?_
          rintro e w6 ⟨v6, rfl, ho6, hb6⟩
          rw [putI_nat] at ho6
          obtain ⟨v6a, n6, v6c, rfl, HN6⟩ := own_named ho6
          have HP6 := hide ho6
          have HB6 := hide (below_trans HB5.out hb6)
          have HO6 := hide (HO5.out.below hb6)
          have HT6 := hide (HT5.out.below hb6)
          have k1 := HT6.out.c1
          have hs6 := HB6.out.size
          clear ho6 hb6 HB5 HO5 HT5 k0 k0' k1'' k2'' HB4 HO4 HT4 HRD4 HB3 HO3 HT3 HRD3 HP3
          go_wp2_with (at_builtin; refine join _ rfl _ _ rfl w1.heap.size _ (O ++ put ln ++ lit) rfl HO6.out v6a n6 v6c (put m) rfl (Got.rd HP6.out (by omega)) (Got.nil HP6.out) (by have h1 := HOL.out; have h2 := HN6.out; have h3 := HLN.out; simp only [List.length_append]; omega) hs6 ?_
                       intro v7 w7 ho7 hg7
                       obtain ⟨v7a, n7, v7c, hv7, HN7⟩ := own_named ho7
                       subst hv7
                       have HO7 := hide ho7
                       have HB7 : Hid (Below w1.heap.size w1 w7) := HB6.out.grown hg7 hs6 (own_blk HO6.out)
                       have HT7 := hide (HT6.out.grown hg7 (fun e => own_trow HO6.out HT6.out _ e rfl))
                       have k1' := HT7.out.c1
                       have hs7 := HB7.out.size
                       clear ho7 hg7)
          refine (refPut_any _ _ hwd).mono ?_
          rintro e w8 ⟨v8, rfl, ho8, hb8⟩
          rw [putI_nat] at ho8
          obtain ⟨v8a, n8, v8c, rfl, HN8⟩ := own_named ho8
          have HP8 := hide ho8
          have HB8 := hide (below_trans HB7.out hb8)
          have HO8 := hide (HO7.out.below hb8)
          have hs8 := HB8.out.size
          clear ho8 hb8 HB7 HO7 HT7 k1 k1' HB6 HO6 HT6 HP6
          go_wp2_with (at_builtin; refine join _ rfl _ _ rfl w1.heap.size _ (O ++ put ln ++ lit ++ put m) rfl HO8.out v8a n8 v8c (put dd) rfl (Got.rd HP8.out (by omega)) (Got.nil HP8.out) (by have h1 := HOL.out; have h2 := HN8.out; have h3 := HLN.out; simp only [List.length_append]; omega) hs8 ?_
                       intro v9 w9 ho9 hg9
                       obtain ⟨v9a, n9, v9c, hv9, HN9⟩ := own_named ho9
                       subst hv9
                       have HO9 := hide ho9
                       have HB9 : Hid (Below w1.heap.size w1 w9) := HB8.out.grown hg9 hs8 (own_blk HO8.out)
                       clear ho9 hg9)
          go_roundw
          case rel =>
            refine ⟨k + 1, v9a, n9, v9c, by omega, by go_num, rfl, ?_, HB9⟩
            show Own _ _ _ _
            rw [HTK.out, bytesOf_append, show bytesOf [(⟨lit, (dd : Int), (m : Int) + 4⟩ : Tok)] = putTok ⟨lit, (dd : Int), (m : Int) + 4⟩ by simp [bytesOf], HPT.out, HOO.out]
            have h := HO9.out
            simp only [List.append_assoc] at h
            exact h
          case measure => simp [intOf]; omega
        · have hbare : Tok.bare ⟨lit, d, l⟩ := by
            rcases q2 with h | h
            · exact h
            · omega
          have HPT : Hid (putTok ⟨lit, d, l⟩ = put ln ++ lit) := by
            show _ = _
            rw [putTok_bare _ hbare, HLN.out]
          clear q2 q1 q3 q4 hbare
          go_wp2_with (at_builtin
                       first
                       | (refine join _ rfl _ _ rfl w1.heap.size _ O rfl HO3.out v3a n3 v3c (put ln) rfl (Got.rd HP3.out (by omega)) (Got.nil HP3.out) (by have h1 := HOL.out; have h2 := HN3'.out; omega) hs3 ?_
                          intro v4 w4 ho4 hg4
                          obtain ⟨v4a, n4, v4c, hv4, HN4⟩ := own_named ho4
                          subst hv4
                          have HO4 := hide ho4
                          have HB4 : Hid (Below w1.heap.size w1 w4) := HB3.out.grown hg4 hs3 (own_blk HO3.out)
                          have HT4 := hide (HT3.out.grown hg4 (fun e => own_trow HO3.out HT3.out _ e rfl))
                          have HRD4 := hide (rd_off HRD3.out hg4 (own_blk HO3.out) HAD.out)
                          have k0' := HT4.out.c0
                          have hs4 := HB4.out.size
                          clear ho4 hg4)
                       | (refine join _ rfl _ _ rfl w1.heap.size _ (O ++ put ln) rfl HO4.out la ln lc lit rfl HRD4.out hlz (by have h1 := HOL.out; rw [List.length_append]; omega) hs4 ?_
                          intro v5 w5 ho5 hg5
                          obtain ⟨v5a, n5, v5c, hv5, HN5⟩ := own_named ho5
                          subst hv5
                          have HO5 := hide ho5
                          have HB5 : Hid (Below w1.heap.size w1 w5) := HB4.out.grown hg5 hs4 (own_blk HO4.out)
                          have HT5 := hide (HT4.out.grown hg5 (fun e => own_trow HO4.out HT4.out _ e rfl))
                          have k1'' := HT5.out.c1
                          have k2'' := HT5.out.c2
                          have hs5 := HB5.out.size
                          clear ho5 hg5))
          go_roundw
          case rel =>
            refine ⟨k + 1, v5a, n5, v5c, by omega, by go_num, rfl, ?_, HB5⟩
            show Own _ _ _ _
            rw [HTK.out, bytesOf_append, show bytesOf [(⟨lit, d, l⟩ : Tok)] = putTok ⟨lit, d, l⟩ by simp [bytesOf], HPT.out, HOO.out]
            have h := HO5.out
            simp only [List.append_assoc] at h
            exact h
          case measure => simp [intOf]; omega
      · have hkn : k = ts.length := by have := HL.out; omega
        have HE : Hid (Own wr w1.heap.size (.slice va vn vc) (bytesOf ts)) := by
          have := HO.out
          rw [hkn, List.take_length] at this; exact this
        clear hkn
        go_wp2_with fail
        go_ret2
        rw [HD.out]
        exact ⟨_, rfl, HE.out.mono hs1, below_trans HB1.out HB.out⟩
  · have hb : ((er : Int) != 0) = true := by rw [bne_iff_ne]; omega
    rw [if_neg he] at HD
    go_wp2_with fail
    go_ret2
    rw [HD.out]
    exact ⟨_, rfl, own_none _ _, HB1.out⟩
end Go.Proofs.Ytckfkilpoimikaa.Lz
