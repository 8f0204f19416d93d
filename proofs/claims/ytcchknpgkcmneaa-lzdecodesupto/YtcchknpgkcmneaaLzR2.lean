/-
  The document's own answer: Expand.
-/
import Derived.Test.YtcchknpgkcmneaaLzR1
import Derived.Deep.LoopGhost
namespace Go.Proofs.Ytcchknpgkcmneaa.Lz
open Go.ChangeShapes Go.WideShapes Go.ChangeAt Go.RowKit
open Go.Proofs.Ytcchknpgkcmneaa.Base Go.Proofs.Ytcchknpgkcmneaa.Nums
set_option linter.unusedVariables false
theorem own_trow {w : World} {base g : Nat} {v u : Value} {bs : List (BitVec 8)} {d l : Int} (ho : Own w base v bs) (ht : TRow w g u d l) : ∀ i, v.ownBlock = some i → i ≠ g := by
  intro i hv e
  subst e
  rcases ho.2 with ⟨h2, _⟩ | ⟨k, cap, cur, h2, _, h3, _⟩
  · rw [h2] at hv; cases hv
  · rw [h2] at hv
    have : k = i := Option.some.inj hv
    subst this
    rw [ht] at h3
    have h4 := congrArg (fun o => match o with | some (Obj.cells _ t _) => t | _ => 0) h3
    revert h4
    simp
theorem expand_le (ts : List Tok) : ∀ y : List (BitVec 8), y.length ≤ (expand y ts).length := by
  induction ts with
  | nil => intro y; exact Nat.le_refl _
  | cons a b ih => intro y; rw [expand_cons]; have := ih (grow y a); rw [length_grow] at this; omega
set_option maxHeartbeats 1000000 in
set_option maxRecDepth 100000 in
theorem refExpand_any (a : Option Addr) (n c : Nat) (ts : List Tok) (w : World) (hr : TRd w a n ts) :
    Calls Try.prog 67 #[.slice a n c] w fun e w' => ∃ v, e = .returned (.tuple #[v, .int .i64 ((expanded ts).2 : Nat)]) ∧ Own w' w.heap.size v (expanded ts).1 ∧ Below w.heap.size w w' := by
  have HR := hide hr
  have hn := hr.2.1
  have HL := hide hr.1
  clear hr
  have HD : Hid (expanded ts = if (measure 0 ts).2 = 0 then (expand [] ts, 0) else ([], (measure 0 ts).2)) := rfl
  go_enter Try.func67, Try.ntmps67
  go_wp2_with fail
  go_loopg [4, 5] n (fun gq s4 s5 wr => ∃ (k : Nat) (va : Option Addr) (vn vc : Nat), k + gq = n ∧ s5 = .int .i64 (k : Int) ∧ s4 = .slice va vn vc ∧ vn ≤ 65536 ∧ Hid (vn = (expand [] (ts.take k)).length) ∧ Hid (Own wr w.heap.size (.slice va vn vc) (expand [] (ts.take k))) ∧ Hid (measure 0 ts = measure vn (ts.drop k)) ∧ Hid (Below w.heap.size w wr))
  case atStart => exact ⟨0, none, 0, 0, by omega, rfl, rfl, by omega, rfl, own_none _ _, rfl, Below.refl _ _⟩
  case round =>
    obtain ⟨k, va, vn, vc, hkg, rfl, rfl, hvn, HVN, HO, HM, HB⟩ := hrel
    cases gk with
    | zero =>
      have hki : ¬ (k : Int) < (n : Int) := by omega
      have hkn : k = ts.length := by have := HL.out; omega
      have HE : Hid (expanded ts = (expand [] ts, 0)) := by
        have h1 := HM.out
        rw [List.drop_eq_nil_of_le (by omega)] at h1
        show _ = _
        rw [HD.out, h1]; rfl
      have HO2 : Hid (Own wr w.heap.size (.slice va vn vc) (expand [] ts)) := by
        have h1 := HO.out
        rw [hkn, List.take_length] at h1; exact h1
      clear hkn HM HO
      go_wp2_with fail
      go_ret2
      rw [HE.out]
      exact ⟨_, rfl, HO2.out, HB.out⟩
    | succ gq =>
      have hki : (k : Int) < (n : Int) := by omega
      obtain ⟨b, off, rfl, hbl, hcs⟩ := HR.out.2.2 (by omega)
      obtain ⟨la, ln, lc, c0, c1, c2, hrd, hlc, hlm, hlz⟩ := (hcs k (by omega)).below HB.out hbl
      have HMS := hide (measure_step vn ts k (by have := HL.out; omega))
      have HTK := hide (take_tok ts k (by have := HL.out; omega))
      generalize tokAt ts k = t at c1 c2 hrd HMS HTK
      obtain ⟨lit, d, l⟩ := t
      simp only at c1 c2 hrd HMS
      have HRD := hide hrd
      have hln : lit.length = ln := hrd.1
      rw [hln] at HMS
      have hvni : (vn : Int) ≤ 65536 := by omega
      have hlni : (ln : Int) ≤ 140737488355328 := by have := hrd.2.1; omega
      obtain ⟨m, hm⟩ : ∃ m, vn + ln = m := ⟨_, rfl⟩
      have hsum : (vn : Int) + (ln : Int) = (m : Int) := by omega
      have hmi : (m : Int) ≤ 140737488420864 := by omega
      rw [hm] at HMS
      have hs := HB.out.size
      have HBW : Hid (Below w.heap.size w (wr.alloc (.cells #[.slice la ln lc, .int .i64 d, .int .i64 l] 61))) := HB.out.alloc hs _
      have HBR : Hid (Below wr.heap.size wr (wr.alloc (.cells #[.slice la ln lc, .int .i64 d, .int .i64 l] 61))) := (Below.refl _ _).alloc (Nat.le_refl _) _
      have HT := hide (TRow.new wr (.slice la ln lc) d l)
      have hbne : b ≠ wr.heap.size := by omega
      have hlast : ((k : Int) == (n : Int) - 1) = decide (k + 1 = ts.length) := by
        rw [HL.out, Bool.eq_iff_iff]; simp; omega
      have HFI := hide (fun w0 => fits_any la lc ⟨lit, d, l⟩ vn ((k : Int) == (n : Int) - 1) w0 (by simp only; omega))
      simp only [hln, hm] at HFI
      rw [← hlast] at HMS
      obtain ⟨lastB, hlb⟩ : ∃ q, ((k : Int) == (n : Int) - 1) = q := ⟨_, rfl⟩
      rw [hlb] at HMS HFI
      have HMM := hide hm
      have HLN := hide hln
      clear hlast hrd hcs hln hm
      go_wp2_with fail
      refine (HFI.out _).mono ?_
      rintro e w1 ⟨rfl, hb1⟩
      have HB1 := hide (below_trans HBW.out hb1)
      have HT1 := hide (HT.out.below hb1)
      have HO1 := hide ((HO.out.below HBR.out).below hb1)
      have HRD1 := hide ((HRD.out.below HBR.out).below hb1)
      have k0 := HT1.out.c0
      have k1 := HT1.out.c1
      have k2 := HT1.out.c2
      clear hb1 HBW HBR HT HO HRD HB HFI c0 c1 c2
      by_cases hrt : right ⟨lit, d, l⟩ m lastB = true
      · rw [if_pos hrt] at HMS
        rw [hrt]
        obtain ⟨hl1, hl2, hl3⟩ : 0 ≤ l ∧ l ≤ 259 ∧ (0 < l → 1 ≤ d ∧ d ≤ (m : Int)) := by
          unfold right at hrt
          split at hrt
          · rename_i hb; have := hb.2; simp only at this; omega
          · simp at hrt; omega
        obtain ⟨l', rfl⟩ := Int.eq_ofNat_of_zero_le hl1
        rw [Int.toNat_natCast] at HMS
        obtain ⟨h', hh'⟩ : ∃ h', m + l' = h' := ⟨_, rfl⟩
        have hsum2 : (m : Int) + (l' : Int) = (h' : Int) := by omega
        rw [hh'] at HMS
        have HH' := hide hh'
        clear hh' hl1 hrt
        by_cases hbig : (65536 : Int) < (h' : Int)
        · have HE : Hid (expanded ts = ([], 2)) := by
            have h1 := HM.out
            rw [HMS.out, if_pos (by omega)] at h1
            show _ = _
            rw [HD.out, h1]; rfl
          clear HM HMS
          go_wp2_with fail
          go_ret2
          rw [HE.out]
          exact ⟨_, rfl, own_none _ _, HB1.out⟩
        · have HE : Hid (measure 0 ts = measure h' (ts.drop (k + 1))) := by
            have h1 := HM.out
            rw [HMS.out, if_neg (by omega)] at h1; exact h1
          have hs1 := HB1.out.size
          clear HM HMS
          go_wp2_with (at_builtin; refine join _ rfl _ _ rfl w.heap.size _ (expand [] (ts.take k)) rfl HO1.out la ln lc lit rfl HRD1.out hlz (by have h1 := HVN.out; omega) hs1 ?_
                       intro v2 w2 ho2 hg2
                       have HO2 := hide ho2
                       have HB2 : Hid (Below w.heap.size w w2) := HB1.out.grown hg2 hs1 (own_blk HO1.out)
                       have HT2 := hide (HT1.out.grown hg2 (fun e => own_trow HO1.out HT1.out _ e rfl))
                       obtain ⟨v2a, v2n, v2c, hv2, HV2N⟩ := own_named ho2
                       subst hv2
                       have m2 := HT2.out.c2
                       clear ho2 hg2)
          generalize hX : expand [] (ts.take k) ++ lit = X at HO2 HV2N
          have HXL : Hid (X.length = m) := by
            show _ = _
            rw [← hX, List.length_append, ← HVN.out, HLN.out, HMM.out]
          have HGR : Hid (grow (expand [] (ts.take k)) ⟨lit, d, (l' : Int)⟩ = copyN d.toNat l' X) := by show _ = _; rw [← hX]; rfl
          clear hX m2
          obtain ⟨dt, hdt⟩ : ∃ dt, d.toNat = dt := ⟨_, rfl⟩
          rw [hdt] at HGR
          have hl3' : 0 < l' → 1 ≤ d ∧ d ≤ (m : Int) := fun h => hl3 (by omega)
          have HL3 := hide hl3'
          clear hl3 hl3' k0 k1 k2 HT1 HO1 HRD1 HB1 hs1
          have hm2 : m ≤ 65536 := by omega
          have HV2M : Hid (v2n = m) := by show _ = _; rw [HV2N.out]; exact HXL.out
          go_wp2_with fail
          go_loopg [4, 8] l' (fun g2 s4 s8 wy => ∃ (q : Nat) (a' : Option Addr) (N c' : Nat), q + g2 = l' ∧ s8 = .int .i64 (q : Int) ∧ s4 = .slice a' N c' ∧ Hid (N = m + q) ∧ Hid (Own wy w.heap.size (.slice a' N c') (copyN dt q X)) ∧ Hid (TRow wy wr.heap.size (.slice la ln lc) d (l' : Int)) ∧ Hid (Below w.heap.size w wy))
          case atStart => exact ⟨0, v2a, v2n, v2c, by omega, rfl, rfl, HV2M, HO2, HT2, HB2⟩
          case round =>
            clear HO2 HT2 HB2
            obtain ⟨q, a', N, c', hqg, rfl, rfl, HN, HO, HT, HB⟩ := hrel
            have k1 := HT.out.c1
            have k2 := HT.out.c2
            have hN := HN.out
            have hNi : (N : Int) ≤ 65795 := by omega
            have hN2 : N ≤ 65795 := by omega
            clear hN
            cases gk with
            | zero =>
              have hqq : q = l' := by omega
              have hqi : ¬ (q : Int) < (l' : Int) := by omega
              have HE2 : Hid (N = (expand [] (ts.take (k + 1))).length) := by
                show _ = _
                rw [HTK.out, expand_snoc, length_grow, Int.toNat_natCast, ← HVN.out, HLN.out, HMM.out, HN.out, hqq]
              have HO3 : Hid (Own wr w.heap.size (.slice a' N c') (expand [] (ts.take (k + 1)))) := by
                have h1 := HO.out
                rw [hqq, ← HGR.out, ← expand_snoc, ← HTK.out] at h1
                exact h1
              have HM3 : Hid (measure 0 ts = measure N (ts.drop (k + 1))) := by
                have h1 := HE.out
                rw [← HH'.out] at h1
                show _ = _
                rw [HN.out, hqq]; exact h1
              have hN3 : N ≤ 65536 := by have h1 := HN.out; have h2 := HH'.out; omega
              clear hqq
              go_wp2_with fail
              go_roundg gq
              case measure => omega
              case rel => exact ⟨k + 1, a', N, c', by omega, by first | rfl | go_num, rfl, hN3, HE2, HO3, HM3, HB⟩
            | succ g2 =>
              have hqi : (q : Int) < (l' : Int) := by omega
              obtain ⟨hd1, hd2⟩ := HL3.out (by omega)
              obtain ⟨dn, rfl⟩ := Int.eq_ofNat_of_zero_le (by omega : 0 ≤ d)
              have hdd : dt = dn := by omega
              clear hdt
              subst hdd
              obtain ⟨gx, rfl⟩ : ∃ g, a' = some ⟨g, 0, none⟩ := by
                rcases HO.out.2 with ⟨h1, _⟩ | ⟨g, cp, cur, h1, _⟩
                · simp only [Value.slice.injEq] at h1; have h2 := HN.out; omega
                · simp only [Value.slice.injEq] at h1; exact ⟨g, h1.1⟩
              obtain ⟨P, hP⟩ : ∃ P, P + dt = N := ⟨N - dt, by have h2 := HN.out; omega⟩
              have hc0 := HO.out.cell P (by omega)
              have HCL : Hid ((copyN dt q X).length = N) := (Got.cap HO.out).2.symm
              generalize hC : (copyN dt q X).getD P 0 = C at hc0
              have HS : Hid (copyN dt (q + 1) X = copyN dt q X ++ [C]) := by
                show _ = _
                rw [copyN_snoc, HCL.out, ← hP, Nat.add_sub_cancel, hC]
              have hsub : (N : Int) - (dt : Int) = (P : Int) := by omega
              have hPN : (P : Int) < (N : Int) := by omega
              have HBS := HB.out.size
              clear hC hP hd1 hd2
              go_wp2_with (at_builtin; refine push _ rfl _ _ rfl w.heap.size _ (copyN dt q X) rfl (HO.out.below ((Below.refl wr.heap.size wr).alloc (Nat.le_refl _) _)) ⟨wr.heap.size, 0, none⟩ 1 C rfl (cell_one_new _ _ _ 0 _ rfl) (by have := HCL.out; omega) (by simp; omega) ?_
                           intro v5 w5 ho5 hg5
                           obtain ⟨v5a, v5n, v5c, hv5, HV5N⟩ := own_named ho5
                           subst hv5
                           have HO5 : Hid (Own w5 w.heap.size (.slice v5a v5n v5c) (copyN dt (q + 1) X)) := by rw [HS.out]; exact ho5
                           have HB5 : Hid (Below w.heap.size w w5) := (HB.out.alloc HBS _).grown hg5 (by simp; omega) (own_blk HO.out)
                           have HT5 := hide ((HT.out.below ((Below.refl wr.heap.size wr).alloc (Nat.le_refl _) (.cells #[.int .u8 (C.toNat : Int)] 5))).grown hg5 (fun e => own_trow HO.out HT.out _ e rfl))
                           have HN5 : Hid (v5n = m + (q + 1)) := by
                             show _ = _
                             have h1 := HV5N.out
                             rw [List.length_append, HCL.out, HN.out] at h1
                             rw [h1]; rfl
                           clear ho5 hg5)
              go_roundg g2
              case measure => omega
              case rel => exact ⟨q + 1, v5a, v5n, v5c, by omega, by first | rfl | go_num, rfl, HN5, HO5, HT5, HB5⟩
      · rw [if_neg hrt] at HMS
        have hrf : right ⟨lit, d, l⟩ m lastB = false := by simpa using hrt
        rw [hrf]
        have HE : Hid (expanded ts = ([], 31)) := by
          have h1 := HM.out
          rw [HMS.out] at h1
          show _ = _
          rw [HD.out, h1]; rfl
        clear HM HMS hrt
        go_wp2_with fail
        go_ret2
        rw [HE.out]
        exact ⟨_, rfl, own_none _ _, HB1.out⟩
end Go.Proofs.Ytcchknpgkcmneaa.Lz
