/-
  cut: raw bytes cut into groups.
-/
import Derived.Test.YthdblnfohbldcaaGreatBlWalk
import Derived.Test.YthdblnfohbldcaaGreatBlCurD
import Derived.Test.YthdblnfohbldcaaGreatBlCutM
import Derived.Test.YthdblnfohbldcaaGreatBlStep
import Derived.Lib.MinMax
namespace Go.Proofs.YthdblnfohbldcaaGreat.Bl
open Go.ChangeShapes Go.WideShapes Go.ChangeAt Go.RowKit
open Go.Proofs.YthdblnfohbldcaaGreat.Base Go.Proofs.YthdblnfohbldcaaGreat.Nums Go.Proofs.YthdblnfohbldcaaGreat.Curs
open Go.Proofs.YthdblnfohbldcaaGreat.Fa (St Cst fixS fix_st)
set_option linter.unusedVariables false
theorem slice_l8 (ua : Option Addr) (len cap e : Nat) (h : e ≤ len) (hc : len ≤ cap) (W : World) : (Instr.sliceAt 24 (.slice ua len cap) (some (.int .i64 (e : Int))) none none).run Tryz.prog W = .ok (.slice (laB ua cap e) (len - e) (cap - e)) W := by
  rw [run_sliceAt_slice (h := el8), run_slice_l (ht := el8) (h0 := by omega) (h1 := by omega), sz8]
  simp only [Result.andThen, sliced, Int.toNat_natCast, Nat.mul_one]
  rfl
theorem rd_l {w : World} {a : Option Addr} {n cap e : Nat} {bs : List (BitVec 8)} (h : Rd w a n bs) (he : e ≤ n) (hn : n ≤ cap) : Rd w (laB a cap e) (n - e) (bs.drop e) := by
  have h1 := rd_lh (cap := cap) h he (Nat.le_refl n) hn
  rw [List.take_of_length_le (by rw [List.length_drop, h.1]; exact Nat.le_refl _)] at h1
  exact h1
theorem rr_kind {w : World} {q o : Nat} {e1 p1 : Option Addr} {e2 e3 p2 p3 : Nat} {r n : Int} {c : BitVec 8} (h : RR w q (.slice e1 e2 e3) (.slice p1 p2 p3) r n) (hc : w.cell? ⟨q, o, none⟩ = some (.int .u8 (c.toNat : Int))) : False := by
  rw [cell_of_row _ _ _ _ _ _ h] at hc
  match o, hc with
  | 0, hc => cases hc
  | 1, hc => cases hc
  | 2, hc => cases hc
  | 3, hc => cases hc
  | o + 4, hc => simp at hc
set_option maxHeartbeats 4000000 in
set_option maxRecDepth 100000 in
theorem cut_any (a : Option Addr) (n cap : Nat) (bs : List (BitVec 8)) (w : World) (hr : Rd w a n bs) (hcap : n ≤ cap) (hm : cap ≤ 9223372036854775807) (hnil : a = none → cap = 0) (h6 : n ≤ 65536) :
    Calls Tryz.prog 37 #[.slice a n cap] w fun e w' => ∃ v, e = .returned (.tuple #[v, .bool (cutOk bs)]) ∧ (cutOk bs = true → ∃ q, v = .pointer (some ⟨q, 0, none⟩) ∧ w.heap.size ≤ q ∧ RX w' q (bs.take (ctE bs)) (ctP bs) (ctR bs) (ctN bs)) ∧ Below w.heap.size w w' := by
  have hbl := hr.1
  have HR := hide hr
  obtain ⟨m, hmm⟩ : ∃ m, n - 8 = m := ⟨_, rfl⟩
  obtain ⟨LA, hLA⟩ : ∃ LA, laB a cap m = LA := ⟨_, rfl⟩
  obtain ⟨LN, hLN⟩ : ∃ LN, n - m = LN := ⟨_, rfl⟩
  obtain ⟨LC, hLC⟩ : ∃ LC, cap - m = LC := ⟨_, rfl⟩
  have hsl : ∀ W, (Instr.sliceAt 24 (.slice a n cap) (some (.int .i64 (m : Int))) none none).run Tryz.prog W = .ok (.slice LA LN LC) W := fun W => by
    rw [← hLA, ← hLN, ← hLC]; exact slice_l8 a n cap m (by omega) hcap W
  have hrl : Rd w LA LN (bs.drop m) := by rw [← hLA, ← hLN]; exact rd_l hr (by omega) hcap
  have HN : Hid (Calls Tryz.prog 83 #[.slice LA LN LC] w fun e w' => ∃ g, e = .returned (.pointer (some ⟨g, 0, none⟩)) ∧ w.heap.size ≤ g ∧ Cur w' g (bs.drop m) 0 ∧ Below w.heap.size w w') :=
    newCursor_any LA LN LC _ w hrl (by omega) (by omega) (fun e => by rw [← hLA] at e; have := hnil (laB_nil e); omega)
  have HT : Hid (tailS bs = some (bs.drop m)) := by show _ = _; unfold tailS; rw [hbl, hmm]
  obtain ⟨R, hR⟩ : ∃ R, ctR bs = R := ⟨_, rfl⟩
  obtain ⟨N, hN⟩ : ∃ N, ctN bs = N := ⟨_, rfl⟩
  obtain ⟨S1, hS1⟩ : ∃ S, (fixS (tailS bs) 4).2 = S := ⟨_, rfl⟩
  obtain ⟨S2, hS2⟩ : ∃ S, (fixS S1 4).2 = S := ⟨_, rfl⟩
  have HF1 : Hid (∀ g W, Cst W g (some (bs.drop m)) → Calls Tryz.prog 84 #[.pointer (some ⟨g, 0, none⟩), .int .i64 4] W fun e w' => e = .returned (.int .u64 (R : Nat)) ∧ W.grownBy w' (some g) ∧ Cst w' g S1) := fun g W h => by
    have := fix_st g _ 4 W h
    rw [← HT.out] at this
    unfold ctR at hR
    rw [hR, hS1] at this; exact this
  have HF2 : Hid (∀ g W, Cst W g S1 → Calls Tryz.prog 84 #[.pointer (some ⟨g, 0, none⟩), .int .i64 4] W fun e w' => e = .returned (.int .u64 (N : Nat)) ∧ W.grownBy w' (some g) ∧ Cst w' g S2) := fun g W h => by
    have := fix_st g S1 4 W h
    unfold ctN at hN
    rw [hS1] at hN
    rw [hN, hS2] at this; exact this
  have HCA : Hid (cutA bs = decide (S2 = some [] ∧ 1 ≤ R ∧ R ≤ 64 ∧ 1 ≤ N ∧ N ≤ n)) := by show _ = _; unfold cutA; rw [hR, hN, hS1, hS2, hbl]
  have hmax : max ((n : Int) - 8) 0 = (m : Int) := by omega
  have hw8 : IntKind.i64.wrap ((n : Int) - 8) = (n : Int) - 8 := by rw [IntKind.wrap_i64]; omega
  have hwn : IntKind.u64.wrap (n : Int) = (n : Int) := by rw [IntKind.wrap_u64]; omega
  clear hrl hLA hLN hLC hS1 hS2 hr
  obtain ⟨CA, hCA⟩ : ∃ CA, cutA bs = CA := ⟨_, rfl⟩
  rw [hCA] at HCA
  have HCA2 := HCA
  go_enter Tryz.func37, Tryz.ntmps37
  go_upto_region 4 with (first
    | (have hlate := HC2; go_at_call 84; refine (HF2.out g _ HC2.out).mono ?_; rintro e w3 ⟨rfl, hg3, hs3⟩; have HC3 := hide hs3; have HB3 := hide (HB2.out.grown hg3 HB2.out.size (fun i e => by cases e; exact HGE.out)); clear hg3 hs3)
    | (go_at_call 84; refine (HF1.out g _ HC1.out).mono ?_; rintro e w2 ⟨rfl, hg2, hs2⟩; have HC2 := hide hs2; have HB2 := hide (HB1.out.grown hg2 HB1.out.size (fun i e => by cases e; exact HGE.out)); clear hg2 hs2)
    | (go_at_call 83; refine HN.out.mono ?_; rintro e w1 ⟨g, rfl, hge, hc, hb⟩; have HGE := hide hge; have HC1 : Hid (Cst w1 g (some (bs.drop m))) := ⟨0, hc⟩; have HB1 := hide hb; clear hge hc hb))
  go_cut [46] from 24 to 46 (fun s46 wx => s46 = .bool (!CA) ∧ Hid (Below w.heap.size w wx))
  case first =>
    have HE := hide (end_st g S2 _ HC3.out)
    by_cases h1 : S2 = some []
    · have HD : Hid (decide (S2 = some []) = true) := decide_eq_true h1
      by_cases h2 : (R : Int) < 1
      · have HX : Hid (CA = false) := by show _ = _; rw [HCA.out, decide_eq_false_iff_not]; omega
        go_wp2_with (go_at_call 85; refine HE.out.mono ?_; rintro e w4 ⟨⟨er, p, rfl, her⟩, hb4⟩; rw [HD.out] at her; have hfd := field_spot er p; have HB4 := hide (below_trans HB3.out hb4); clear hb4)
        go_meet
        case rel => exact ⟨by rw [HX.out]; rfl, HB4.out⟩
      by_cases h3 : (64 : Int) < (R : Int)
      · have HX : Hid (CA = false) := by show _ = _; rw [HCA.out, decide_eq_false_iff_not]; omega
        go_wp2_with (go_at_call 85; refine HE.out.mono ?_; rintro e w4 ⟨⟨er, p, rfl, her⟩, hb4⟩; rw [HD.out] at her; have hfd := field_spot er p; have HB4 := hide (below_trans HB3.out hb4); clear hb4)
        go_meet
        case rel => exact ⟨by rw [HX.out]; rfl, HB4.out⟩
      by_cases h4 : (N : Int) < 1
      · have HX : Hid (CA = false) := by show _ = _; rw [HCA.out, decide_eq_false_iff_not]; omega
        go_wp2_with (go_at_call 85; refine HE.out.mono ?_; rintro e w4 ⟨⟨er, p, rfl, her⟩, hb4⟩; rw [HD.out] at her; have hfd := field_spot er p; have HB4 := hide (below_trans HB3.out hb4); clear hb4)
        go_meet
        case rel => exact ⟨by rw [HX.out]; rfl, HB4.out⟩
      by_cases h5 : (n : Int) < (N : Int)
      · have HX : Hid (CA = false) := by show _ = _; rw [HCA.out, decide_eq_false_iff_not]; omega
        go_wp2_with (go_at_call 85; refine HE.out.mono ?_; rintro e w4 ⟨⟨er, p, rfl, her⟩, hb4⟩; rw [HD.out] at her; have hfd := field_spot er p; have HB4 := hide (below_trans HB3.out hb4); clear hb4)
        go_meet
        case rel => exact ⟨by rw [HX.out]; rfl, HB4.out⟩
      have HX : Hid (CA = true) := by show _ = _; rw [HCA.out, decide_eq_true_iff]; exact ⟨h1, by omega, by omega, by omega, by omega⟩
      go_wp2_with (go_at_call 85; refine HE.out.mono ?_; rintro e w4 ⟨⟨er, p, rfl, her⟩, hb4⟩; rw [HD.out] at her; have hfd := field_spot er p; have HB4 := hide (below_trans HB3.out hb4); clear hb4)
      go_meet
      case rel => exact ⟨by rw [HX.out]; refine congrArg Value.bool ?_; rw [decide_eq_false (p := (R : Int) < 1) (by omega), decide_eq_false (p := (64 : Int) < (R : Int)) (by omega), decide_eq_false (p := (N : Int) < 1) (by omega), decide_eq_false (p := n < N) (by omega)]; rfl, HB4.out⟩
    · have HD : Hid (decide (S2 = some []) = false) := decide_eq_false h1
      have HX : Hid (CA = false) := by show _ = _; rw [HCA.out, decide_eq_false_iff_not]; exact fun h => h1 h.1
      go_wp2_with (go_at_call 85; refine HE.out.mono ?_; rintro e w4 ⟨⟨er, p, rfl, her⟩, hb4⟩; rw [HD.out] at her; have hfd := field_spot er p; have HB4 := hide (below_trans HB3.out hb4); clear hb4)
      go_meet
      case rel => exact ⟨by rw [HX.out]; rfl, HB4.out⟩
  case rest =>
    obtain ⟨rfl, HBX⟩ := hcut
    clear HCA HF1 HF2 HN hsl hmax hwn
    cases CA with
    | false =>
      have HOK : Hid (cutOk bs = false) := by show _ = _; unfold cutOk cutB; rw [hCA]; rfl
      go_wp2_with fail
      go_ret2
      rw [HOK.out]
      exact ⟨_, rfl, (fun e => nomatch e), HBX.out⟩
    | true =>
      obtain ⟨wA, rfl⟩ : ∃ wA : World, wA = wc := ⟨_, rfl⟩
      obtain ⟨_, hR1, hR2, hN1, hN2⟩ : S2 = some [] ∧ 1 ≤ R ∧ R ≤ 64 ∧ 1 ≤ N ∧ N ≤ n := of_decide_eq_true HCA2.out.symm
      obtain ⟨M, hM⟩ : ∃ M, N - 1 = M := ⟨_, rfl⟩
      obtain ⟨D, hD⟩ : ∃ D, M / R = D := ⟨_, rfl⟩
      have hDM : D ≤ M := by rw [← hD]; exact Nat.div_le_self _ _
      have hGG : ctG bs = D + 1 := by unfold ctG; rw [hN, hR, hM, hD]
      have q1 : IntKind.i64.wrap (R : Int) = (R : Int) := by rw [IntKind.wrap_i64]; omega
      have q2 : IntKind.i64.wrap (N : Int) = (N : Int) := by rw [IntKind.wrap_i64]; omega
      have q3 : IntKind.i64.wrap ((N : Int) - 1) = (M : Int) := by rw [IntKind.wrap_i64]; omega
      have q4 : (M : Int).tdiv (R : Int) = (D : Int) := by rw [Int.tdiv_eq_ediv_of_nonneg (by omega), ← hD]; rfl
      have q5 : IntKind.i64.wrap (D : Int) = (D : Int) := by rw [IntKind.wrap_i64]; omega
      have q6 : IntKind.i64.wrap ((D : Int) + 1) = (D : Int) + 1 := by rw [IntKind.wrap_i64]; omega
      have q7 : ¬ (R : Int) = 0 := by omega
      have HRD : Hid (RR (wA.alloc (.cells #[.slice none 0 0, .slice none 0 0, .int .i64 (R : Int), .int .i64 (N : Int)] 106)) wA.heap.size (.slice none 0 0) (.slice none 0 0) (R : Int) (N : Int)) := heap_alloc_new _ _
      have HBA : Hid (Below w.heap.size w (wA.alloc (.cells #[.slice none 0 0, .slice none 0 0, .int .i64 (R : Int), .int .i64 (N : Int)] 106))) := HBX.out.alloc HBX.out.size _
      obtain ⟨d0, d1, d2, d3⟩ := HRD.out.cells
      have hD6 : D ≤ 65536 := by omega
      clear hD hDM
      have q8 : IntKind.i64.wrap (4 * ((D : Int) + 1)) = 4 * ((D : Int) + 1) := by rw [IntKind.wrap_i64]; omega
      have q9 : IntKind.i64.wrap ((n : Int) - 8 - 4 * ((D : Int) + 1)) = (n : Int) - 8 - 4 * ((D : Int) + 1) := by rw [IntKind.wrap_i64]; omega
      go_upto_region 7 with fail
      go_cut [9] from 53 to 63 (fun s9 wx => s9 = .int .i64 ((D : Int) + 1) ∧ Hid (Below (wA.alloc (.cells #[.slice none 0 0, .slice none 0 0, .int .i64 (R : Int), .int .i64 (N : Int)] 106)).heap.size (wA.alloc (.cells #[.slice none 0 0, .slice none 0 0, .int .i64 (R : Int), .int .i64 (N : Int)] 106)) wx))
      case first =>
        go_quiet (fail)
        go_wp2_with fail
        go_meet
        case rel => exact ⟨by first | rfl | simp, below_drewN' _ _ _⟩
      case rest =>
        obtain ⟨rfl, HBY⟩ := hcut
        by_cases he : (n : Int) - 8 - 4 * ((D : Int) + 1) < 0
        · have HOK : Hid (cutOk bs = false) := by show _ = _; unfold cutOk cutB; rw [hCA, hGG, decide_eq_false (by omega)]; rfl
          go_wp2_with fail
          go_ret2
          rw [HOK.out]
          exact ⟨_, rfl, (fun e => nomatch e), below_trans HBA.out HBY.out⟩
        · obtain ⟨E, hE⟩ : ∃ E : Nat, n - 8 - 4 * (D + 1) = E := ⟨_, rfl⟩
          have hct : ctE bs = E := by unfold ctE; rw [hGG, hbl]; exact hE
          have hcB : cutB bs = true := by unfold cutB; rw [hCA, hGG, hbl, Bool.true_and]; exact decide_eq_true (by omega)
          have q9' : IntKind.i64.wrap ((n : Int) - 8 - 4 * ((D : Int) + 1)) = (E : Int) := by rw [IntKind.wrap_i64]; omega
          have hen : E ≤ n := by omega
          have heni : (E : Int) ≤ (cap : Int) := by omega
          obtain ⟨P0, hP0⟩ : ∃ P, bs.drop E = P := ⟨_, rfl⟩
          obtain ⟨LA, hLA⟩ : ∃ LA, laB a cap E = LA := ⟨_, rfl⟩
          obtain ⟨LN, hLN⟩ : ∃ LN, n - E = LN := ⟨_, rfl⟩
          obtain ⟨LC, hLC⟩ : ∃ LC, cap - E = LC := ⟨_, rfl⟩
          have hsl : ∀ W, (Instr.sliceAt 24 (.slice a n cap) (some (.int .i64 (E : Int))) none none).run Tryz.prog W = .ok (.slice LA LN LC) W := fun W => by
            rw [← hLA, ← hLN, ← hLC]; exact slice_l8 a n cap E (by omega) hcap W
          have hrl : Rd w LA LN P0 := by rw [← hLA, ← hLN, ← hP0]; exact rd_l HR.out (by omega) hcap
          have HN : Hid (∀ W, Below w.heap.size w W → Calls Tryz.prog 83 #[.slice LA LN LC] W fun e w' => ∃ g, e = .returned (.pointer (some ⟨g, 0, none⟩)) ∧ W.heap.size ≤ g ∧ g < w'.heap.size ∧ CurD w' g w'.heap.size P0 0 ∧ (∀ a n c p e, Row w' g (.slice (some a) n c) p e → W.heap.size ≤ a.block) ∧ Below W.heap.size W w') := fun W hW =>
            newC_any LA LN LC _ W (hrl.below hW) (by omega) (by omega) (fun e => by rw [← hLA] at e; have := hnil (laB_nil e); omega)
          have HQS := hide HBX.out.size
          have HR1 := hide (HRD.out.below HBY.out)
          obtain ⟨e0, e1, e2, e3⟩ := HR1.out.cells
          have f0 := HR1.out.fz 0
          have HR2 := hide (HR1.out.set0 (.slice a E cap))
          have HBW : Hid (Below w.heap.size w wc) := below_trans HBA.out HBY.out
          have HB2 : Hid (Below w.heap.size w (wc.setCell ⟨wA.heap.size, 0, none⟩ (.slice a E cap))) := HBW.out.grown (grown_cell (World.grownBy.refl _ _) 0 _) HBW.out.size (fun i e => by cases e; exact HQS.out)
          have HS2 : Hid (wA.heap.size < (wc.setCell ⟨wA.heap.size, 0, none⟩ (.slice a E cap)).heap.size) := HR2.out.lt
          have HPT : Hid (ctP bs = tabS (D + 1) (some P0) ++ [(E : Int)]) := by show _ = _; unfold ctP; rw [hct, hGG, hP0]
          have HTK : Hid (bs.take (ctE bs) = bs.take E) := by show _ = _; rw [hct]
          clear hrl q1 q2 q3 q4 q5 d0 d1 d2 d3 q9 he
          go_wp2_with (go_at_call 83; refine (HN.out _ HB2.out).mono ?_; rintro e w5 ⟨g5, rfl, hge, hgl, hc5, hlo, hb5⟩; have HR5 := hide (HR2.out.below hb5); have HC5 : Hid (CstD w5 g5 w5.heap.size (some P0)) := ⟨0, hc5⟩; have HB5 := hide (below_trans HB2.out hb5); have HGE := hide (Nat.lt_of_lt_of_le HS2.out hge); have HGL := hide hgl; clear hge hgl hc5 hlo hb5)
          go_loopw [81] (fun s81 wr => ∃ (k : Nat) (pa : Option Addr) (pc : Nat), k ≤ D + 1 ∧ s81 = .int .i64 (k : Int) ∧ Hid (RR wr wA.heap.size (.slice a E cap) (.slice pa k pc) (R : Int) (N : Int)) ∧ Hid (OwnI wr w5.heap.size (.slice pa k pc) (tabS k (some P0))) ∧ Hid (CstD wr g5 w5.heap.size (tabL k (some P0))) ∧ Hid (Below w.heap.size w wr) ∧ Hid (w5.heap.size ≤ wr.heap.size)) (fun s81 _ => D + 1 - (intOf s81).toNat)
          case atStart => exact ⟨0, none, 0, Nat.zero_le _, rfl, HR5.out, ownI_none _ _, HC5.out, HB5.out, Nat.le_refl _⟩
          case round =>
            rename World => V0
            obtain ⟨k, pa, pc, hk, rfl, HRr, HOr, HCr, HBr, HSr⟩ := hrel
            by_cases hlt : k < D + 1
            · obtain ⟨S, hS⟩ : ∃ S, tabL k (some P0) = S := ⟨_, rfl⟩
              obtain ⟨X, hX⟩ : ∃ X, (fixS S 4).1 = X := ⟨_, rfl⟩
              have hX32 : X < 4294967296 := by rw [← hX]; exact fixS_lt S
              have hXw : IntKind.i64.wrap (X : Int) = (X : Int) := by rw [IntKind.wrap_i64]; omega
              have HTS : Hid (tabS (k + 1) (some P0) = tabS k (some P0) ++ [(X : Int)]) := by show _ = _; rw [tabS_snoc, hS, hX]
              have HTL : Hid (tabL (k + 1) (some P0) = (fixS S 4).2) := by show _ = _; rw [tabL_snoc, hS]
              rw [hS] at HCr
              have HFX : Hid (∀ W, CstD W g5 w5.heap.size S → Calls Tryz.prog 84 #[.pointer (some ⟨g5, 0, none⟩), .int .i64 4] W fun e w' => e = .returned (.int .u64 (X : Nat)) ∧ W.grownBy w' (some g5) ∧ CstD w' g5 w5.heap.size (fixS S 4).2) := fun W h => by
                have := fixD_any g5 w5.heap.size S 4 W h
                rw [hX] at this; exact this
              obtain ⟨TS, hTS⟩ : ∃ TS, tabS k (some P0) = TS := ⟨_, rfl⟩
              have hTSl : TS.length = k := by rw [← hTS]; exact tabS_len _ _
              rw [hTS] at HOr HTS
              clear hS hX hX32 hTS
              obtain ⟨_, e1, _, _⟩ := HRr.out.cells
              go_wp2_with fail
              go_region_law (first
                | (have HBA6 : Hid (Below w6.heap.size w6 (w6.alloc (.cells #[.int .i64 (X : Int)] 3))) := (Below.refl _ _).alloc (Nat.le_refl _) _
                   refine step_pushI rfl (.tmp 87) (.tmp 91) rfl w5.heap.size (.slice pa k pc) TS (by simp [Act.eval]) (HO6.out.below HBA6.out) ⟨w6.heap.size, 0, none⟩ 1 (X : Int) (by simp [Act.eval]) (by show World.cell? _ ⟨w6.heap.size, 0, none⟩ = _; rw [cell_of_row _ _ _ _ _ _ (heap_alloc_new _ _)]; rfl) (by omega) (Nat.le_trans HS6.out HBA6.out.size) ?_
                   intro v7 w7 ho7 hg7
                   obtain ⟨a7, c7, e7⟩ := ho7.shape
                   subst e7
                   have HO7 := hide ho7
                   have HG7 := hide hg7
                   have HR7 := hide ((HR6.out.below HBA6.out).grown HG7.out (fun e => by have := (HO6.out.lt _ e).1; have := HGE.out; have := HGL.out; omega))
                   have e17 := HR7.out.cells.2.1
                   have f17 := HR7.out.fz 1
                   clear ho7 hg7)
                | (go_simp; go_at_call 84; refine (HFX.out _ (HCr.out.keep (below_grown (Below.refl _ _).drew) (by simp) (fun b e => nomatch e))).mono ?_; rintro e w6 ⟨rfl, hg6, hs6⟩
                   have HG6 : Hid (V0.grownBy w6 (some g5)) := grown_trans (grown_any (below_grown (Below.refl _ _).drew) _) hg6
                   have HR6 := hide (HRr.out.grown HG6.out (fun e => by have := Option.some.inj e; have := HGE.out; omega))
                   have HC6 := hide hs6
                   have e16 := HR6.out.cells.2.1
                   have e16b := (HR6.out.below ((Below.refl _ _).alloc (Nat.le_refl _) (.cells #[.int .i64 (X : Int)] 3))).cells.2.1
                   have HO6 : Hid (OwnI w6 w5.heap.size (.slice pa k pc) TS) := ownI_keep HOr.out HG6.out (fun i e e2 => by have := (HOr.out.lt i e).1; have := Option.some.inj e2; have := HGL.out; omega)
                   have HS6 := hide (Nat.le_trans HSr.out HG6.out.size)
                   clear hg6 hs6))
              all_goals
                go_wp2_with fail
                go_roundw
                case rel =>
                  have HBA6 : Below w6.heap.size w6 (w6.alloc (.cells #[.int .i64 (X : Int)] 3)) := (Below.refl _ _).alloc (Nat.le_refl _) _
                  have hl : (TS ++ [(X : Int)]).length = k + 1 := by rw [List.length_append, hTSl]; rfl
                  have g8 : w7.grownBy (w7.setCell ⟨wA.heap.size, 1, none⟩ (.slice a7 (k + 1) c7)) (some wA.heap.size) := grown_cell (World.grownBy.refl _ _) 1 _
                  have ho7 := HO7.out
                  rw [hl] at ho7
                  have hHB6 : Below w.heap.size w w6 := HBr.out.grown HG6.out HBr.out.size (fun i e => by have := Option.some.inj e; have := HGE.out; have := HQS.out; omega)
                  refine ⟨k + 1, a7, c7, by omega, by go_num, ?_, ?_, ?_, ?_, ?_⟩
                  · exact HR7.out.set1 _
                  · rw [HTS.out]
                    exact ownI_keep ho7 g8 (fun i e e2 => by have := (ho7.lt i e).1; have := Option.some.inj e2; have := HGE.out; have := HGL.out; omega)
                  · rw [HTL.out]
                    exact ((HC6.out.keep (below_grown HBA6) (by simp) (fun b e => nomatch e)).keep HG7.out (fun e => by have := (HO6.out.lt _ e).1; have := HGL.out; omega) (fun b e => .inl (HO6.out.lt _ e).1)).keep g8 (fun e => by have := Option.some.inj e; have := HGE.out; omega) (fun b e => .inr (fun i c hc => by cases e; exact rr_kind HR7.out hc))
                  · exact ((below_trans hHB6 HBA6).grown HG7.out (Nat.le_trans hHB6.size HBA6.size) (fun i e => by have := (HO6.out.lt _ e).1; have := HGL.out; have := HGE.out; have := HQS.out; omega)).grown g8 (Nat.le_trans (Nat.le_trans hHB6.size HBA6.size) HG7.out.size) (fun i e => by have := Option.some.inj e; have := HQS.out; omega)
                  · exact Nat.le_trans (Nat.le_trans (Nat.le_trans HS6.out HBA6.size) HG7.out.size) g8.size
                case measure => (simp [intOf] <;> omega)
            · obtain rfl : k = D + 1 := by omega
              obtain ⟨TS, hTS⟩ : ∃ TS, tabS (D + 1) (some P0) = TS := ⟨_, rfl⟩
              have hTSl : TS.length = D + 1 := by rw [← hTS]; exact tabS_len _ _
              obtain ⟨PL, hPL⟩ : ∃ PL, TS ++ [(E : Int)] = PL := ⟨_, rfl⟩
              have hn7 : PL.length = D + 2 := by rw [← hPL, List.length_append, hTSl]; rfl
              obtain ⟨x0, hx0⟩ : ∃ x0, PL.getD 0 0 = x0 := ⟨_, rfl⟩
              rw [hTS] at HOr HPT
              rw [hPL] at HPT
              have HOK : Hid (cutOk bs = ((x0 == 0) && upI PL)) := by show _ = _; unfold cutOk cutC; rw [hcB, HPT.out, hx0, Bool.true_and]
              have HBAr : Hid (Below V0.heap.size V0 (V0.alloc (.cells #[.int .i64 (E : Int)] 3))) := (Below.refl _ _).alloc (Nat.le_refl _) _
              obtain ⟨_, e1, _, _⟩ := HRr.out.cells
              have e1b := (HRr.out.below HBAr.out).cells.2.1
              have HPL := hide hPL
              have HN7 := hide hn7
              have HX0 := hide hx0
              have HTL := hide hTSl
              have hi0 : (0 : Int) < (PL.length : Int) := by omega
              have hi1 : (0 : Int) < (D : Int) + 2 := by omega
              clear hTS hPL hn7 hx0 hTSl
              cases hxb : (x0 == 0) with
              | true =>
                rw [hxb, Bool.true_and] at HOK
                obtain ⟨UP, hUP⟩ : ∃ UP, upI PL = UP := ⟨_, rfl⟩
                rw [hUP] at HOK
                go_wp2_with (first
                  | (at_builtin; refine pushI _ rfl _ _ rfl w5.heap.size (.slice pa (D + 1) pc) TS rfl (HOr.out.below HBAr.out) ⟨V0.heap.size, 0, none⟩ 1 (E : Int) rfl (by show World.cell? _ ⟨V0.heap.size, 0, none⟩ = _; rw [cell_of_row _ _ _ _ _ _ (heap_alloc_new _ _)]; rfl) (by have := HTL.out; omega) (Nat.le_trans HSr.out HBAr.out.size) ?_
                     intro v7 w7 ho7 hg7
                     rw [HPL.out] at ho7
                     obtain ⟨a7, c7, e7⟩ := ho7.shape
                     subst e7
                     have HR7 := hide ((HRr.out.below HBAr.out).grown hg7 (fun e => by have := (HOr.out.lt _ e).1; have := HGE.out; have := HGL.out; omega))
                     have e17 := HR7.out.cells.2.1
                     have f17 := HR7.out.fz 1
                     have HR8 := hide (HR7.out.set1 (.slice a7 PL.length c7))
                     have e18 := HR8.out.cells.2.1
                     have ho8 := ownI_keep ho7 (grown_cell (World.grownBy.refl _ _) 1 (.slice a7 PL.length c7) : w7.grownBy (w7.setCell ⟨wA.heap.size, 1, none⟩ (.slice a7 PL.length c7)) (some wA.heap.size)) (fun i e e2 => by have := (ho7.lt i e).1; have := Option.some.inj e2; have := HGE.out; have := HGL.out; omega)
                     have HRI := hide (ho8.rd (by have := HN7.out; omega))
                     obtain ⟨b8, o8, ha8, _, hc8⟩ := HRI.out.2.2 (by have := HN7.out; omega)
                     subst ha8
                     have i8 := hc8 0 (by have := HN7.out; omega)
                     rw [HX0.out, Nat.add_zero] at i8
                     have HC7 : Hid (PL.length ≤ c7) := (by rcases ho8.2 with ⟨h1, _⟩ | ⟨g, c, cur, h1, _, _, h2, _⟩; exact absurd h1 (by simp); (simp only [Value.slice.injEq] at h1; obtain ⟨_, _, rfl⟩ := h1; exact h2))
                     have HB8 : Hid (Below w.heap.size w (w7.setCell ⟨wA.heap.size, 1, none⟩ (.slice (some ⟨b8, o8, none⟩) PL.length c7))) := ((below_trans HBr.out HBAr.out).grown hg7 (Nat.le_trans HBr.out.size HBAr.out.size) (fun i e => by have := (HOr.out.lt _ e).1; have := HGL.out; have := HGE.out; have := HQS.out; omega)).grown (grown_cell (World.grownBy.refl _ _) 1 _) (Nat.le_trans (Nat.le_trans HBr.out.size HBAr.out.size) hg7.size) (fun i e => by have := Option.some.inj e; have := HQS.out; omega)
                     have HSO := hide (sorted_any (some ⟨b8, o8, none⟩) PL.length c7 PL _ HRI.out)
                     clear ho7 hg7 ho8 hc8)
                  | (go_at_call 86; refine HSO.out.mono ?_; rintro e w9 ⟨rfl, hb9⟩; rw [hUP]; have HB9 := hide hb9; clear hb9))
                go_ret2
                rw [HOK.out]
                refine ⟨_, rfl, fun _ => ⟨wA.heap.size, rfl, HQS.out, ?_⟩, below_trans HB8.out HB9.out⟩
                rw [HTK.out, HPT.out]
                have hE9 : (bs.take E).length = E := by rw [List.length_take, hbl]; omega
                refine ⟨a, cap, some ⟨b8, o8, none⟩, c7, ?_, ?_, ?_, hm, hnil, ?_, ?_⟩
                · rw [hE9, hR, hN]; exact HR8.out.below HB9.out
                · rw [hE9]; exact (HR.out.cut E hen).below (below_trans HB8.out HB9.out)
                · rw [hE9]; omega
                · exact HRI.out.below HB9.out
                · exact HC7.out
              | false =>
                rw [hxb, Bool.false_and] at HOK
                go_wp2_with (first
                  | (at_builtin; refine pushI _ rfl _ _ rfl w5.heap.size (.slice pa (D + 1) pc) TS rfl (HOr.out.below HBAr.out) ⟨V0.heap.size, 0, none⟩ 1 (E : Int) rfl (by show World.cell? _ ⟨V0.heap.size, 0, none⟩ = _; rw [cell_of_row _ _ _ _ _ _ (heap_alloc_new _ _)]; rfl) (by have := HTL.out; omega) (Nat.le_trans HSr.out HBAr.out.size) ?_
                     intro v7 w7 ho7 hg7
                     rw [HPL.out] at ho7
                     obtain ⟨a7, c7, e7⟩ := ho7.shape
                     subst e7
                     have HR7 := hide ((HRr.out.below HBAr.out).grown hg7 (fun e => by have := (HOr.out.lt _ e).1; have := HGE.out; have := HGL.out; omega))
                     have e17 := HR7.out.cells.2.1
                     have f17 := HR7.out.fz 1
                     have HR8 := hide (HR7.out.set1 (.slice a7 PL.length c7))
                     have e18 := HR8.out.cells.2.1
                     have ho8 := ownI_keep ho7 (grown_cell (World.grownBy.refl _ _) 1 (.slice a7 PL.length c7) : w7.grownBy (w7.setCell ⟨wA.heap.size, 1, none⟩ (.slice a7 PL.length c7)) (some wA.heap.size)) (fun i e e2 => by have := (ho7.lt i e).1; have := Option.some.inj e2; have := HGE.out; have := HGL.out; omega)
                     have HRI := hide (ho8.rd (by have := HN7.out; omega))
                     obtain ⟨b8, o8, ha8, _, hc8⟩ := HRI.out.2.2 (by have := HN7.out; omega)
                     subst ha8
                     have i8 := hc8 0 (by have := HN7.out; omega)
                     rw [HX0.out, Nat.add_zero] at i8
                     have HB8 : Hid (Below w.heap.size w (w7.setCell ⟨wA.heap.size, 1, none⟩ (.slice (some ⟨b8, o8, none⟩) PL.length c7))) := ((below_trans HBr.out HBAr.out).grown hg7 (Nat.le_trans HBr.out.size HBAr.out.size) (fun i e => by have := (HOr.out.lt _ e).1; have := HGL.out; have := HGE.out; have := HQS.out; omega)).grown (grown_cell (World.grownBy.refl _ _) 1 _) (Nat.le_trans (Nat.le_trans HBr.out.size HBAr.out.size) hg7.size) (fun i e => by have := Option.some.inj e; have := HQS.out; omega)
                     clear ho7 hg7 ho8 hc8))
                go_ret2
                rw [HOK.out]
                exact ⟨_, rfl, (fun e => nomatch e), HB8.out⟩
end Go.Proofs.YthdblnfohbldcaaGreat.Bl
