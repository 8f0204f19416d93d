/-
  taken: what is taken of the last row.
-/
import Derived.Test.YthdblnfohbldcaaGreatHuffQ5
namespace Go.Proofs.YthdblnfohbldcaaGreat.Pm
open Go.ChangeShapes Go.WideShapes Go.ChangeAt Go.RowKit
open Go.Proofs.YthdblnfohbldcaaGreat.Base
set_option linter.unusedVariables false
theorem OwnP.len {t : TypeId} {K : IntKind} {w : World} {base : Nat} {a : Option Addr} {n c : Nat} {ps : List Pk} (h : OwnP t K w base (.slice a n c) ps) : ps.length = n := by
  rcases h.2.2 with ⟨h1, h2⟩ | ⟨g, cap, cur, h1, h2⟩
  · simp only [Value.slice.injEq] at h1; omega
  · simp only [Value.slice.injEq] at h1; exact h1.2.1.symm
theorem OwnP.rd' {t : TypeId} {K : IntKind} {w : World} {base : Nat} {a : Option Addr} {n c : Nat} {ps : List Pk} (h : OwnP t K w base (.slice a n c) ps) : RdP K w a n ps := by
  obtain ⟨a1, n1, c1, e, _, _, _, hr⟩ := h.rd
  simp only [Value.slice.injEq] at e
  rw [e.1, e.2.1]
  exact hr
/-- The first m of an own row. -/
theorem OwnP.cut {t : TypeId} {K : IntKind} {w : World} {base g n c : Nat} {ps : List Pk} (h : OwnP t K w base (.slice (some ⟨g, 0, none⟩) n c) ps) (m : Nat) (hm : m ≤ n) : OwnP t K w base (.slice (some ⟨g, 0, none⟩) m c) (ps.take m) := by
  have hl := h.len
  have hlt : (ps.take m).length = m := by rw [List.length_take]; omega
  refine ⟨wide_take h.1 m, by rw [lcells_len K (wide_take h.1 m)], ?_⟩
  rcases h.2.2 with ⟨h1, h2⟩ | ⟨g', cap, cur, h1, h2, h3, h4, h5, h6, h7⟩
  · cases h1
  · simp only [Value.slice.injEq, Option.some.injEq, Addr.mk.injEq, and_true] at h1
    obtain ⟨rfl, e, rfl⟩ := h1
    refine .inr ⟨g, c, cur, by rw [hlt], h2, h3, by rw [hlt]; omega, h5, h6, ?_⟩
    rw [hlt, ← lcells_take K h.1 m (by omega), ← h7, List.take_take, Nat.min_eq_left (Nat.mul_le_mul_right _ (by omega))]
/-- What holds of each row. -/
structure Fits (ts : List Pk) (j : Nat) : Prop where
  w : ∀ p ∈ row ts j, p.1 ≤ 2305843009213693952
  t : ∀ p ∈ row ts j, ∀ s, p.2.getD s 0 ≤ 127
theorem fits_take {ts : List Pk} {j : Nat} (h : Fits ts j) : (∀ p ∈ cut ts j, p.1 ≤ 2305843009213693952) ∧ ∀ p ∈ cut ts j, ∀ s, p.2.getD s 0 ≤ 127 :=
  ⟨fun p hp => h.w p (List.mem_of_mem_take hp), fun p hp => h.t p (List.mem_of_mem_take hp)⟩
theorem cut_len_le (ts : List Pk) (j : Nat) : (cut ts j).length ≤ 2 * ts.length - 2 := by unfold cut; rw [List.length_take]; omega
theorem own_addr {t : TypeId} {K : IntKind} {w : World} {base : Nat} {v : Value} {ps : List Pk} (h : OwnP t K w base v ps) (hp : 0 < ps.length) : ∃ g c, v = .slice (some ⟨g, 0, none⟩) ps.length c ∧ ps.length ≤ c ∧ c ≤ maxLen ∧ base ≤ g := by
  rcases h.2.2 with ⟨h1, h2⟩ | ⟨g, cap, cur, h1, h2, h3, h4, h5, _⟩
  · omega
  · exact ⟨g, cap, h1, h4, h5, h2⟩
set_option maxHeartbeats 2000000 in
set_option maxRecDepth 100000 in
theorem taken_any (a : Option Addr) (la ca : Nat) (ts : List Pk) (rows : Nat) (w : World) (hr : RdP .u8 w a la ts) (hn : la ≤ 256) (hca : la ≤ ca) (h1 : 1 ≤ rows) (h15 : rows ≤ 15) (hf : ∀ j, j < rows → Fits ts j) :
    Calls Tryz.prog 98 #[.slice a la ca, .int .i64 (rows : Int)] w fun e w' => ∃ a' n c, e = .returned (.slice a' n c) ∧ RdP .u8 w' a' n (takenOf ts rows) ∧ Below w.heap.size w w' := by
  have HR := hide hr
  have HL := hide hr.1
  have HF := hide hf
  clear hr hf
  by_cases h2 : la < 2
  · have h2i : (la : Int) < 2 := by omega
    have HE : Hid (takenOf ts rows = ts) := by show _ = _; unfold takenOf; rw [if_pos (by rw [HL.out]; exact h2)]
    go_enter Tryz.func98, Tryz.ntmps98
    go_wp2_with fail
    go_ret
    exact ⟨_, _, _, rfl, by rw [HE.out]; exact HR.out, Below.refl _ _⟩
  · have h2i : ¬ (la : Int) < 2 := by omega
    have HK : Hid (2 ≤ ts.length) := by show _ ≤ _; rw [HL.out]; omega
    have HE : Hid (takenOf ts rows = cut ts (rows - 1)) := by show _ = _; unfold takenOf; rw [if_neg (by rw [HL.out]; exact h2)]
    obtain ⟨M, hM⟩ : ∃ M, 2 * la - 2 = M := ⟨_, rfl⟩
    have hMi : 2 * (la : Int) - 2 = (M : Int) := by omega
    have HM : Hid (2 * ts.length - 2 = M) := by show _ = _; rw [HL.out, hM]
    have hMb : M ≤ 510 := by omega
    have hM1 : 2 ≤ M := by omega
    obtain ⟨R, hR⟩ : ∃ R, rows - 1 = R := ⟨_, rfl⟩
    have hRi : (rows : Int) - 1 = (R : Int) := by omega
    have HRW : Hid (rows = R + 1) := by show _ = _; omega
    rw [hR] at HE
    clear hM hR
    go_enter Tryz.func98, Tryz.ntmps98
    go_wp2_with fail
    go_loopw [6, 19] (fun r i wr => ∃ (k n c : Nat) (ra : Option Addr), k ≤ R ∧ i = .int .i64 (k : Int) ∧ r = .slice ra n c ∧ n ≤ 510 ∧ Hid (RdP .u8 wr ra n (cut ts k)) ∧ Hid (Below w.heap.size w wr)) (fun _ i _ => R - (intOf i).toNat)
    case atStart => exact ⟨0, la, ca, a, Nat.zero_le _, rfl, rfl, by omega, by rw [cut_zero ts HK.out]; exact HR, Below.refl _ _⟩
    case round =>
      obtain ⟨k, n, c, ra, hk, rfl, rfl, hn5, HRK, HB⟩ := hrel
      by_cases hlt : k < R
      · have hki : (k : Int) < (R : Int) := by omega
        have HFK := hide (fits_take (HF.out k (by have := HRW.out; omega)))
        have HP := hide (fun W h => paired_any ra n c (cut ts k) W h (by omega) HFK.out.1 HFK.out.2)
        have HRW1 : Hid (RdP .u8 wr a la ts) := HR.out.below HB.out
        have HCS := hide (cut_succ ts HK.out k)
        rw [HM.out] at HCS
        have HTL : Hid ((merged ts (paired (cut ts k))).length = la + n / 2) := by show _ = _; rw [merged_len, paired_len, HL.out, HRK.out.1]
        have HPL : Hid ((paired (cut ts k)).length = n / 2) := by show _ = _; rw [paired_len, HRK.out.1]
        have hB0 := HB.out.size
        obtain ⟨q, hq⟩ : ∃ q, n / 2 = q := ⟨_, rfl⟩
        rw [hq] at HP HTL HPL
        have hqb : q ≤ 255 := by omega
        clear hq
        go_wp2_with fail
        refine (HP.out _ HRK.out).mono ?_
        rintro e w1 ⟨g1, rfl, ho1, hb1⟩
        have HB1 : Hid (Below w.heap.size w w1) := HB.out.trans (hb1.mono hB0)
        have hrd1 := ho1.rd'
        have HMX := hide (mixed_any a la ca ts ⟨g1, 0, none⟩ q q (paired (cut ts k)) w1 (HRW1.out.below hb1) hrd1 (by omega) (by omega) (Nat.le_refl _) (by omega) rfl)
        have HRK1 : Hid (RdP .u8 w1 ra n (cut ts k)) := HRK.out.below hb1
        clear ho1 hb1 hrd1
        go_wp2_with fail
        refine HMX.out.mono ?_
        rintro e w2 ⟨v2, rfl, ho2, hb2⟩
        have hB1 := HB1.out.size
        have HB2 : Hid (Below w.heap.size w w2) := HB1.out.trans (hb2.mono hB1)
        have HRK2 : Hid (RdP .u8 w2 ra n (cut ts k)) := HRK1.out.below hb2
        obtain ⟨g2, c2, hv2, hc2, hm2, hg2⟩ := own_addr ho2 (by rw [HTL.out]; omega)
        rw [HTL.out] at hv2 hc2
        subst hv2
        obtain ⟨mm, hmm⟩ : ∃ mm, min M (la + q) = mm := ⟨_, rfl⟩
        have hmc : mm ≤ la + q := by omega
        have HOC := hide (ho2.cut mm hmc)
        have HTK : Hid ((merged ts (paired (cut ts k))).take mm = cut ts (k + 1)) := by
          show _ = _
          rw [← HCS.out, ← hmm, ← HTL.out, Nat.min_def]
          split
          · rfl
          · rw [List.take_length, List.take_of_length_le (by omega)]
        have hmx : mm ≤ 510 := by omega
        have hmi : (M : Int) ≤ ((la + q : Nat) : Int) ∧ mm = M ∨ ((la + q : Nat) : Int) < (M : Int) ∧ mm = la + q := by omega
        obtain ⟨L2, hL2⟩ : ∃ L2, la + q = L2 := ⟨_, rfl⟩
        rw [hL2] at hmi hmc hc2 ⊢
        unfold maxLen at hm2
        clear ho2 hb2 hmm HMX hL2 HP HCS HTL HPL HFK
        rw [HTK.out] at HOC
        have HRD3 := hide HOC.out.rd'
        have HEQ := hide (fun W h1 h2 => equal_any (some ⟨g2, 0, none⟩) ra mm c2 n c (cut ts (k + 1)) (cut ts k) W h1 h2 (by omega))
        clear HTK HOC
        have HMM : Hid (mm = mm) := rfl
        have hcx : (mm : Int) ≤ (c2 : Int) := by omega
        obtain ⟨B, hB⟩ : ∃ B, decide (cut ts (k + 1) = cut ts k) = B := ⟨_, rfl⟩
        rw [hB] at HEQ
        have HBE := hide hB
        have HRF : Hid (∀ nd, RdP .u8 (w2.drewN nd) (some ⟨g2, 0, none⟩) mm (cut ts (k + 1)) ∧ RdP .u8 (w2.drewN nd) ra n (cut ts k) ∧ Below w.heap.size w (w2.drewN nd)) := fun nd =>
          ⟨HRD3.out.below (below_drewN' _ _ _), HRK2.out.below (below_drewN' _ _ _), below_drewN HB2.out nd⟩
        clear hB
        rcases hmi with ⟨hmi, hmm⟩ | ⟨hmi, hmm⟩
        all_goals
          subst hmm
          go_wp2_with fail
          refine (HEQ.out _ HRD3.out HRK2.out).mono ?_
          rintro e w3 ⟨rfl, nd, rfl⟩
          obtain ⟨f1, f2, f3⟩ := HRF.out nd
          have F1 := hide f1
          have F2 := hide f2
          have F3 := hide f3
          clear f1 f2 f3 HRF HRD3 HRK2 HB2
          obtain ⟨w4, hw4⟩ : ∃ w4, w2.drewN nd = w4 := ⟨_, rfl⟩
          rw [hw4] at F1 F2 F3 ⊢
          clear hw4
          cases B with
          | true =>
            have HST : Hid (cut ts R = cut ts k) := by
              show _ = _
              have := cut_stay ts HK.out k (of_decide_eq_true HBE.out) (R - k)
              rwa [show k + (R - k) = R by omega] at this
            go_wp2_with fail
            go_ret
            exact ⟨_, _, _, rfl, by rw [HE.out, HST.out]; exact F2.out, F3.out⟩
          | false =>
            go_wp2_with fail
            go_roundw
            case rel => exact ⟨k + 1, _, c2, some ⟨g2, 0, none⟩, by omega, by go_num, rfl, by omega, F1, F3⟩
            case measure => simp [intOf]; omega
      · obtain rfl : k = R := by omega
        have hki : ¬ (k : Int) < (k : Int) := by omega
        go_wp2_with fail
        go_ret
        have HFI : Hid (RdP .u8 wr ra n (takenOf ts rows)) := by rw [HE.out]; exact HRK.out
        first | exact ⟨_, _, _, rfl, HFI.out, HB.out⟩ | exact ⟨_, _, _, HFI.out, HB.out⟩ | exact ⟨_, _, ⟨_, rfl⟩, HFI.out, HB.out⟩ | exact ⟨_, _, HFI.out, HB.out⟩
end Go.Proofs.YthdblnfohbldcaaGreat.Pm
