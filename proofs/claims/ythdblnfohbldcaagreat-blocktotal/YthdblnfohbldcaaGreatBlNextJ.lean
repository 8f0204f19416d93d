/-
  A reader in memory; Len, groups; a new walker.
-/
import Derived.Test.YthdblnfohbldcaaGreatBlRawJ
import Derived.Test.YthdblnfohbldcaaGreatLzC4J
import Derived.Test.YthdblnfohbldcaaGreatBlCurDJ
import Derived.Test.YthdblnfohbldcaaGreatBlModJ
import Derived.Deep.RegionHeldLaw
namespace Go.Proofs.YthdblnfohbldcaaGreat.Bl
open Go.ChangeShapes Go.WideShapes Go.ChangeAt Go.RowKit
open Go.Proofs.YthdblnfohbldcaaGreat.Base Go.Proofs.YthdblnfohbldcaaGreat.Nums Go.Proofs.YthdblnfohbldcaaGreat.Curs
set_option linter.unusedVariables false
/-- A reader stands at q. -/
def RR (w : World) (q : Nat) (ev pv : Value) (r n : Int) : Prop := w.heap[q]? = some (.cells #[ev, pv, .int .i64 r, .int .i64 n] 106)
theorem RR.cells {w : World} {q : Nat} {ev pv : Value} {r n : Int} (h : RR w q ev pv r n) : w.cell? ⟨q, 0, none⟩ = some ev ∧ w.cell? ⟨q, 1, none⟩ = some pv ∧ w.cell? ⟨q, 2, none⟩ = some (.int .i64 r) ∧ w.cell? ⟨q, 3, none⟩ = some (.int .i64 n) := by
  refine ⟨?_, ?_, ?_, ?_⟩ <;> (rw [cell_of_row _ _ _ _ _ _ h]; rfl)
theorem RR.fz {w : World} {q : Nat} {ev pv : Value} {r n : Int} (h : RR w q ev pv r n) (k : Nat) : w.frozen? ⟨q, k, none⟩ = false := frozen_of_row _ _ _ _ _ h
theorem RR.lt {w : World} {q : Nat} {ev pv : Value} {r n : Int} (h : RR w q ev pv r n) : q < w.heap.size := (Array.getElem?_eq_some_iff.1 h).1
theorem RR.below {w w' : World} {q : Nat} {ev pv : Value} {r n : Int} (h : RR w q ev pv r n) (hb : Below w.heap.size w w') : RR w' q ev pv r n := (hb.block q h.lt).trans h
theorem RR.grown {w w' : World} {q : Nat} {ev pv : Value} {r n : Int} {o : Option Nat} (h : RR w q ev pv r n) (hb : w.grownBy w' o) (hne : o ≠ some q) : RR w' q ev pv r n := (hb.block q h.lt (fun e => hne e.symm)).trans h
theorem RR.set0 {w : World} {q : Nat} {ev pv : Value} {r n : Int} (h : RR w q ev pv r n) (v : Value) : RR (w.setCell ⟨q, 0, none⟩ v) q v pv r n := by
  unfold RR; rw [heap_setCell_same _ _ _ _ _ _ h]; rfl
theorem RR.set1 {w : World} {q : Nat} {ev pv : Value} {r n : Int} (h : RR w q ev pv r n) (v : Value) : RR (w.setCell ⟨q, 1, none⟩ v) q ev v r n := by
  unfold RR; rw [heap_setCell_same _ _ _ _ _ _ h]; rfl
set_option maxRecDepth 100000 in
theorem rlen_any (q : Nat) (ev pv : Value) (r n : Int) (w : World) (h : RR w q ev pv r n) :
    Calls Tryz.prog 17 #[.pointer (some ⟨q, 0, none⟩)] w fun e w' => e = .returned (.int .i64 n) ∧ w' = w := by
  obtain ⟨c0, c1, c2, c3⟩ := h.cells
  clear h
  go_enter Tryz.func17, Tryz.ntmps17
  go_wp2_with fail
  go_ret
  exact ⟨rfl, rfl⟩
set_option maxRecDepth 100000 in
theorem rlen_nil (w : World) : Calls Tryz.prog 17 #[.pointer none] w fun e w' => e = .returned (.int .i64 0) ∧ w' = w := by
  go_enter Tryz.func17, Tryz.ntmps17
  go_wp2_with fail
  go_ret
  exact ⟨rfl, rfl⟩
set_option maxRecDepth 100000 in
theorem groups_any (q : Nat) (ev : Value) (pa : Option Addr) (pl pc : Nat) (r n : Int) (w : World) (h : RR w q ev (.slice pa (pl + 1) pc) r n) (hl : pl ≤ 1048576) :
    Calls Tryz.prog 87 #[.pointer (some ⟨q, 0, none⟩)] w fun e w' => e = .returned (.int .i64 (pl : Nat)) ∧ w' = w := by
  obtain ⟨c0, c1, c2, c3⟩ := h.cells
  clear h
  go_enter Tryz.func87, Tryz.ntmps87
  go_wp2_with fail
  go_ret
  exact ⟨ret_int (by first | rfl | omega), rfl⟩
/-- A walker stands at k: its cursor, the key read last. -/
def WK (w : World) (k g : Nat) (key : ByteArray) : Prop := w.heap[k]? = some (.cells #[.pointer (some ⟨g, 0, none⟩), .string key] 143)
theorem WK.cells {w : World} {k g : Nat} {key : ByteArray} (h : WK w k g key) : w.cell? ⟨k, 0, none⟩ = some (.pointer (some ⟨g, 0, none⟩)) ∧ w.cell? ⟨k, 1, none⟩ = some (.string key) := by
  refine ⟨?_, ?_⟩ <;> (rw [cell_of_row _ _ _ _ _ _ h]; rfl)
theorem WK.fz {w : World} {k g : Nat} {key : ByteArray} (h : WK w k g key) (j : Nat) : w.frozen? ⟨k, j, none⟩ = false := frozen_of_row _ _ _ _ _ h
theorem WK.lt {w : World} {k g : Nat} {key : ByteArray} (h : WK w k g key) : k < w.heap.size := (Array.getElem?_eq_some_iff.1 h).1
theorem WK.below {w w' : World} {k g : Nat} {key : ByteArray} (h : WK w k g key) (hb : Below w.heap.size w w') : WK w' k g key := (hb.block k h.lt).trans h
theorem WK.grown {w w' : World} {k g : Nat} {key : ByteArray} {o : Option Nat} (h : WK w k g key) (hb : w.grownBy w' o) (hne : o ≠ some k) : WK w' k g key := (hb.block k h.lt (fun e => hne e.symm)).trans h
theorem WK.set1 {w : World} {k g : Nat} {key : ByteArray} (h : WK w k g key) (s : ByteArray) : WK (w.setCell ⟨k, 1, none⟩ (.string s)) k g s := by
  unfold WK; rw [heap_setCell_same _ _ _ _ _ _ h]; rfl
set_option maxRecDepth 100000 in
theorem newW_any (a : Option Addr) (n c : Nat) (L : List (BitVec 8)) (w : World) (HN : Hid (Calls Tryz.prog 83 #[.slice a n c] w fun e w' => ∃ g, e = .returned (.pointer (some ⟨g, 0, none⟩)) ∧ w.heap.size ≤ g ∧ Cur w' g L 0 ∧ Below w.heap.size w w')) :
    Calls Tryz.prog 101 #[.slice a n c] w fun e w' => ∃ k g, e = .returned (.pointer (some ⟨k, 0, none⟩)) ∧ WK w' k g ⟨#[]⟩ ∧ w.heap.size ≤ g ∧ g < k ∧ Fa.Cst w' g (some L) ∧ Below w.heap.size w w' := by
  go_enter Tryz.func101, Tryz.ntmps101
  go_wp2_with (go_at_call 83; refine HN.out.mono ?_; rintro e w1 ⟨g, rfl, hg, hc, hb⟩; have HG := hide hg; have HC : Hid (Fa.Cst w1 g (some L)) := ⟨0, hc⟩; have HB := hide hb; clear hg hc hb)
  go_ret
  have hb1 : Below w1.heap.size w1 (w1.alloc (.cells #[.pointer (some ⟨g, 0, none⟩), .string ⟨#[]⟩] 143)) := (Below.refl _ _).alloc (Nat.le_refl _) _
  exact ⟨w1.heap.size, g, rfl, heap_alloc_new _ _, HG.out, HC.out.lt, HC.out.below hb1, below_trans HB.out hb1⟩
end Go.Proofs.YthdblnfohbldcaaGreat.Bl
/-
  A walker reads an entry.
-/
namespace Go.Proofs.YthdblnfohbldcaaGreat.Bl
open Go.ChangeShapes Go.WideShapes Go.ChangeAt Go.RowKit
open Go.Proofs.YthdblnfohbldcaaGreat.Base Go.Proofs.YthdblnfohbldcaaGreat.Nums Go.Proofs.YthdblnfohbldcaaGreat.Curs
open Go.Proofs.YthdblnfohbldcaaGreat.Fa (St Cst numS fixS num_st)
set_option linter.unusedVariables false
theorem take_str (g : Nat) (s : St) (n : Nat) (w : World) (h : Cst w g s) (hn : n ≤ 1024) :
    Calls Tryz.prog 103 #[.pointer (some ⟨g, 0, none⟩), .int .i64 (n : Int)] w fun e w' => ∃ a m c, e = .returned (.slice a m c) ∧ (convert 24 9 (.slice a m c)).run Tryz.prog w' = .ok (.string (str (takS s n).1)) w' ∧ w.grownBy w' (some g) ∧ Cst w' g (takS s n).2 := by
  refine (take_st g s n w h).mono ?_
  rintro e w' ⟨v, rfl, ho, hg, hc⟩
  obtain ⟨a, c, rfl⟩ := ho.shape
  exact ⟨a, _, c, rfl, conv_own ho (by have := takS_le s n; omega), hg, hc⟩
theorem wk_grown {w w' : World} {k g : Nat} {key : ByteArray} (h : WK w k g key) (hg : w.grownBy w' (some g)) (hne : k ≠ g) : WK w' k g key := h.grown hg (fun e => hne (Option.some.inj e).symm)
theorem wk_cell_kind {w : World} {k g o : Nat} {key : ByteArray} {c : BitVec 8} (h : WK w k g key) (hc : w.cell? ⟨k, o, none⟩ = some (.int .u8 (c.toNat : Int))) : False := by
  rw [cell_of_row _ _ _ _ _ _ h] at hc
  match o, hc with
  | 0, hc => cases hc
  | 1, hc => cases hc
  | o + 2, hc => simp at hc
theorem cst_grown {w w' : World} {g k gg : Nat} {s : St} {key : ByteArray} (h : Cst w g s) (hg : w.grownBy w' (some k)) (hw : WK w k gg key) (hne : k ≠ g) : Cst w' g s := by
  cases s with
  | none =>
    obtain ⟨p, er, hr, he⟩ := h
    exact ⟨p, er, hr.grown hg (fun e => hne (Option.some.inj e)), he⟩
  | some L =>
    obtain ⟨p, a, c, hrow, hrd, h1, h2, h3, h4, h5, h6⟩ := h
    refine ⟨p, a, c, hrow.grown hg (fun e => hne (Option.some.inj e)), ?_, h1, h2, h3, h4, Nat.lt_of_lt_of_le h5 hg.size, h6⟩
    by_cases h0 : L.length = 0
    · have : L = [] := List.length_eq_zero_iff.1 h0
      subst this
      exact rd_zero _ _
    · refine hrd.grown hg (fun ad e e2 => ?_)
      obtain ⟨b1, off, e3, hlt, hc⟩ := hrd.2.2 (by omega)
      cases e
      cases e3
      have e4 : k = b1 := Option.some.inj e2
      subst e4
      exact wk_cell_kind hw (hc 0 (by omega))
set_option maxHeartbeats 4000000 in
set_option maxRecDepth 100000 in
theorem next_any (k g : Nat) (k0 : ByteArray) (s : St) (w : World) (hW : WK w k g k0) (hC : Cst w g s) (hne : k ≠ g) (hk0 : k0.size ≤ 1024) :
    Calls Tryz.prog 58 #[.pointer (some ⟨k, 0, none⟩)] w fun e w' => e = .returned (.tuple #[.string (nextW k0 s).1.1, .string (nextW k0 s).1.2]) ∧ WK w' k g (nextW k0 s).1.1 ∧ Cst w' g (nextW k0 s).2 ∧ KeptF w w' (fun i => i = k ∨ i = g) := by
  have HS := hide (next_small k0 s hk0)
  obtain ⟨a, s1, ha⟩ : ∃ a s1, numS s (k0.size : Int) = (a, s1) := ⟨_, _, rfl⟩
  have h1 := numS_le' s (k0.size : Int) (by omega)
  rw [ha] at h1
  simp only at h1
  obtain ⟨b, s2, hb⟩ : ∃ b s2, numS s1 ((1024 : Int) - (a : Int)) = (b, s2) := ⟨_, _, rfl⟩
  have h2 := numS_le' s1 ((1024 : Int) - (a : Int)) (by omega)
  rw [hb] at h2
  simp only at h2
  obtain ⟨c, s3, hc⟩ : ∃ c s3, numS s2 1024 = (c, s3) := ⟨_, _, rfl⟩
  have h3 := numS_le' s2 1024 (by omega)
  rw [hc] at h3
  simp only at h3
  obtain ⟨d, s4, hd⟩ : ∃ d s4, takS s3 b = (d, s4) := ⟨_, _, rfl⟩
  have h4 := takS_le s3 b
  rw [hd] at h4
  simp only at h4
  obtain ⟨v, s5, hv⟩ : ∃ v s5, takS s4 c = (v, s5) := ⟨_, _, rfl⟩
  have h5 := takS_le s4 c
  rw [hv] at h5
  simp only at h5
  obtain ⟨K, hK⟩ : ∃ K, k0.extract 0 a ++ str d = K := ⟨_, rfl⟩
  obtain ⟨cm, hcm⟩ : ∃ cm, common (txt k0) (txt K) = cm := ⟨_, rfl⟩
  have HNX : Hid (nextW k0 s = ((K, str v), okS (cm == a) s5)) := by
    show _ = _
    unfold nextW
    simp only [ha, hb, hc, hd, hv, hK, hcm]
  rw [HNX.out] at HS ⊢
  have HKS : Hid (K.size ≤ 1024) := HS.out.1
  have HN1 : Hid (∀ W, Cst W g s → Calls Tryz.prog 102 #[.pointer (some ⟨g, 0, none⟩), .int .i64 (k0.size : Int)] W fun e w' => e = .returned (.int .i64 (a : Nat)) ∧ W.grownBy w' (some g) ∧ Cst w' g s1) := fun W h => by
    have := num_st g s (k0.size : Int) W h
    rw [ha] at this; exact this
  have HN2 : Hid (∀ W, Cst W g s1 → Calls Tryz.prog 102 #[.pointer (some ⟨g, 0, none⟩), .int .i64 ((1024 : Int) - (a : Int))] W fun e w' => e = .returned (.int .i64 (b : Nat)) ∧ W.grownBy w' (some g) ∧ Cst w' g s2) := fun W h => by
    have := num_st g s1 ((1024 : Int) - (a : Int)) W h
    rw [hb] at this; exact this
  have HN3 : Hid (∀ W, Cst W g s2 → Calls Tryz.prog 102 #[.pointer (some ⟨g, 0, none⟩), .int .i64 1024] W fun e w' => e = .returned (.int .i64 (c : Nat)) ∧ W.grownBy w' (some g) ∧ Cst w' g s3) := fun W h => by
    have := num_st g s2 1024 W h
    rw [hc] at this; exact this
  have HT1 : Hid (∀ W, Cst W g s3 → Calls Tryz.prog 103 #[.pointer (some ⟨g, 0, none⟩), .int .i64 (b : Int)] W fun e w' => ∃ ta tm tc, e = .returned (.slice ta tm tc) ∧ (convert 24 9 (.slice ta tm tc)).run Tryz.prog w' = .ok (.string (str d)) w' ∧ W.grownBy w' (some g) ∧ Cst w' g s4) := fun W h => by
    have := take_str g s3 b W h (by omega)
    rw [hd] at this; exact this
  have HT2 : Hid (∀ W, Cst W g s4 → Calls Tryz.prog 103 #[.pointer (some ⟨g, 0, none⟩), .int .i64 (c : Int)] W fun e w' => ∃ ta tm tc, e = .returned (.slice ta tm tc) ∧ (convert 24 9 (.slice ta tm tc)).run Tryz.prog w' = .ok (.string (str v)) w' ∧ W.grownBy w' (some g) ∧ Cst w' g s5) := fun W h => by
    have := take_str g s4 c W h (by omega)
    rw [hv] at this; exact this
  have HCO : Hid (∀ W, Calls Tryz.prog 61 #[.string k0, .string K] W fun e w' => e = .returned (.int .i64 (cm : Nat)) ∧ Below W.heap.size W w') := fun W => by
    have := common_any k0 K W (by omega) (by have := HKS.out; omega)
    rw [hcm] at this; exact this
  have HCT := hide hC
  have HWK := hide hW
  obtain ⟨c0, c1⟩ := hW.cells
  have hak : (a : Int) ≤ (k0.size : Int) := by omega
  have hb1 : (b : Int) ≤ 1024 := by omega
  have hc1 : (c : Int) ≤ 1024 := by omega
  have hk1 : (k0.size : Int) ≤ 1024 := by omega
  have hw1 : IntKind.i64.wrap ((1024 : Int) - (a : Int)) = (1024 : Int) - (a : Int) := by rw [IntKind.wrap_i64]; omega
  have HNE := hide hne
  obtain ⟨X, hX⟩ : ∃ X, k0.extract 0 a = X := ⟨_, rfl⟩
  obtain ⟨D, hD⟩ : ∃ D, str d = D := ⟨_, rfl⟩
  obtain ⟨V, hV⟩ : ∃ V, str v = V := ⟨_, rfl⟩
  rw [hX, hD] at hK
  rw [hD] at HT1
  rw [hV] at HT2 HNX HS ⊢
  have hXs : X.size ≤ 1024 := by rw [← hX, ByteArray.size_extract]; omega
  have hDs : D.size ≤ 1024 := by rw [← hD, str_size]; omega
  have hcat : ∀ W, (Op.stringOp .add X D).run Tryz.prog W = .ok (.string K) W := fun W => by
    rw [run_string_add_sum W X D (by omega), hK]
  have hsl : ∀ W, (Instr.sliceAt 9 (.string k0) none (some (.int .i64 (a : Int))) none).run Tryz.prog W = .ok (.string X) W := fun W => by
    rw [run_sliceAt_string (h := Tryz.underlying9), run_slice_string_to_if (h := Tryz.underlying9), if_pos ⟨by omega, by omega⟩, Int.toNat_natCast, hX]
  clear hXs hDs hX hD hV
  clear ha hb hc hd hv hK hcm hC hW h1 h2 h3 h4 h5 hk0
  go_enter Tryz.func58, Tryz.ntmps58
  go_upto_region 1 with (fail)
  go_region_held_law (fun V => V.cell? ⟨k, 0, none⟩ = some (.pointer (some ⟨g, 0, none⟩)) ∧ V.cell? ⟨k, 1, none⟩ = some (.string k0)) (first | exact E1.out | go_keep) (first
    | (go_at_call 102; refine (HN1.out _ (HCT.out.below (Below.refl _ _).drew)).mono ?_; rintro e w1 ⟨rfl, hg1, hs1⟩; have HG1 := hide hg1; have HC1 := hide hs1; have HW1 : Hid (WK w1 k g k0) := wk_grown (WK.below HWK.out (Below.refl _ _).drew) hg1 HNE.out; have E1 := hide HW1.out.cells; clear hg1 hs1))
  all_goals
    obtain ⟨d0, d1⟩ := HW1.out.cells
    have ha1 : (a : Int) ≤ 1024 := by omega
    go_upto_region 4 with (first
      | (have hlate := HC2; go_at_call 102; refine (HN3.out _ HC2.out).mono ?_; rintro e w3 ⟨rfl, hg3, hs3⟩; have HG3 := hide hg3; have HC3 := hide hs3; have HW3 : Hid (WK w3 k g k0) := wk_grown HW2.out hg3 HNE.out; obtain ⟨f0, f1⟩ := HW3.out.cells; clear hg3 hs3)
      | (go_at_call 102; refine (HN2.out _ HC1.out).mono ?_; rintro e w2 ⟨rfl, hg2, hs2⟩; have HG2 := hide hg2; have HC2 := hide hs2; have HW2 : Hid (WK w2 k g k0) := wk_grown HW1.out hg2 HNE.out; obtain ⟨e0, e1⟩ := HW2.out.cells; clear hg2 hs2))
    go_region_held_law (fun V => V.cell? ⟨k, 0, none⟩ = some (.pointer (some ⟨g, 0, none⟩)) ∧ V.cell? ⟨k, 1, none⟩ = some (.string k0)) (first | exact E4.out | go_keep) (first
      | (go_at_call 103; refine (HT1.out _ (HC3.out.below (Below.refl _ _).drew)).mono ?_; rintro e w4 ⟨ta, tm, tc, rfl, hcv, hg4, hs4⟩; have HG4 := hide hg4; have HC4 := hide hs4; have HW4 : Hid (WK w4 k g k0) := wk_grown (WK.below HW3.out (Below.refl _ _).drew) hg4 HNE.out; have E4 := hide HW4.out.cells; clear hg4 hs4))
    all_goals
      by_cases hce : cm = a
      · have hcne : ((cm : Int) != (a : Int)) = false := by rw [hce]; exact bne_self_eq_false _
        have HOK : Hid (okS (cm == a) s5 = s5) := by show _ = _; unfold okS; rw [hce]; simp
        clear hce
        go_wp2_with (first
          | (go_at_call 61; refine (HCO.out _).mono ?_; rintro e w6 ⟨rfl, hb6⟩; have HB6 := hide hb6; have HC6 := hide (HC5.out.below hb6); have HW6 : Hid (WK w6 k g k0) := WK.below HW5.out hb6; obtain ⟨n0, n1⟩ := HW6.out.cells; have n2 := HW6.out.fz 1; clear hb6)
          | (go_at_call 103; refine (HT2.out _ HC4.out).mono ?_; rintro e w5 ⟨ta5, tm5, tc5, rfl, hcv5, hg5, hs5⟩; have HG5 := hide hg5; have HC5 := hide hs5; have HW5 : Hid (WK w5 k g k0) := wk_grown HW4.out hg5 HNE.out; obtain ⟨m0, m1⟩ := HW5.out.cells; clear hg5 hs5))
        go_ret2
        rw [HOK.out]
        have hgc : w6.grownBy (w6.setCell ⟨k, 1, none⟩ (.string K)) (some k) := grown_cell (World.grownBy.refl _ _) 1 _
        exact ⟨rfl, HW6.out.set1 K, cst_grown HC6.out hgc HW6.out HNE.out, ((((((((KeptF.of (Below.refl _ _).drew).grown HG1.out (fun i e => .inl (.inr (Option.some.inj e).symm))).grown HG2.out (fun i e => .inl (.inr (Option.some.inj e).symm))).grown HG3.out (fun i e => .inl (.inr (Option.some.inj e).symm))).below (Below.refl _ _).drew).grown HG4.out (fun i e => .inl (.inr (Option.some.inj e).symm))).grown HG5.out (fun i e => .inl (.inr (Option.some.inj e).symm))).below HB6.out).grown hgc (fun i e => .inl (.inl (Option.some.inj e).symm))⟩
      · have hcne : ((cm : Int) != (a : Int)) = true := bne_iff_ne.2 (fun e => hce (by omega))
        have HOK : Hid (okS (cm == a) s5 = none) := by show _ = _; unfold okS; rw [show (cm == a) = false from by simpa using hce]; rfl
        clear hce
        go_wp2_with (first
          | (go_at_call 104; refine (fail_st g s5 _ HC6.out).mono ?_; rintro e w7 ⟨rfl, hg7, hs7⟩; have HG7 := hide hg7; have HC7 := hide hs7; have HW7 : Hid (WK w7 k g k0) := wk_grown HW6.out hg7 HNE.out; obtain ⟨l0, l1⟩ := HW7.out.cells; have l2 := HW7.out.fz 1; clear hg7 hs7)
          | (go_at_call 61; refine (HCO.out _).mono ?_; rintro e w6 ⟨rfl, hb6⟩; have HB6 := hide hb6; have HC6 := hide (HC5.out.below hb6); have HW6 : Hid (WK w6 k g k0) := WK.below HW5.out hb6; obtain ⟨n0, n1⟩ := HW6.out.cells; have n2 := HW6.out.fz 1; clear hb6)
          | (go_at_call 103; refine (HT2.out _ HC4.out).mono ?_; rintro e w5 ⟨ta5, tm5, tc5, rfl, hcv5, hg5, hs5⟩; have HG5 := hide hg5; have HC5 := hide hs5; have HW5 : Hid (WK w5 k g k0) := wk_grown HW4.out hg5 HNE.out; obtain ⟨m0, m1⟩ := HW5.out.cells; clear hg5 hs5))
        go_ret2
        rw [HOK.out]
        have hgc : w7.grownBy (w7.setCell ⟨k, 1, none⟩ (.string K)) (some k) := grown_cell (World.grownBy.refl _ _) 1 _
        exact ⟨rfl, HW7.out.set1 K, cst_grown HC7.out hgc HW7.out HNE.out, (((((((((KeptF.of (Below.refl _ _).drew).grown HG1.out (fun i e => .inl (.inr (Option.some.inj e).symm))).grown HG2.out (fun i e => .inl (.inr (Option.some.inj e).symm))).grown HG3.out (fun i e => .inl (.inr (Option.some.inj e).symm))).below (Below.refl _ _).drew).grown HG4.out (fun i e => .inl (.inr (Option.some.inj e).symm))).grown HG5.out (fun i e => .inl (.inr (Option.some.inj e).symm))).below HB6.out).grown HG7.out (fun i e => .inl (.inr (Option.some.inj e).symm))).grown hgc (fun i e => .inl (.inl (Option.some.inj e).symm))⟩
end Go.Proofs.YthdblnfohbldcaaGreat.Bl
