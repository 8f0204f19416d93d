/-
  Why nothing can be done with some tasks of a book.
-/
import Derived.Test.YtgpfabblmoffiaaDoorLgE
import Derived.Deep.RegionHeld
namespace Go.Proofs.YtgpfabblmoffiaaDoor.Lg
open Go.ChangeShapes Go.WideShapes Go.ChangeAt Go.RowKit
open Go.Proofs.YtgpfabblmoffiaaDoor.Base Go.Proofs.YtgpfabblmoffiaaDoor.Rf
set_option linter.unusedVariables false
/-- The tasks lie in the block p. -/
def TL (w : World) (p m : Nat) (T : Nat → Int × Int) : Prop := p < w.heap.size ∧ ∀ j, j < m → w.cell? ⟨p, j * 2, none⟩ = some (.int .i64 (T j).1) ∧ w.cell? ⟨p, j * 2 + 1, none⟩ = some (.int .i64 (T j).2)
theorem TL.below {w w' : World} {p m : Nat} {T : Nat → Int × Int} (h : TL w p m T) (hb : Below w.heap.size w w') : TL w' p m T :=
  ⟨Nat.lt_of_lt_of_le h.1 hb.size, fun j hj => ⟨by rw [hb.cell (p := ⟨p, j * 2, none⟩) h.1]; exact (h.2 j hj).1, by rw [hb.cell (p := ⟨p, j * 2 + 1, none⟩) h.1]; exact (h.2 j hj).2⟩⟩
/-- Are there all of the first m tasks? -/
def thrN (b : Bk) (T : Nat → Int × Int) (m : Nat) : Bool := (List.range m).all (fun j => thr b (T j).1 (T j).2)
theorem thrN_snoc (b : Bk) (T : Nat → Int × Int) (m : Nat) : thrN b T (m + 1) = (thrN b T m && thr b (T m).1 (T m).2) := by
  unfold thrN; rw [List.range_succ, List.all_append]; simp
theorem thrN_false {b : Bk} {T : Nat → Int × Int} {m : Nat} (k : Nat) (hk : k < m) (h : thr b (T k).1 (T k).2 = false) : thrN b T m = false := by
  cases he : thrN b T m with
  | false => rfl
  | true =>
    unfold thrN at he
    have := List.all_eq_true.1 he k (List.mem_range.2 hk)
    rw [this] at h
    cases h
def refN (b : Bk) (T : Nat → Int × Int) (m : Nat) : Int := if chk b = true then (if thrN b T m = true then 0 else 191) else 190
theorem refN_ok {b : Bk} {T : Nat → Int × Int} {m : Nat} (h : chk b = true) (h2 : thrN b T m = true) : refN b T m = 0 := by unfold refN; rw [h, h2]; rfl
theorem refN_task {b : Bk} {T : Nat → Int × Int} {m : Nat} (h : chk b = true) (h2 : thrN b T m = false) : refN b T m = 191 := by unfold refN; rw [h, h2]; rfl
theorem refN_bad {b : Bk} {T : Nat → Int × Int} {m : Nat} (h : chk b = false) : refN b T m = 190 := by unfold refN; rw [h]; rfl
theorem lstV_slice (b : Bk) (K : Int) (a1 a2 : Option Addr) (n1 c1 n2 c2 : Nat) (h1 : b.m.length = n1) (h2 : b.r.length = n2) : ∃ a n c, lstV K (.slice a1 n1 c1) (.slice a2 n2 c2) = .slice a n c ∧ (lst b K).length = n ∧ (n = n1 ∨ n = n2 ∨ n = 0) := by
  unfold lstV lst
  by_cases h0 : K = 0
  · exact ⟨a1, n1, c1, by rw [if_pos h0], by rw [if_pos h0]; exact h1, .inl rfl⟩
  · by_cases hk1 : K = 1
    · exact ⟨a2, n2, c2, by rw [if_neg h0, if_pos hk1], by rw [if_neg h0, if_pos hk1]; exact h2, .inr (.inl rfl)⟩
    · exact ⟨none, 0, 0, by rw [if_neg h0, if_neg hk1], by rw [if_neg h0, if_neg hk1]; rfl, .inr (.inr rfl)⟩
theorem bc_cells {w W : World} {g : Nat} {t : Int} {v1 v2 : Value} {f : Bool} (h : BC w g t v1 v2 f) (hW : Below w.heap.size w W) : W.cell? ⟨g, 0, none⟩ = some (.int .i64 t) ∧ W.cell? ⟨g, 1, none⟩ = some v1 ∧ W.cell? ⟨g, 2, none⟩ = some v2 ∧ W.cell? ⟨g, 3, none⟩ = some (.bool f) := ⟨(h.below hW).c0, (h.below hW).c1, (h.below hW).c2, (h.below hW).c3⟩
set_option maxHeartbeats 4000000 in
set_option maxRecDepth 100000 in
theorem refuse_any (b : Bk) (a1 a2 : Option Addr) (n1 c1 n2 c2 p m c : Nat) (T : Nat → Int × Int) (w : World) (ht : Tab w) (hr1 : RdT w a1 n1 b.m) (hr2 : RdT w a2 n2 b.r) (hT : TL w p m T) (hm : m ≤ 1000) :
    Calls Tryd.prog 38 #[.agg #[.int .i64 b.t, .slice a1 n1 c1, .slice a2 n2 c2, .bool b.f], .slice (some ⟨p, 0, none⟩) m c] w fun e w' => e = .returned (.int .i64 (refN b T m)) ∧ Below w.heap.size w w' := by
  have HCK := hide (fun W (hW : Below w.heap.size w W) => check_any b a1 a2 n1 c1 n2 c2 W (ht.below hW) (hr1.below hW) (hr2.below hW))
  have HL1 := hide hr1.1
  have HL2 := hide hr2.1
  have HLN : Hid (n1 ≤ 4611686018427387904 ∧ n2 ≤ 4611686018427387904) := ⟨hr1.2.1, hr2.2.1⟩
  have HT := hide hT
  obtain ⟨w1, hw1⟩ : ∃ w1, w.alloc (.cells #[.int .i64 b.t, .slice a1 n1 c1, .slice a2 n2 c2, .bool b.f] 26) = w1 := ⟨_, rfl⟩
  have HB1 : Hid (Below w.heap.size w w1) := by rw [← hw1]; exact (Below.refl _ _).alloc (Nat.le_refl _) _
  have HC1 : Hid (BC w1 w.heap.size b.t (.slice a1 n1 c1) (.slice a2 n2 c2) b.f) := by rw [← hw1]; exact bc_new _ _ _ _ _
  clear ht hr1 hr2 hT
  obtain ⟨g, hg⟩ : ∃ g, w.heap.size = g := ⟨_, rfl⟩
  rw [hg] at HC1
  have HG := hide hg
  have x0 := HC1.out.c0
  have x1 := HC1.out.c1
  have x2 := HC1.out.c2
  have x3 := HC1.out.c3
  go_enter Tryd.func38, Tryd.ntmps38
  rcases Bool.eq_false_or_eq_true (chk b) with hc | hc
  · have HCO := hide hc
    clear hc
    go_wp2_with (refine (HCK.out _ HB1.out).mono ?_; rw [chkE_ok HCO.out]; clear hw1 x0 x1 x2 x3; rintro e w2 ⟨rfl, hb⟩; have HB2 := hide (below_trans HB1.out hb); have HC2 := hide (HC1.out.below hb); clear hb)
    go_loopw [15] (fun i wr => ∃ k : Nat, k ≤ m ∧ i = .int .i64 (k : Int) ∧ Hid (thrN b T k = true) ∧ Hid (Below w2.heap.size w2 wr)) (fun i _ => m - (intOf i).toNat)
    case atStart => exact ⟨0, Nat.zero_le _, rfl, rfl, Below.refl _ _⟩
    case round =>
      obtain ⟨k, hk, rfl, HJ, HB⟩ := hrel
      by_cases hlt : k < m
      · have hki : (k : Int) < (m : Int) := by omega
        have HTr := hide (HT.out.below (below_trans HB2.out HB.out))
        obtain ⟨e0, e1⟩ := HTr.out.2 k hlt
        have HS := hide (thrN_snoc b T k)
        have HF : Hid (thr b (T k).1 (T k).2 = false → thrN b T m = false) := thrN_false k hlt
        generalize (T k).1 = K at e0 HS HF
        generalize (T k).2 = i at e1 HS HF
        obtain ⟨a, n, cc, hlv, hln, hlm⟩ := lstV_slice b K a1 a2 n1 c1 n2 c2 HL1.out HL2.out
        have HLV := hide hlv
        have HLE := hide hln
        have hn2 : (n : Int) ≤ 9223372036854775807 := by have := HLN.out; omega
        have HLW : Hid (wi i 0 ((n : Int) - 1) = thr b K i) := by
          show _ = _
          unfold wi thr
          apply decide_eq_decide.2
          rw [hln]
          constructor
          · rintro ⟨h1, h2⟩; exact ⟨h1, by omega⟩
          · rintro ⟨h1, h2⟩; exact ⟨h1, by omega⟩
        clear hlv hln hlm
        obtain ⟨N1, hN1⟩ : ∃ N1, (n : Int) - 1 = N1 := ⟨_, rfl⟩
        have hwr : IntKind.i64.wrap ((n : Int) - 1) = N1 := by rw [IntKind.wrap_i64]; omega
        rw [hN1] at HLW
        clear hN1 hn2
        obtain ⟨w3, hw3⟩ : ∃ w3, wr.alloc (.cells #[.int .i64 K, .int .i64 i] 37) = w3 := ⟨_, rfl⟩
        have HB3r : Hid (Below wr.heap.size wr w3) := by rw [← hw3]; exact (Below.refl _ _).alloc (Nat.le_refl _) _
        have HB3 := hide (below_trans HB.out HB3r.out)
        have HQ3 : Hid (w3.heap[wr.heap.size]? = some (.cells #[.int .i64 K, .int .i64 i] 37)) := by rw [← hw3]; exact heap_alloc_new _ _
        obtain ⟨q, hq⟩ : ∃ q, wr.heap.size = q := ⟨_, rfl⟩
        rw [hq] at HQ3
        have HC3 := hide (HC2.out.below HB3.out)
        have HQL : Hid (q < w3.heap.size) := (Array.getElem?_eq_some_iff.1 HQ3.out).1
        have q0 : w3.cell? ⟨q, 0, none⟩ = some (.int .i64 K) := by rw [cell_of_row _ _ _ _ _ _ HQ3.out]; rfl
        have q1 : w3.cell? ⟨q, 1, none⟩ = some (.int .i64 i) := by rw [cell_of_row _ _ _ _ _ _ HQ3.out]; rfl
        have HQC : Hid (w3.cell? ⟨q, 0, none⟩ = some (.int .i64 K) ∧ w3.cell? ⟨q, 1, none⟩ = some (.int .i64 i)) := ⟨q0, q1⟩
        have x0 := HC3.out.c0
        have x1 := HC3.out.c1
        have x2 := HC3.out.c2
        have x3 := HC3.out.c3
        have HSX : Hid (∀ W, Below w3.heap.size w3 W → W.cell? ⟨q, 0, none⟩ = some (.int .i64 K) ∧ W.cell? ⟨q, 1, none⟩ = some (.int .i64 i) ∧ W.cell? ⟨g, 0, none⟩ = some (.int .i64 b.t) ∧ W.cell? ⟨g, 1, none⟩ = some (.slice a1 n1 c1) ∧ W.cell? ⟨g, 2, none⟩ = some (.slice a2 n2 c2) ∧ W.cell? ⟨g, 3, none⟩ = some (.bool b.f)) := fun W hW => ⟨by rw [hW.cell (p := ⟨q, 0, none⟩) HQL.out]; exact HQC.out.1, by rw [hW.cell (p := ⟨q, 1, none⟩) HQL.out]; exact HQC.out.2, bc_cells HC3.out hW⟩
        have HLO : Hid (∀ W, Calls Tryd.prog 65 #[.agg #[.int .i64 b.t, .slice a1 n1 c1, .slice a2 n2 c2, .bool b.f], .int .i64 K] W fun e w' => e = .returned (.slice a n cc) ∧ Below W.heap.size W w') := fun W => by
          rw [← HLV.out]; exact listOf_any b.t K _ _ b.f W
        rcases Bool.eq_false_or_eq_true (thr b K i) with hth | hth
        · have HTH := hide hth
          have HWI := hide (HLW.out.trans hth)
          clear hth
          go_wp2_with fail
          go_region_held (fun V => V.cell? ⟨q, 0, none⟩ = some (.int .i64 K) ∧ V.cell? ⟨q, 1, none⟩ = some (.int .i64 i) ∧ V.cell? ⟨g, 0, none⟩ = some (.int .i64 b.t) ∧ V.cell? ⟨g, 1, none⟩ = some (.slice a1 n1 c1) ∧ V.cell? ⟨g, 2, none⟩ = some (.slice a2 n2 c2) ∧ V.cell? ⟨g, 3, none⟩ = some (.bool b.f)) (first | go_keep | exact E8.out) (first
            | (go_at_call 65; refine (HLO.out _).mono ?_; rintro e w6 ⟨rfl, hb6⟩; have HB6 := hide ((Below.refl _ _).drew.trans hb6); have E8 := hide (HSX.out _ HB6.out); clear hb6)
            | (go_at_call 58; refine (isWithin_any i 0 N1 _).mono ?_; rw [HWI.out]; rintro e w7 ⟨rfl, hb7⟩; obtain rfl := hb7.symm))
          all_goals
            go_wp2_with fail
            go_roundw
            case rel => exact ⟨k + 1, by omega, by go_num, by show _ = _; rw [HS.out, HJ.out, HTH.out]; rfl, below_trans HB3.out HB6.out⟩
            case measure => (simp [intOf] <;> omega)
        · have HTH := hide (HF.out hth)
          have HWI := hide (HLW.out.trans hth)
          clear hth
          go_wp2_with fail
          go_region_held (fun V => V.cell? ⟨q, 0, none⟩ = some (.int .i64 K) ∧ V.cell? ⟨q, 1, none⟩ = some (.int .i64 i) ∧ V.cell? ⟨g, 0, none⟩ = some (.int .i64 b.t) ∧ V.cell? ⟨g, 1, none⟩ = some (.slice a1 n1 c1) ∧ V.cell? ⟨g, 2, none⟩ = some (.slice a2 n2 c2) ∧ V.cell? ⟨g, 3, none⟩ = some (.bool b.f)) (first | go_keep | exact E8.out) (first
            | (go_at_call 65; refine (HLO.out _).mono ?_; rintro e w6 ⟨rfl, hb6⟩; have HB6 := hide ((Below.refl _ _).drew.trans hb6); have E8 := hide (HSX.out _ HB6.out); clear hb6)
            | (go_at_call 58; refine (isWithin_any i 0 N1 _).mono ?_; rw [HWI.out]; rintro e w7 ⟨rfl, hb7⟩; obtain rfl := hb7.symm))
          all_goals
            go_wp2_with fail
            go_ret
            exact ⟨ret_int (refN_task HCO.out HTH.out).symm, by first | exact below_trans HB2.out (below_trans HB3.out HB6.out) | (have h := below_trans HB2.out (below_trans HB3.out HB6.out); rw [HG.out] at h; exact h)⟩
      · obtain rfl : k = m := by omega
        have hki : ¬ (k : Int) < (k : Int) := by omega
        go_wp2_with fail
        go_ret
        exact ⟨ret_int (refN_ok HCO.out HJ.out).symm, by first | exact below_trans HB2.out HB.out | (have h := below_trans HB2.out HB.out; rw [HG.out] at h; exact h)⟩
  · have HCO := hide hc
    clear hc
    go_wp2_with (refine (HCK.out _ HB1.out).mono ?_; rw [chkE_bad HCO.out]; clear hw1 x0 x1 x2 x3; rintro e w2 ⟨rfl, hb⟩; have HB2 := hide (below_trans HB1.out hb); clear hb)
    go_ret
    exact ⟨ret_int (refN_bad HCO.out).symm, by first | exact HB2.out | (have h := HB2.out; rw [HG.out] at h; exact h)⟩
end Go.Proofs.YtgpfabblmoffiaaDoor.Lg
