/-
  The document's own: is there such a task, its state, a copied book, a book with another state, why nothing can be done.
-/
import Derived.Test.YtgpfabblmoffiaaDoorLgR2
import Derived.Test.YtgpfabblmoffiaaDoorLgO
namespace Go.Proofs.YtgpfabblmoffiaaDoor.Lg
open Go.ChangeShapes Go.WideShapes Go.ChangeAt Go.RowKit
open Go.Proofs.YtgpfabblmoffiaaDoor.Base Go.Proofs.YtgpfabblmoffiaaDoor.Rf
set_option linter.unusedVariables false
/-- A task's name lies in the block q. -/
def IC (w : World) (q : Nat) (K i : Int) : Prop := w.heap[q]? = some (.cells #[.int .i64 K, .int .i64 i] 37)
theorem IC.lt {w : World} {q : Nat} {K i : Int} (h : IC w q K i) : q < w.heap.size := (Array.getElem?_eq_some_iff.1 h).1
theorem IC.below {w w' : World} {q : Nat} {K i : Int} (h : IC w q K i) (hb : Below w.heap.size w w') : IC w' q K i := (hb.block q h.lt).trans h
theorem IC.c0 {w : World} {q : Nat} {K i : Int} (h : IC w q K i) : w.cell? ⟨q, 0, none⟩ = some (.int .i64 K) := by rw [cell_of_row _ _ _ _ _ _ h]; rfl
theorem IC.c1 {w : World} {q : Nat} {K i : Int} (h : IC w q K i) : w.cell? ⟨q, 1, none⟩ = some (.int .i64 i) := by rw [cell_of_row _ _ _ _ _ _ h]; rfl
theorem IC.kp {w w' : World} {q : Nat} {K i : Int} {S : Nat → Prop} (h : IC w q K i) (k : Kp S w w') (hS : ¬ S q) : IC w' q K i := (k.block q h.lt hS).trans h
theorem box_bt (t : Int) (v1 v2 : Value) (f : Bool) (K i : Int) (w : World) : ∃ w1 w2 g q, w.alloc (.cells #[.int .i64 t, v1, v2, .bool f] 26) = w1 ∧ w1.alloc (.cells #[.int .i64 K, .int .i64 i] 37) = w2 ∧ w.heap.size = g ∧ w1.heap.size = q ∧ Hid (BC w2 g t v1 v2 f) ∧ Hid (IC w2 q K i) ∧ Hid (Below w.heap.size w w2) ∧ Hid (g < q ∧ q < w2.heap.size) := by
  have hb1 : Below w.heap.size w (w.alloc (.cells #[.int .i64 t, v1, v2, .bool f] 26)) := (Below.refl _ _).alloc (Nat.le_refl _) _
  have hC1 := bc_new w t v1 v2 f
  generalize w.alloc (.cells #[.int .i64 t, v1, v2, .bool f] 26) = w1 at hb1 hC1
  have hb2 : Below w1.heap.size w1 (w1.alloc (.cells #[.int .i64 K, .int .i64 i] 37)) := (Below.refl _ _).alloc (Nat.le_refl _) _
  have hC2 : IC (w1.alloc (.cells #[.int .i64 K, .int .i64 i] 37)) w1.heap.size K i := heap_alloc_new _ _
  exact ⟨w1, _, _, _, rfl, rfl, rfl, rfl, hC1.below hb2, hC2, below_trans hb1 hb2, hC1.lt, hC2.lt⟩
theorem there_any (b : Bk) (K i : Int) (a1 a2 : Option Addr) (n1 c1 n2 c2 : Nat) (w : World) (h1 : b.m.length = n1) (h2 : b.r.length = n2) :
    Calls Tryd.prog 61 #[.agg #[.int .i64 b.t, .slice a1 n1 c1, .slice a2 n2 c2, .bool b.f], .agg #[.int .i64 K, .int .i64 i]] w fun e w' => e = .returned (.bool (thr b K i)) ∧ Below w.heap.size w w' := by
  obtain ⟨w1, w2, g, q, hw1, hw2, hg, hq, HC, HI, HB, HGQ⟩ := box_bt b.t (.slice a1 n1 c1) (.slice a2 n2 c2) b.f K i w
  have HG := hide hg
  have x1 := HC.out.c1
  have x2 := HC.out.c2
  have q0 := HI.out.c0
  have q1 := HI.out.c1
  obtain ⟨T, hT⟩ : ∃ T, thr b K i = T := ⟨_, rfl⟩
  have HT : Hid (T = decide (0 ≤ i ∧ i < (lst b K).length)) := hT.symm
  rw [hT]
  clear hT
  have hlst0 : K = 0 → (lst b K).length = n1 := fun e => by unfold lst; rw [if_pos e]; exact h1
  have hlst1 : K = 1 → (lst b K).length = n2 := fun e => by unfold lst; rw [if_neg (by omega), if_pos e]; exact h2
  have hlst2 : K ≠ 0 → K ≠ 1 → (lst b K).length = 0 := fun e e2 => by unfold lst; rw [if_neg e, if_neg e2]; rfl
  have HL0 := hide hlst0
  have HL1 := hide hlst1
  have HL2 := hide hlst2
  clear hlst0 hlst1 hlst2 h1 h2
  go_enter Tryd.func61, Tryd.ntmps61
  by_cases hi : 0 ≤ i
  · by_cases h0 : K = 0
    · by_cases hl : i < (n1 : Int)
      · have HTT : Hid (T = true) := by show _ = _; rw [HT.out, HL0.out h0]; exact decide_eq_true ⟨hi, hl⟩
        subst h0
        go_wp2_with fail
        go_ret
        exact ⟨ret_bool HTT.out.symm, by first | exact HB.out | (have h := HB.out; rw [HG.out] at h; exact h)⟩
      · have HTT : Hid (T = false) := by show _ = _; rw [HT.out, HL0.out h0]; exact decide_eq_false (fun h => hl h.2)
        subst h0
        go_wp2_with fail
        go_ret
        exact ⟨ret_bool HTT.out.symm, by first | exact HB.out | (have h := HB.out; rw [HG.out] at h; exact h)⟩
    · have h0b : (K == 0) = false := by simpa using h0
      by_cases hk : K = 1
      · by_cases hl : i < (n2 : Int)
        · have HTT : Hid (T = true) := by show _ = _; rw [HT.out, HL1.out hk]; exact decide_eq_true ⟨hi, hl⟩
          subst hk
          clear h0 h0b
          go_wp2_with fail
          go_ret
          exact ⟨ret_bool HTT.out.symm, by first | exact HB.out | (have h := HB.out; rw [HG.out] at h; exact h)⟩
        · have HTT : Hid (T = false) := by show _ = _; rw [HT.out, HL1.out hk]; exact decide_eq_false (fun h => hl h.2)
          subst hk
          clear h0 h0b
          go_wp2_with fail
          go_ret
          exact ⟨ret_bool (by first | exact HTT.out.symm | (rw [HTT.out]; simp; omega)), by first | exact HB.out | (have h := HB.out; rw [HG.out] at h; exact h)⟩
      · have h1b : (K == 1) = false := by simpa using hk
        have HTT : Hid (T = false) := by show _ = _; rw [HT.out, HL2.out h0 hk]; exact decide_eq_false (by omega)
        clear h0 hk
        go_wp2_with fail
        go_ret
        exact ⟨ret_bool HTT.out.symm, by first | exact HB.out | (have h := HB.out; rw [HG.out] at h; exact h)⟩
  · have HTT : Hid (T = false) := by show _ = _; rw [HT.out]; exact decide_eq_false (fun h => hi h.1)
    go_wp2_with fail
    go_ret
    exact ⟨ret_bool HTT.out.symm, by first | exact HB.out | (have h := HB.out; rw [HG.out] at h; exact h)⟩
theorem tc_ret {fn : Func} {p : Tmp} (h : fn.results = #[.cell p 43]) (tmps : Array Value) (w : World) (g : Nat) (x : TS) (hp : tmps.getD p undef = .pointer (some ⟨g, 0, none⟩)) (hf : TC w g x) :
    (results fn tmps).run Tryd.prog w = .ok (.agg #[.int .i64 x.s, .int .i64 x.a, .int .i64 x.c]) w :=
  results_cell_row h tmps w g 43 _ (0, 0) _ hp hf Tryd.underlying43 rfl (by kernel_rfl)
theorem TC.set {w : World} {g : Nat} {x : TS} (h : TC w g x) (y : TS) : TC (((w.setCell ⟨g, 0, none⟩ (.int .i64 y.s)).setCell ⟨g, 1, none⟩ (.int .i64 y.a)).setCell ⟨g, 2, none⟩ (.int .i64 y.c)) g y := by
  unfold TC
  rw [heap_setCell_same _ _ 2 _ _ _ (heap_setCell_same _ _ 1 _ _ _ (heap_setCell_same _ _ 0 _ _ _ h))]; rfl
set_option maxHeartbeats 1000000 in
theorem at_any (b : Bk) (K i : Int) (a1 a2 : Option Addr) (n1 c1 n2 c2 : Nat) (w : World) (hr1 : RdT w a1 n1 b.m) (hr2 : RdT w a2 n2 b.r) (hth : thr b K i = true) :
    Calls Tryd.prog 54 #[.agg #[.int .i64 b.t, .slice a1 n1 c1, .slice a2 n2 c2, .bool b.f], .agg #[.int .i64 K, .int .i64 i]] w fun e w' => e = .returned (.agg #[.int .i64 (tsk b K i).s, .int .i64 (tsk b K i).a, .int .i64 (tsk b K i).c]) ∧ Below w.heap.size w w' := by
  obtain ⟨w1, w2, g, q, hw1, hw2, hg, hq, HC, HI, HB, HGQ⟩ := box_bt b.t (.slice a1 n1 c1) (.slice a2 n2 c2) b.f K i w
  obtain ⟨h0i, hlt, hkk⟩ := thr_kind hth
  obtain ⟨k, rfl⟩ : ∃ k : Nat, i = (k : Int) := ⟨i.toNat, by omega⟩
  rw [Int.toNat_natCast] at hlt
  have hTK : tsk b K (k : Int) = (lst b K).getD k z0 := by unfold tsk; rw [Int.toNat_natCast]
  obtain ⟨w3, hw3⟩ : ∃ w3, w2.alloc (.cells #[.int .i64 0, .int .i64 0, .int .i64 0] 43) = w3 := ⟨_, rfl⟩
  have HB23 : Hid (Below w2.heap.size w2 w3) := by rw [← hw3]; exact (Below.refl _ _).alloc (Nat.le_refl _) _
  have HT : Hid (TC w3 w2.heap.size ⟨0, 0, 0⟩) := by rw [← hw3]; exact tc_new w2 ⟨0, 0, 0⟩
  have HB3 := hide (below_trans HB.out HB23.out)
  have HC3 := hide (HC.out.below HB23.out)
  have HI3 := hide (HI.out.below HB23.out)
  have HG := hide hg
  have HR1 := hide (hr1.below HB3.out)
  have HR2 := hide (hr2.below HB3.out)
  obtain ⟨r, hr⟩ : ∃ r, w2.heap.size = r := ⟨_, rfl⟩
  rw [hr] at HT
  have HRG : Hid (w.heap.size ≤ r) := by rw [← hr]; exact HB.out.size
  have q0 := HI3.out.c0
  have q1 := HI3.out.c1
  have t0 := HT.out.c0
  have t1 := HT.out.c1
  have t2 := HT.out.c2
  have z0' := HT.out.fz 0
  have z1' := HT.out.fz 1
  have z2' := HT.out.fz 2
  have HEND : Hid (∀ y : TS, Below w.heap.size w (((w3.setCell ⟨r, 0, none⟩ (.int .i64 y.s)).setCell ⟨r, 1, none⟩ (.int .i64 y.a)).setCell ⟨r, 2, none⟩ (.int .i64 y.c))) := fun y => ((HB3.out.setCell (p := ⟨r, 0, none⟩) HRG.out _).setCell (p := ⟨r, 1, none⟩) HRG.out _).setCell (p := ⟨r, 2, none⟩) HRG.out _
  clear hr1 hr2
  rcases hkk with ⟨rfl, hl⟩ | ⟨rfl, hl⟩
  · rw [hl] at hlt hTK
    have hln : k < n1 := by rw [← HR1.out.1]; exact hlt
    obtain ⟨bb, oo, rfl, hbl, e0, e1, e2⟩ := HR1.out.at k hln
    rw [← hTK] at e0 e1 e2
    have x1 := HC3.out.c1
    have hki : (k : Int) < (n1 : Int) := by omega
    generalize tsk b 0 (k : Int) = x at e0 e1 e2 ⊢
    clear hTK hl hlt hth hbl
    go_enter Tryd.func54, Tryd.ntmps54
    go_wp2_with fail
    refine bodyPost_ret (tc_ret rfl _ _ r x rfl (HT.out.set x)) rfl ?_
    exact ⟨rfl, by first | exact HEND.out x | (have h := HEND.out x; rw [HG.out] at h; exact h)⟩
  · rw [hl] at hlt hTK
    have hln : k < n2 := by rw [← HR2.out.1]; exact hlt
    obtain ⟨bb, oo, rfl, hbl, e0, e1, e2⟩ := HR2.out.at k hln
    rw [← hTK] at e0 e1 e2
    have x2 := HC3.out.c2
    have hki : (k : Int) < (n2 : Int) := by omega
    generalize tsk b 1 (k : Int) = x at e0 e1 e2 ⊢
    clear hTK hl hlt hth hbl
    go_enter Tryd.func54, Tryd.ntmps54
    go_wp2_with fail
    refine bodyPost_ret (tc_ret rfl _ _ r x rfl (HT.out.set x)) rfl ?_
    exact ⟨rfl, by first | exact HEND.out x | (have h := HEND.out x; rw [HG.out] at h; exact h)⟩
theorem refusal_any (b : Bk) (K i : Int) (a1 a2 : Option Addr) (n1 c1 n2 c2 : Nat) (w : World) (hr1 : RdT w a1 n1 b.m) (hr2 : RdT w a2 n2 b.r) :
    Calls Tryd.prog 53 #[.agg #[.int .i64 b.t, .slice a1 n1 c1, .slice a2 n2 c2, .bool b.f], .agg #[.int .i64 K, .int .i64 i]] w fun e w' => e = .returned (.int .i64 (refE b K i)) ∧ Below w.heap.size w w' := by
  have HL1 := hide hr1.1
  have HL2 := hide hr2.1
  have HCK := hide (fun W (hW : Below w.heap.size w W) => refCheck_any b a1 a2 n1 c1 n2 c2 W (hr1.below hW) (hr2.below hW))
  clear hr1 hr2
  obtain ⟨w1, w2, g, q, hw1, hw2, hg, hq, HC, HI, HB, HGQ⟩ := box_bt b.t (.slice a1 n1 c1) (.slice a2 n2 c2) b.f K i w
  have HG := hide hg
  have x0 := HC.out.c0
  have x1 := HC.out.c1
  have x2 := HC.out.c2
  have x3 := HC.out.c3
  go_enter Tryd.func53, Tryd.ntmps53
  rcases Bool.eq_false_or_eq_true (chk b) with hc | hc
  · have HCO := hide hc
    clear hc
    go_wp2_with (first
      | (go_at_call 21; refine (HCK.out _ HB.out).mono ?_; rw [chkE_ok HCO.out]; clear hw1 hw2 hq hg x0 x1 x2 x3; rintro e w3 ⟨rfl, hb⟩; have HB3 := hide (below_trans HB.out hb); have HC3 := hide (HC.out.below hb); have HI3 := hide (HI.out.below hb); clear hb; have x0 := HC3.out.c0; have x1 := HC3.out.c1; have x2 := HC3.out.c2; have x3 := HC3.out.c3; have q0 := HI3.out.c0; have q1 := HI3.out.c1)
      | (go_at_call 61; refine (there_any b K i a1 a2 n1 c1 n2 c2 _ HL1.out HL2.out).mono ?_; clear x0 x1 x2 x3 q0 q1; rintro e w4 ⟨rfl, hb⟩; have HB4 := hide (below_trans HB3.out hb); clear hb; rcases Bool.eq_false_or_eq_true (thr b K i) with hth | hth <;> rw [hth]))
    · have HR := hide (refE_ok HCO.out hth)
      clear hth
      first | go_wp2_with fail | skip
      go_ret
      exact ⟨ret_int HR.out.symm, by first | exact HB4.out | (have h := HB4.out; rw [HG.out] at h; exact h)⟩
    · have HR := hide (refE_task HCO.out hth)
      clear hth
      first | go_wp2_with fail | skip
      go_ret
      exact ⟨ret_int HR.out.symm, by first | exact HB4.out | (have h := HB4.out; rw [HG.out] at h; exact h)⟩
  · have HCO := hide hc
    clear hc
    go_wp2_with (refine (HCK.out _ HB.out).mono ?_; rw [chkE_bad HCO.out]; clear hw1 hw2 hq hg x0 x1 x2 x3; rintro e w3 ⟨rfl, hb⟩; have HB3 := hide (below_trans HB.out hb); clear hb)
    go_ret
    exact ⟨ret_int (refE_bad HCO.out).symm, by first | exact HB3.out | (have h := HB3.out; rw [HG.out] at h; exact h)⟩
end Go.Proofs.YtgpfabblmoffiaaDoor.Lg
