/-
  The tasks of a kind; are all done; may tasks of a kind be begun; why nothing can be done with tasks.
-/
import Derived.Test.YtgpfabblmoffiaaDoorLgD
import Derived.Test.YtgpfabblmoffiaaDoorLgH
namespace Go.Proofs.YtgpfabblmoffiaaDoor.Lg
open Go.ChangeShapes Go.WideShapes Go.ChangeAt Go.RowKit
open Go.Proofs.YtgpfabblmoffiaaDoor.Base Go.Proofs.YtgpfabblmoffiaaDoor.Rf
set_option linter.unusedVariables false
/-- The tasks of a kind, as they lie. -/
def lstV (K : Int) (v1 v2 : Value) : Value := if K = 0 then v1 else if K = 1 then v2 else .slice none 0 0
theorem listOf_any (t K : Int) (v1 v2 : Value) (f : Bool) (w : World) :
    Calls Tryd.prog 65 #[.agg #[.int .i64 t, v1, v2, .bool f], .int .i64 K] w fun e w' => e = .returned (lstV K v1 v2) ∧ Below w.heap.size w w' := by
  obtain ⟨w1, hw1⟩ : ∃ w1, w.alloc (.cells #[.int .i64 t, v1, v2, .bool f] 26) = w1 := ⟨_, rfl⟩
  have HB1 : Hid (Below w.heap.size w w1) := by rw [← hw1]; exact (Below.refl _ _).alloc (Nat.le_refl _) _
  have hC1 : BC w1 w.heap.size t v1 v2 f := by rw [← hw1]; exact bc_new _ _ _ _ _
  obtain ⟨g, hg⟩ : ∃ g, w.heap.size = g := ⟨_, rfl⟩
  rw [hg] at hC1
  have HG := hide hg
  have x1 := hC1.c1
  have x2 := hC1.c2
  clear hC1
  unfold lstV
  go_enter Tryd.func65, Tryd.ntmps65
  by_cases h0 : K = 0
  · subst h0
    go_wp2_with fail
    go_ret
    exact ⟨rfl, by first | exact HB1.out | (have h := HB1.out; rw [HG.out] at h; exact h)⟩
  · have hb0 : (K == 0) = false := by simpa using h0
    by_cases h1 : K = 1
    · subst h1
      go_wp2_with fail
      go_ret
      exact ⟨rfl, by first | exact HB1.out | (have h := HB1.out; rw [HG.out] at h; exact h)⟩
    · have hb1 : (K == 1) = false := by simpa using h1
      rw [if_neg h0, if_neg h1]
      clear h0 h1
      go_wp2_with fail
      go_ret
      exact ⟨rfl, by first | exact HB1.out | (have h := HB1.out; rw [HG.out] at h; exact h)⟩
theorem notDone_any (x : TS) (w : World) :
    Calls Tryd.prog 64 #[.agg #[.int .i64 x.s, .int .i64 x.a, .int .i64 x.c]] w fun e w' => e = .returned (.bool (x.s != 3)) ∧ Below w.heap.size w w' := by
  have HB1 := hide ((Below.refl w.heap.size w).alloc (Nat.le_refl _) (.cells #[.int .i64 x.s, .int .i64 x.a, .int .i64 x.c] 43))
  go_enter Tryd.func64, Tryd.ntmps64
  go_wp2_with fail
  go_ret
  exact ⟨rfl, HB1.out⟩
/-- Is one of the first k not done? -/
theorem dn_snoc (L : List TS) (k : Nat) (hk : k < L.length) : dn (L.take (k + 1)) = (dn (L.take k) && decide ((L.getD k z0).s = 3)) := all_snoc _ L k hk
theorem indexFunc_any (a : Option Addr) (n c : Nat) (L : List TS) (w : World) (hr : RdT w a n L) :
    Calls Tryd.prog 70 #[.slice a n c, .func (.func 64) #[] #[]] w fun e w' => (∃ z : Int, e = .returned (.int .i64 z) ∧ decide (0 ≤ z) = !dn L) ∧ Below w.heap.size w w' := by
  have hl := hr.2.1
  have HR := hide hr
  clear hr
  go_enter Tryd.func70, Tryd.ntmps70
  go_wp2_with fail
  go_loopw [8] (fun i wr => ∃ k : Nat, k ≤ n ∧ i = .int .i64 (k : Int) ∧ Hid (dn (L.take k) = true) ∧ Hid (Below w.heap.size w wr)) (fun i _ => n - (intOf i).toNat)
  case atStart => exact ⟨0, Nat.zero_le _, rfl, rfl, Below.refl _ _⟩
  case round =>
    obtain ⟨k, hk, rfl, HJ, HB⟩ := hrel
    by_cases hlt : k < n
    · have hki : (k : Int) < (n : Int) := by omega
      obtain ⟨b, o, rfl, hbl, e0, e1, e2⟩ := (HR.out.below HB.out).at k hlt
      have HS := hide (dn_snoc L k (by rw [HR.out.1]; exact hlt))
      have HM : Hid ((L.getD k z0).s ≠ 3 → dn L = false) := fun h => all_false k (by rw [HR.out.1]; exact hlt) (decide_eq_false h)
      generalize L.getD k z0 = x at e0 e1 e2 HS HM
      clear hbl
      by_cases hx : x.s = 3
      · have hxb : (x.s != 3) = false := by simpa using hx
        have HSS : Hid (dn (L.take (k + 1)) = true) := by show _ = _; rw [HS.out, HJ.out, decide_eq_true hx]; rfl
        clear hx
        go_wp2_with (refine (notDone_any x _).mono ?_; rw [hxb]; clear e0 e1 e2; rintro e w2 ⟨rfl, hb⟩; have HB2 := hide (below_trans HB.out hb); clear hb)
        go_roundw
        case rel => exact ⟨k + 1, by omega, by go_num, HSS, HB2⟩
        case measure => (simp [intOf] <;> omega)
      · have hxb : (x.s != 3) = true := by simpa using hx
        have HMM := hide (HM.out hx)
        clear hx
        go_wp2_with (refine (notDone_any x _).mono ?_; rw [hxb]; clear e0 e1 e2; rintro e w2 ⟨rfl, hb⟩; have HB2 := hide (below_trans HB.out hb); clear hb)
        go_ret
        exact ⟨⟨_, rfl, by rw [HMM.out]; exact decide_eq_true (by omega)⟩, HB2.out⟩
    · obtain rfl : k = n := by omega
      have hki : ¬ (k : Int) < (k : Int) := by omega
      go_wp2_with fail
      go_ret
      refine ⟨⟨_, rfl, ?_⟩, HB.out⟩
      have := HJ.out
      rw [← HR.out.1, List.take_length] at this
      rw [this]; rfl
theorem containsFunc_any (a : Option Addr) (n c : Nat) (L : List TS) (w : World) (hr : RdT w a n L) :
    Calls Tryd.prog 63 #[.slice a n c, .func (.func 64) #[] #[]] w fun e w' => e = .returned (.bool (!dn L)) ∧ Below w.heap.size w w' := by
  have HI := hide (indexFunc_any a n c L w hr)
  go_enter Tryd.func63, Tryd.ntmps63
  go_wp2_with fail
  refine HI.out.mono ?_
  rintro e w2 ⟨⟨z, rfl, hz⟩, hb⟩
  have HZ := hide hz
  have HB := hide hb
  clear hz hb
  by_cases h : 0 ≤ z
  · have h2 := decide_eq_true h
    go_wp2
    go_ret
    exact ⟨ret_bool (h2.symm.trans HZ.out), HB.out⟩
  · have h2 := decide_eq_false h
    go_wp2
    go_ret
    exact ⟨ret_bool (h2.symm.trans HZ.out), HB.out⟩
theorem areDone_any (a : Option Addr) (n c : Nat) (L : List TS) (w : World) (hr : RdT w a n L) :
    Calls Tryd.prog 34 #[.slice a n c] w fun e w' => e = .returned (.bool (dn L)) ∧ Below w.heap.size w w' := by
  have HI := hide (containsFunc_any a n c L w hr)
  have HD : Hid ((!(!dn L)) = dn L) := by cases dn L <;> rfl
  generalize dn L = D at HI HD ⊢
  go_enter Tryd.func34, Tryd.ntmps34
  go_wp2_with fail
  refine HI.out.mono ?_
  rintro e w2 ⟨rfl, hb⟩
  have HB := hide hb
  clear hb
  go_wp2
  go_ret
  exact ⟨ret_bool (by cases D <;> rfl), HB.out⟩
/-- May tasks of a kind be begun at all? -/
def isOp (b : Bk) (K : Int) : Bool := !b.f && (decide (K = 0) || dn b.m)
theorem isOpen_any (b : Bk) (K : Int) (a1 a2 : Option Addr) (n1 c1 n2 c2 : Nat) (w : World) (hr1 : RdT w a1 n1 b.m) :
    Calls Tryd.prog 35 #[.agg #[.int .i64 b.t, .slice a1 n1 c1, .slice a2 n2 c2, .bool b.f], .int .i64 K] w fun e w' => e = .returned (.bool (isOp b K)) ∧ Below w.heap.size w w' := by
  obtain ⟨t, M, R, f⟩ := b
  simp only at hr1 ⊢
  obtain ⟨w1, hw1⟩ : ∃ w1, w.alloc (.cells #[.int .i64 t, .slice a1 n1 c1, .slice a2 n2 c2, .bool f] 26) = w1 := ⟨_, rfl⟩
  have HB1 : Hid (Below w.heap.size w w1) := by rw [← hw1]; exact (Below.refl _ _).alloc (Nat.le_refl _) _
  have hC1 : BC w1 w.heap.size t (.slice a1 n1 c1) (.slice a2 n2 c2) f := by rw [← hw1]; exact bc_new _ _ _ _ _
  have HR1 := hide (hr1.below HB1.out)
  obtain ⟨g, hg⟩ : ∃ g, w.heap.size = g := ⟨_, rfl⟩
  rw [hg] at hC1
  have HG := hide hg
  have x1 := hC1.c1
  have x3 := hC1.c3
  clear hC1 hr1
  go_enter Tryd.func35, Tryd.ntmps35
  cases f with
  | true =>
    go_wp2_with fail
    go_ret
    exact ⟨rfl, by first | exact HB1.out | (have h := HB1.out; rw [HG.out] at h; exact h)⟩
  | false =>
    by_cases h0 : K = 0
    · subst h0
      go_wp2_with fail
      go_ret
      exact ⟨rfl, by first | exact HB1.out | (have h := HB1.out; rw [HG.out] at h; exact h)⟩
    · have hb0 : (K == 0) = false := by simpa using h0
      have HV : Hid (isOp ⟨t, M, R, false⟩ K = dn M) := by show _ = _; simp [isOp, h0]
      rw [HV.out]
      clear h0 HV
      go_wp2_with (refine (areDone_any a1 n1 c1 M _ HR1.out).mono ?_; clear hw1 x1 x3; rintro e w2 ⟨rfl, hb⟩; have HB2 := hide (below_trans HB1.out hb); clear hb)
      go_ret
      exact ⟨rfl, by first | exact HB2.out | (have h := HB2.out; rw [HG.out] at h; exact h)⟩
end Go.Proofs.YtgpfabblmoffiaaDoor.Lg
