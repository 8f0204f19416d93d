/-
  The program's plan: New, Stop, Due, Left.
-/
import Derived.Test.YtbmbhcjocgbbpaaFaPlanB
namespace Go.Proofs.Ytbmbhcjocgbbpaa.Fa
open Go.ChangeShapes Go.WideShapes Go.ChangeAt Go.RowKit
open Go.Proofs.Ytbmbhcjocgbbpaa.Base
set_option linter.unusedVariables false
theorem chk_len {fs : List Flt} (h : chk fs = 0) : fs.length ≤ 256 := by
  unfold chk at h
  split at h
  · omega
  · omega
set_option maxHeartbeats 1000000 in
set_option maxRecDepth 100000 in
theorem new_ok (a : Option Addr) (n cap : Nat) (fs : List Flt) (w : World) (hr : RdL w a n fs) (hnil : a = none → n = 0 ∧ cap = 0) (hk : chk fs = 0) :
    Calls Try.prog 15 #[.slice a n cap] w fun e w' => ∃ p lv, e = .returned (.tuple #[.pointer (some ⟨p, 0, none⟩), .int .i64 0]) ∧ w.heap.size ≤ p ∧ PlB w' p lv ∧ OwnL w' w.heap.size lv fs ∧ Below w.heap.size w w' := by
  have hl := chk_len hk
  rw [hr.1] at hl
  have HR := hide hr
  have HK := hide hk
  clear hr hk
  go_enter Try.func15, Try.ntmps15
  go_wp2_with fail
  refine (check_any a n cap fs w HR.out).mono ?_
  rintro e w1 ⟨rfl, hb1⟩
  have HB1 := hide hb1
  rw [HK.out]
  clear hb1
  go_wp2_with fail
  refine (cloneL_any a n cap fs w1 (HR.out.below HB1.out) hnil (by omega)).mono ?_
  rintro e w2 ⟨v, rfl, ho, hb2⟩
  obtain ⟨va, vc, rfl, _, _⟩ := ho.shape
  have HO := hide (ho.base HB1.out.size)
  have HB2 := hide (below_trans HB1.out hb2)
  clear ho hb2
  go_wp2_with fail
  go_ret2
  exact ⟨w2.heap.size, _, rfl, HB2.out.size, heap_alloc_new _ _, HO.out.below (ba (b0 _) _), ba HB2.out _⟩
set_option maxHeartbeats 1000000 in
set_option maxRecDepth 100000 in
theorem new_no (a : Option Addr) (n cap : Nat) (fs : List Flt) (w : World) (hr : RdL w a n fs) (hk : chk fs ≠ 0) :
    Calls Try.prog 15 #[.slice a n cap] w fun e w' => e = .returned (.tuple #[.pointer none, .int .i64 (chk fs : Nat)]) ∧ Below w.heap.size w w' := by
  have HR := hide hr
  obtain ⟨K, hK⟩ : ∃ K, chk fs = K := ⟨_, rfl⟩
  rw [hK] at hk ⊢
  have HK := hide hK
  have hki : ((K : Int) != 0) = true := by simp; omega
  clear hr hK hk
  go_enter Try.func15, Try.ntmps15
  go_wp2_with fail
  refine (check_any a n cap fs w HR.out).mono ?_
  rintro e w1 ⟨rfl, hb1⟩
  have HB1 := hide hb1
  rw [HK.out]
  clear hb1
  go_wp2_with fail
  go_ret2
  exact ⟨rfl, HB1.out⟩
/-- What Stop tells of the entries that are taken. -/
def stopV : List Flt → Int × Bool
  | [] => (0, false)
  | f :: _ => (f.p, true)
set_option maxHeartbeats 1000000 in
set_option maxRecDepth 100000 in
theorem pstop_any (k t at_ : Int) (p lb n cap : Nat) (la : Option Addr) (fs : List Flt) (w : World) (hp : PlB w p (.slice la n cap)) (ho : OwnL w lb (.slice la n cap) fs) (hn : n ≤ 1048576) :
    Calls Try.prog 17 #[.pointer (some ⟨p, 0, none⟩), .int .i64 k, .int .i64 t, .int .i64 at_] w fun e w' => ∃ lv, e = .returned (.tuple #[.int .i64 (stopV (fs.filter (isStop ((0, k, t, at_) : P4)))).1, .bool (stopV (fs.filter (isStop ((0, k, t, at_) : P4)))).2]) ∧ OwnL w' w.heap.size lv (fs.filter (fun f => !isStop ((0, k, t, at_) : P4) f)) ∧ PlB w' p lv ∧ w.grownBy w' (some p) := by
  obtain ⟨w0, hw0⟩ : ∃ w0, w.alloc (.cells #[.int .i64 0, .int .i64 k, .int .i64 t, .int .i64 at_] 71) = w0 := ⟨_, rfl⟩
  have HC0 : Hid (PB w0 w.heap.size ((0, k, t, at_) : P4)) := by show PB _ _ _; rw [← hw0]; exact heap_alloc_new _ _
  have HB0 : Hid (Below w.heap.size w w0) := by show Below _ _ _; rw [← hw0]; exact ba (b0 _) _
  have HP := hide (hp.below HB0.out)
  have HO := hide (ho.below HB0.out)
  generalize ((0, k, t, at_) : P4) = x at HC0 ⊢
  clear hp ho
  go_enter Try.func17, Try.ntmps17
  go_wp2_with fail
  refine (take_stop x w.heap.size p lb n cap la fs _ HC0.out HP.out HO.out hn).mono ?_
  rintro e w1 ⟨v, lv, rfl, hv, hlv, hpl, hap, hg⟩
  obtain ⟨va, vc, rfl, _, _⟩ := hv.shape
  have HV := hide hv
  have HLV := hide (hlv.base HB0.out.size)
  have HPL := hide hpl
  have HG : Hid (w.grownBy w1 (some p)) := grown_trans (grown_any (below_grown HB0.out) _) hg
  clear hv hlv hpl hap hg
  obtain ⟨L, hL⟩ : ∃ L, fs.filter (isStop x) = L := ⟨_, rfl⟩
  rw [hL] at HV ⊢
  have HLE := hide hL
  clear hL
  cases L with
  | nil =>
    go_wp2_with fail
    go_ret2
    exact ⟨lv, by rw [HLE.out]; rfl, HLV.out, HPL.out, HG.out⟩
  | cons f r =>
    obtain ⟨b1, o1, rfl, hl1, hc1⟩ := HV.out.rdl.2 (by simp)
    obtain ⟨p0, p1, p2, p3, p4, p5, p6, p7⟩ := hc1 0 (by simp)
    rw [Nat.zero_mul, Nat.add_zero] at p0 p1 p2 p3 p4 p5 p6 p7
    rw [List.getD_cons_zero] at p0 p1 p2 p3 p4 p5 p6 p7
    clear hc1
    generalize hM : (f :: r).length = M
    have hM0 : (0 : Int) < (M : Int) := by rw [← hM]; simp
    have hM1 : ((M : Int) == 0) = false := by simp; omega
    clear hM
    go_wp2_with fail
    go_ret2
    exact ⟨lv, by rw [HLE.out]; rfl, HLV.out, HPL.out, HG.out⟩
/-- The reader that Due looks at. -/
def rdr (m r : Int) : Int := if m = 2 then r else 0
set_option maxHeartbeats 1000000 in
set_option maxRecDepth 100000 in
theorem pdue_any (t at_ m r : Int) (p lb n cap : Nat) (la : Option Addr) (fs : List Flt) (w : World) (hp : PlB w p (.slice la n cap)) (ho : OwnL w lb (.slice la n cap) fs) (hn : n ≤ 1048576) :
    Calls Try.prog 18 #[.pointer (some ⟨p, 0, none⟩), .int .i64 t, .int .i64 at_, .int .i64 m, .int .i64 r] w fun e w' => ∃ v lv, e = .returned v ∧ OwnL w' w.heap.size v (fs.filter (isDue (t, at_, m, rdr m r))) ∧ OwnL w' w.heap.size lv (fs.filter (fun f => !isDue (t, at_, m, rdr m r) f)) ∧ PlB w' p lv ∧ Ap2 v lv ∧ w.grownBy w' (some p) := by
  obtain ⟨R, hR⟩ : ∃ R, rdr m r = R := ⟨_, rfl⟩
  rw [hR]
  obtain ⟨w0, hw0⟩ : ∃ w0, w.alloc (.cells #[.int .i64 t, .int .i64 at_, .int .i64 m, .int .i64 R] 75) = w0 := ⟨_, rfl⟩
  have HC0 : Hid (IB w0 w.heap.size (t, at_, m, R)) := by show IB _ _ _; rw [← hw0]; exact heap_alloc_new _ _
  have HB0 : Hid (Below w.heap.size w w0) := by show Below _ _ _; rw [← hw0]; exact ba (b0 _) _
  have HP := hide (hp.below HB0.out)
  have HO := hide (ho.below HB0.out)
  generalize hx : (t, at_, m, R) = x at HC0 ⊢
  clear hp ho hx
  by_cases hm : m = 2
  · have hm' : (m != 2) = false := by simpa using hm
    have hRr : R = r := by rw [← hR]; unfold rdr; rw [if_pos hm]
    subst hRr
    clear hR hm
    go_enter Try.func18, Try.ntmps18
    go_wp2_with fail
    refine (take_due x w.heap.size p lb n cap la fs _ HC0.out HP.out HO.out hn).mono ?_
    rintro e w1 ⟨v, lv, rfl, hv, hlv, hpl, hap, hg⟩
    have HV := hide (hv.base HB0.out.size)
    have HLV := hide (hlv.base HB0.out.size)
    have HPL := hide hpl
    have HAP := hide hap
    have HG : Hid (w.grownBy w1 (some p)) := grown_trans (grown_any (below_grown HB0.out) _) hg
    clear hv hlv hpl hap hg
    go_wp2_with fail
    go_ret
    exact ⟨_, lv, rfl, HV.out, HLV.out, HPL.out, HAP.out, HG.out⟩
  · have hm' : (m != 2) = true := by simpa using hm
    have hRr : R = 0 := by rw [← hR]; unfold rdr; rw [if_neg hm]
    subst hRr
    subst hw0
    clear hR hm
    go_enter Try.func18, Try.ntmps18
    go_wp2_with fail
    refine (take_due x w.heap.size p lb n cap la fs _ HC0.out HP.out HO.out hn).mono ?_
    rintro e w1 ⟨v, lv, rfl, hv, hlv, hpl, hap, hg⟩
    have HV := hide (hv.base HB0.out.size)
    have HLV := hide (hlv.base HB0.out.size)
    have HPL := hide hpl
    have HAP := hide hap
    have HG : Hid (w.grownBy w1 (some p)) := grown_trans (grown_any (below_grown HB0.out) _) hg
    clear hv hlv hpl hap hg
    go_wp2_with fail
    go_ret
    exact ⟨_, lv, rfl, HV.out, HLV.out, HPL.out, HAP.out, HG.out⟩
set_option maxHeartbeats 1000000 in
set_option maxRecDepth 100000 in
theorem pleft_any (p lb n cap : Nat) (la : Option Addr) (fs : List Flt) (w : World) (hp : PlB w p (.slice la n cap)) (ho : OwnL w lb (.slice la n cap) fs) (hn : n ≤ 1048576) :
    Calls Try.prog 19 #[.pointer (some ⟨p, 0, none⟩)] w fun e w' => ∃ v, e = .returned v ∧ OwnL w' w.heap.size v fs ∧ Below w.heap.size w w' := by
  have hc := hp.cell
  have HO := hide ho
  clear hp ho
  go_enter Try.func19, Try.ntmps19
  go_wp2_with fail
  refine (cloneL_any la n cap fs w HO.out.rdl HO.out.len.2.2 (by omega)).mono ?_
  rintro e w1 ⟨v, rfl, hv, hb⟩
  have HV := hide hv
  have HB := hide hb
  clear hv hb
  go_wp2_with fail
  go_ret
  exact ⟨_, rfl, HV.out, HB.out⟩
end Go.Proofs.Ytbmbhcjocgbbpaa.Fa
