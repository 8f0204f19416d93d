/-
  The document's plans: New, Left.
-/
import Derived.Test.YtbmbhcjocgbbpaaFaPlanC
import Derived.Test.YtbmbhcjocgbbpaaFaRChk
import Derived.Test.YtbmbhcjocgbbpaaFaComesM
namespace Go.Proofs.Ytbmbhcjocgbbpaa.Fa
open Go.ChangeShapes Go.WideShapes Go.ChangeAt Go.RowKit
open Go.Proofs.Ytbmbhcjocgbbpaa.Base
set_option linter.unusedVariables false
/-- A plan of the document lies in the block p: its list is lv. -/
def RPl (w : World) (p : Nat) (lv : Value) : Prop := w.heap[p]? = some (.cells #[lv] 77)
theorem RPl.lt {w : World} {p : Nat} {lv : Value} (h : RPl w p lv) : p < w.heap.size := (Array.getElem?_eq_some_iff.1 h).1
theorem RPl.below {w w' : World} {p : Nat} {lv : Value} (h : RPl w p lv) (hb : Below w.heap.size w w') : RPl w' p lv := (hb.block p h.lt).trans h
theorem RPl.grown {w w' : World} {p : Nat} {lv : Value} {q : Option Nat} (h : RPl w p lv) (hb : w.grownBy w' q) (hne : q ≠ some p) : RPl w' p lv := (hb.block p h.lt (fun e => hne e.symm)).trans h
theorem RPl.cell {w : World} {p : Nat} {lv : Value} (h : RPl w p lv) : w.cell? ⟨p, 0, none⟩ = some lv := by rw [cell_of_row _ _ _ _ _ _ h]; rfl
theorem RPl.fz {w : World} {p : Nat} {lv : Value} (h : RPl w p lv) : w.frozen? ⟨p, 0, none⟩ = false := frozen_of_row _ _ _ _ _ h
theorem RPl.set {w : World} {p : Nat} {lv : Value} (h : RPl w p lv) (lv' : Value) : RPl (w.setCell ⟨p, 0, none⟩ lv') p lv' := by
  unfold RPl
  rw [heap_setCell_same _ _ 0 _ _ _ h]
  rfl
theorem RPl.ne {w : World} {p base g n c : Nat} {lv : Value} {fs : List Flt} (h : RPl w p lv) (ho : OwnL w base (.slice (some ⟨g, 0, none⟩) n c) fs) : g ≠ p := by
  rintro rfl
  rcases ho.2 with ⟨e, _⟩ | ⟨g', cap, cur, e, _, h3, _⟩
  · cases e
  · simp only [Value.slice.injEq, Option.some.injEq, Addr.mk.injEq, and_true] at e
    obtain ⟨rfl, _⟩ := e
    rw [RPl, h3] at h
    simp at h
theorem RPl.apart {w : World} {p base : Nat} {lv v : Value} {fs : List Flt} (h : RPl w p lv) (ho : OwnL w base v fs) : ∀ i, v.ownBlock = some i → i ≠ p := by
  intro i e
  obtain ⟨a, c, rfl, _, _⟩ := ho.shape
  cases a with
  | none => cases e
  | some ad =>
    rcases ho.2 with ⟨e2, _⟩ | ⟨g', cap, cur, e2, _⟩
    · cases e2
    · simp only [Value.slice.injEq, Option.some.injEq] at e2
      obtain ⟨rfl, _, rfl⟩ := e2
      have : g' = i := Option.some.inj e
      subst this
      exact h.ne ho
set_option maxHeartbeats 1000000 in
set_option maxRecDepth 100000 in
theorem rleft_any (p lb n cap : Nat) (la : Option Addr) (fs : List Flt) (w : World) (hp : RPl w p (.slice la n cap)) (ho : OwnL w lb (.slice la n cap) fs) (hn : n ≤ 1048576) :
    Calls Try.prog 28 #[.pointer (some ⟨p, 0, none⟩)] w fun e w' => ∃ v, e = .returned v ∧ OwnL w' w.heap.size v fs ∧ Below w.heap.size w w' := by
  have hpc := hp.cell
  have HRL := hide ho.rdl
  have HLN := hide ho.len
  obtain ⟨w1, hw1⟩ : ∃ w1, w.alloc (.cells #[] 25) = w1 := ⟨_, rfl⟩
  obtain ⟨g1, hg1⟩ : ∃ g1, w.heap.size = g1 := ⟨_, rfl⟩
  have HE : Hid (OwnL w1 w.heap.size (.slice (some ⟨g1, 0, none⟩) 0 0) []) := by rw [← hw1, ← hg1]; exact ownl_empty w w.heap.size (Nat.le_refl _)
  have HB1 : Hid (Below w.heap.size w w1) := by rw [← hw1]; exact ba (b0 _) _
  have hpc1 := (hp.below HB1.out).cell
  clear ho hp
  go_enter Try.func28, Try.ntmps28
  go_wp2_with (at_builtin; refine joinFl _ rfl _ _ rfl w.heap.size (.slice (some ⟨g1, 0, none⟩) 0 0) [] rfl HE.out la n cap fs rfl (HRL.out.below HB1.out) HLN.out.2.2 (by simp only [List.length_nil]; omega) HB1.out.size ?_
               intro v w2 ho hg
               have HO := hide ho
               have HB2 : Hid (Below w.heap.size w w2) := HB1.out.grown hg HB1.out.size (fun k e => by have e2 : g1 = k := Option.some.inj e; omega)
               clear ho hg)
  go_ret
  exact ⟨_, rfl, HO.out, HB2.out⟩
set_option maxHeartbeats 1000000 in
set_option maxRecDepth 100000 in
theorem rnew_ok (a : Option Addr) (n cap : Nat) (fs : List Flt) (w : World) (hr : RdL w a n fs) (hnil : a = none → n = 0 ∧ cap = 0) (hk : chk fs = 0) :
    Calls Try.prog 23 #[.slice a n cap] w fun e w' => ∃ p lv, e = .returned (.tuple #[.pointer (some ⟨p, 0, none⟩), .int .i64 0]) ∧ w.heap.size ≤ p ∧ RPl w' p lv ∧ OwnL w' w.heap.size lv fs ∧ Below w.heap.size w w' := by
  have hl := chk_len hk
  rw [hr.1] at hl
  have HR := hide hr
  have HK := hide hk
  have HNIL := hide hnil
  clear hr hk hnil
  go_enter Try.func23, Try.ntmps23
  go_wp2_with fail
  refine (refCheck_any a n cap fs w HR.out).mono ?_
  rintro e w1 ⟨rfl, hb1⟩
  have HB1 := hide hb1
  rw [HK.out]
  obtain ⟨w3, hw3⟩ : ∃ w3, w1.alloc (.cells #[] 25) = w3 := ⟨_, rfl⟩
  obtain ⟨g1, hg1⟩ : ∃ g1, w1.heap.size = g1 := ⟨_, rfl⟩
  have HE : Hid (OwnL w3 w.heap.size (.slice (some ⟨g1, 0, none⟩) 0 0) []) := by rw [← hw3, ← hg1]; exact ownl_empty w1 w.heap.size HB1.out.size
  have HB2 : Hid (Below w.heap.size w w3) := by rw [← hw3]; exact ba HB1.out _
  clear hb1
  go_wp2_with (at_builtin; refine joinFl _ rfl _ _ rfl w.heap.size (.slice (some ⟨g1, 0, none⟩) 0 0) [] rfl HE.out a n cap fs rfl (HR.out.below HB2.out) HNIL.out (by simp only [List.length_nil]; omega) HB2.out.size ?_
               intro v w2 ho hg
               obtain ⟨va, vc, rfl, _, _⟩ := ho.shape
               have HO := hide ho
               have HB3 : Hid (Below w.heap.size w w2) := HB2.out.grown hg HB2.out.size (fun k e => by have e2 : g1 = k := Option.some.inj e; have := HB1.out.size; omega)
               clear ho hg)
  go_ret2
  exact ⟨w2.heap.size, _, rfl, HB3.out.size, heap_alloc_new _ _, HO.out.below (ba (b0 _) _), ba HB3.out _⟩
set_option maxHeartbeats 1000000 in
set_option maxRecDepth 100000 in
theorem rnew_no (a : Option Addr) (n cap : Nat) (fs : List Flt) (w : World) (hr : RdL w a n fs) (hk : chk fs ≠ 0) :
    Calls Try.prog 23 #[.slice a n cap] w fun e w' => e = .returned (.tuple #[.pointer none, .int .i64 (chk fs : Nat)]) ∧ Below w.heap.size w w' := by
  have HR := hide hr
  obtain ⟨K, hK⟩ : ∃ K, chk fs = K := ⟨_, rfl⟩
  rw [hK] at hk ⊢
  have HK := hide hK
  have hki : ((K : Int) != 0) = true := by simp; omega
  clear hr hK hk
  go_enter Try.func23, Try.ntmps23
  go_wp2_with fail
  refine (refCheck_any a n cap fs w HR.out).mono ?_
  rintro e w1 ⟨rfl, hb1⟩
  have HB1 := hide hb1
  rw [HK.out]
  clear hb1
  go_wp2_with fail
  go_ret2
  exact ⟨rfl, HB1.out⟩
end Go.Proofs.Ytbmbhcjocgbbpaa.Fa
