/-
  Copies: bytes.Clone, and a filter's clone.
-/
import Derived.Test.YtpdlpahpefojbaaDoorFiKind
import Derived.Lib.SliceRun
import Derived.Laws.ResultCell
import Derived.Laws.Rows
namespace Go.Proofs.YtpdlpahpefojbaaDoor.Filt
open Go.ChangeShapes Go.WideShapes Go.ChangeAt Go.RowKit
open Go.Proofs.YtpdlpahpefojbaaDoor.Base
set_option linter.unusedVariables false
theorem cloneB_any (a : Option Addr) (len cap : Nat) (bs : List (BitVec 8)) (w : World) (hr : Rd w a len bs) (hnil : a = none → len = 0 ∧ cap = 0) :
    Calls Tryd.prog 44 #[.slice a len cap] w fun e w' => ∃ v, e = .returned v ∧ Own w' w.heap.size v bs ∧ Below w.heap.size w w' := by
  have hl := hr.2.1
  have HR := hide hr
  have heq : ∀ W, (binOp .eql 22 (.slice a len cap) (.slice none 0 0)).run Tryd.prog W = .ok (.bool a.isNone) W := fun W => Lib.run_eql_slice_nil W _ _ a len cap 0 0 Tryd.underlying22
  cases a with
  | none =>
    obtain ⟨rfl, rfl⟩ := hnil rfl
    have hb : bs = [] := List.length_eq_zero_iff.1 hr.1
    subst hb
    clear hr
    go_enter Tryd.func44, Tryd.ntmps44
    go_wp2_with fail
    go_ret
    exact ⟨_, rfl, own_none _ _, Below.refl _ _⟩
  | some ad =>
    have HR1 := hide (hr.below ((Below.refl w.heap.size w).alloc (Nat.le_refl _) (.cells #[] 5)))
    have HO1 : Hid (Own (w.alloc (.cells #[] 5)) w.heap.size (.slice (some ⟨w.heap.size, 0, none⟩) 0 0) []) := own_empty w _ (Nat.le_refl _)
    clear hr
    go_enter Tryd.func44, Tryd.ntmps44
    go_wp2_with (at_builtin; refine join _ rfl _ _ rfl w.heap.size (.slice (some ⟨w.heap.size, 0, none⟩) 0 0) [] rfl HO1.out (some ad) len cap bs rfl HR1.out hnil (by simp; omega) (by simp) ?_
                 intro v3 w3 ho3 hg3
                 rw [List.nil_append] at ho3
                 have HO3 := hide ho3
                 have HB3 : Hid (Below w.heap.size w w3) := ((Below.refl w.heap.size w).alloc (Nat.le_refl _) _).grown hg3 (by simp) (fun i e => by cases e; exact Nat.le_refl _)
                 clear ho3 hg3)
    go_ret
    exact ⟨_, rfl, HO3.out, HB3.out⟩
/-- A filter lies in the block g. -/
def FB (w : World) (g : Nat) (A : Bool) (H : Int) (v : Value) : Prop := w.heap[g]? = some (.cells #[.bool A, .int .i64 H, v] 24)
theorem FB.lt {w : World} {g : Nat} {A : Bool} {H : Int} {v : Value} (h : FB w g A H v) : g < w.heap.size := (Array.getElem?_eq_some_iff.1 h).1
theorem FB.c0 {w : World} {g : Nat} {A : Bool} {H : Int} {v : Value} (h : FB w g A H v) : w.cell? ⟨g, 0, none⟩ = some (.bool A) := by rw [cell_of_row _ _ _ _ _ _ h]; rfl
theorem FB.c1 {w : World} {g : Nat} {A : Bool} {H : Int} {v : Value} (h : FB w g A H v) : w.cell? ⟨g, 1, none⟩ = some (.int .i64 H) := by rw [cell_of_row _ _ _ _ _ _ h]; rfl
theorem FB.c2 {w : World} {g : Nat} {A : Bool} {H : Int} {v : Value} (h : FB w g A H v) : w.cell? ⟨g, 2, none⟩ = some v := by rw [cell_of_row _ _ _ _ _ _ h]; rfl
theorem FB.fz {w : World} {g : Nat} {A : Bool} {H : Int} {v : Value} (h : FB w g A H v) (k : Nat) : w.frozen? ⟨g, k, none⟩ = false := frozen_of_row _ _ _ _ _ h
theorem FB.new (w : World) (A : Bool) (H : Int) (v : Value) : FB (w.alloc (.cells #[.bool A, .int .i64 H, v] 24)) w.heap.size A H v := heap_alloc_new _ _
theorem FB.below {w w' : World} {g : Nat} {A : Bool} {H : Int} {v : Value} (h : FB w g A H v) (hb : Below w.heap.size w w') : FB w' g A H v := (hb.block g h.lt).trans h
theorem FB.grown {w w' : World} {g : Nat} {A : Bool} {H : Int} {v : Value} {q : Option Nat} (h : FB w g A H v) (hb : w.grownBy w' q) (hne : q ≠ some g) : FB w' g A H v := (hb.block g h.lt (fun e => hne e.symm)).trans h
theorem FB.set2 {w : World} {g : Nat} {A : Bool} {H : Int} {v : Value} (h : FB w g A H v) (u : Value) : FB (w.setCell ⟨g, 2, none⟩ u) g A H u := by
  unfold FB
  rw [heap_setCell_same _ _ 2 _ _ _ h]; rfl
theorem FB.set3 {w : World} {g : Nat} {A : Bool} {H : Int} {v : Value} (h : FB w g A H v) (A' : Bool) (H' : Int) (u : Value) : FB (((w.setCell ⟨g, 0, none⟩ (.bool A')).setCell ⟨g, 1, none⟩ (.int .i64 H')).setCell ⟨g, 2, none⟩ u) g A' H' u := by
  unfold FB
  rw [heap_setCell_same _ _ 2 _ _ _ (heap_setCell_same _ _ 1 _ _ _ (heap_setCell_same _ _ 0 _ _ _ h))]; rfl
theorem fb_ret {fn : Func} {p : Tmp} (h : fn.results = #[.cell p 24]) (tmps : Array Value) (w : World) (g : Nat) (A : Bool) (H : Int) (v : Value) (hp : tmps.getD p undef = .pointer (some ⟨g, 0, none⟩)) (hf : FB w g A H v) :
    (results fn tmps).run Tryd.prog w = .ok (.agg #[.bool A, .int .i64 H, v]) w :=
  results_cell_row h tmps w g 24 _ (0, 0) _ hp hf Tryd.underlying24 rfl (by kernel_rfl)
theorem fb_ret2 {fn : Func} {p u : Tmp} (h : fn.results = #[.cell p 24, .tmp u]) (tmps : Array Value) (w : World) (g : Nat) (A : Bool) (H : Int) (v : Value) (hp : tmps.getD p undef = .pointer (some ⟨g, 0, none⟩)) (hf : FB w g A H v) :
    (results fn tmps).run Tryd.prog w = .ok (.tuple #[.agg #[.bool A, .int .i64 H, v], tmps.getD u undef]) w := by
  rw [results_cell_tmp h, hp]
  simp [asAddr, run_loadVar_row w g 24 24 _ (0, 0) _ hf Tryd.underlying24 rfl (by kernel_rfl)]
theorem grown3 (w : World) (g : Nat) (a b c : Value) : w.grownBy (((w.setCell ⟨g, 0, none⟩ a).setCell ⟨g, 1, none⟩ b).setCell ⟨g, 2, none⟩ c) (some g) :=
  grown_cell (grown_cell (grown_cell (World.grownBy.refl _ _) _ _) _ _) _ _
theorem below3 {B : Nat} {w0 w : World} (h : Below B w0 w) {g : Nat} (hg : B ≤ g) (a b c : Value) : Below B w0 (((w.setCell ⟨g, 0, none⟩ a).setCell ⟨g, 1, none⟩ b).setCell ⟨g, 2, none⟩ c) :=
  ((h.setCell hg _).setCell hg _).setCell hg _
set_option maxHeartbeats 1000000 in
set_option maxRecDepth 100000 in
theorem clone_any (A : Bool) (H : Int) (a : Option Addr) (len cap : Nat) (bs : List (BitVec 8)) (w : World) (hr : Rd w a len bs) (hnil : a = none → len = 0 ∧ cap = 0) :
    Calls Tryd.prog 32 #[.agg #[.bool A, .int .i64 H, .slice a len cap]] w fun e w' => ∃ v, e = .returned (.agg #[.bool A, .int .i64 H, v]) ∧ Own w' w.heap.size v bs ∧ Below w.heap.size w w' := by
  obtain ⟨w0, hw0⟩ : ∃ w0, w.alloc (.cells #[.bool A, .int .i64 H, .slice a len cap] 24) = w0 := ⟨_, rfl⟩
  obtain ⟨w1, hw1⟩ : ∃ w1, w0.alloc (.cells #[.bool false, .int .i64 0, .slice none 0 0] 24) = w1 := ⟨_, rfl⟩
  have hb0 : Below w.heap.size w w0 := by rw [← hw0]; exact (Below.refl _ _).alloc (Nat.le_refl _) _
  have hb01 : Below w0.heap.size w0 w1 := by rw [← hw1]; exact (Below.refl _ _).alloc (Nat.le_refl _) _
  have hF0 : FB w0 w.heap.size A H (.slice a len cap) := by rw [← hw0]; exact FB.new _ _ _ _
  have hF1 : FB w1 w.heap.size A H (.slice a len cap) := hF0.below hb01
  have hR1 : FB w1 w0.heap.size false 0 (.slice none 0 0) := by rw [← hw1]; exact FB.new _ _ _ _
  have HB1 : Hid (Below w.heap.size w w1) := hb0.trans (hb01.mono hb0.size)
  obtain ⟨g, hg⟩ : ∃ g, w.heap.size = g := ⟨_, rfl⟩
  obtain ⟨r, hr0⟩ : ∃ r, w0.heap.size = r := ⟨_, rfl⟩
  rw [hg] at hF1
  rw [hr0] at hR1
  have HGR : Hid (g < r) := by rw [← hg, ← hr0]; exact hF0.lt
  have HG := hide hg
  have HF1 := hide hF1
  have HRR := hide hR1
  have f0 := hF1.c0
  have f1 := hF1.c1
  have f2 := hF1.c2
  have HR1 := hide (hr.below HB1.out)
  clear hr hb0 hb01 hF0 hF1 hR1
  go_enter Tryd.func32, Tryd.ntmps32
  go_wp2_with fail
  refine (cloneB_any a len cap bs w1 HR1.out hnil).mono ?_
  rintro e w2 ⟨v, rfl, ho, hb⟩
  obtain ⟨va, vc, rfl⟩ := ho.shape
  have HF2 := hide (HF1.out.below hb)
  have HR2 := hide (HRR.out.below hb)
  have HB2 : Hid (Below w.heap.size w w2) := HB1.out.trans (hb.mono HB1.out.size)
  have HO := hide ho
  have HBLK : Hid (∀ i, (Value.slice va bs.length vc).ownBlock = some i → r < i) := fun i e => by
    have h1 := (World.ownsRow.lt HO.out i e).1
    have h2 := HRR.out.lt
    omega
  clear ho hb f0 f1 f2
  have k2 := HF2.out.c2
  have kz := HF2.out.fz 2
  obtain ⟨w3, hw3⟩ : ∃ w3, w2.setCell ⟨g, 2, none⟩ (.slice va bs.length vc) = w3 := ⟨_, rfl⟩
  have hF3 : FB w3 g A H (.slice va bs.length vc) := by rw [← hw3]; exact HF2.out.set2 _
  have hg3 : w2.grownBy w3 (some g) := by rw [← hw3]; exact grown_cell (World.grownBy.refl _ _) _ _
  have hR3 : FB w3 r false 0 (.slice none 0 0) := HR2.out.grown hg3 (by have := HGR.out; intro e; have := Option.some.inj e; omega)
  have HO3 : Hid (Own w3 w1.heap.size (.slice va bs.length vc) bs) := keep HO.out hg3 (fun i j e1 e2 => by have := HBLK.out i e1; have := HGR.out; have := Option.some.inj e2; omega)
  have HB3 : Hid (Below w.heap.size w w3) := by rw [← hw3]; exact HB2.out.setCell (by show _ ≤ g; rw [HG.out]; exact Nat.le_refl _) _
  have a0 := hF3.c0
  have a1 := hF3.c1
  have a2 := hF3.c2
  have b0 := hR3.c0
  have b1 := hR3.c1
  have b2 := hR3.c2
  have z0 := hR3.fz 0
  have z1 := hR3.fz 1
  have z2 := hR3.fz 2
  have HRE := hide (hR3.set3 A H (.slice va bs.length vc))
  have HG5 := hide (grown3 w3 r (.bool A) (.int .i64 H) (.slice va bs.length vc))
  have HB5 : Hid (Below w.heap.size w (((w3.setCell ⟨r, 0, none⟩ (.bool A)).setCell ⟨r, 1, none⟩ (.int .i64 H)).setCell ⟨r, 2, none⟩ (.slice va bs.length vc))) := below3 HB3.out (by have := HGR.out; have := HG.out; omega) _ _ _
  clear hF3 hR3 hg3
  go_wp2_with fail
  refine bodyPost_ret (fb_ret rfl _ _ r A H (.slice va bs.length vc) rfl HRE.out) rfl ?_
  refine ⟨_, rfl, ?_, ?_⟩
  · exact (keep HO3.out HG5.out (fun i j e1 e2 => by have := HBLK.out i e1; have := Option.some.inj e2; omega)).mono HB1.out.size
  · exact HB5.out
end Go.Proofs.YtpdlpahpefojbaaDoor.Filt
