/-
  A source that is played: what it tells, and what it counts.
-/
import Derived.Test.YtcnfkgmefikcjaaMeReplay
namespace Go.Proofs.Ytcnfkgmefikcjaa.Me
open Go.ChangeShapes Go.WideShapes Go.ChangeAt Go.RowKit
open Go.Proofs.Ytcnfkgmefikcjaa.Base
set_option linter.unusedVariables false
/-- A source that is played. -/
structure Fd where
  a : Option Addr
  c : Nat
  ts : List Th
  fin : Int
  at_ : Nat
  asks : Nat
  over : Bool
  bad : Bool
def th0 : Th := ⟨0, 0⟩
/-- The slice reads as things. -/
def RdH (w : World) (a : Option Addr) (ts : List Th) : Prop :=
  0 < ts.length → ∃ b off, a = some ⟨b, off, none⟩ ∧ b < w.heap.size ∧ ∀ j, j < ts.length → w.cell? ⟨b, off + j * 2, none⟩ = some (.int .i64 (ts.getD j th0).key) ∧ w.cell? ⟨b, off + j * 2 + 1, none⟩ = some (.int .i64 (ts.getD j th0).name)
def FB (w : World) (g : Nat) (f : Fd) : Prop := w.heap[g]? = some (.cells #[.slice f.a f.ts.length f.c, .int .i64 f.fin, .int .i64 (f.at_ : Int), .int .i64 (f.asks : Int), .bool f.over, .bool f.bad] 48)
theorem FB.same {w w' : World} {g : Nat} {f : Fd} (h : FB w g f) (e : w'.heap[g]? = w.heap[g]?) : FB w' g f := e.trans h
theorem FB.cells {w : World} {g : Nat} {f : Fd} (h : FB w g f) : w.cell? ⟨g, 0, none⟩ = some (.slice f.a f.ts.length f.c) ∧ w.cell? ⟨g, 1, none⟩ = some (.int .i64 f.fin) ∧ w.cell? ⟨g, 2, none⟩ = some (.int .i64 (f.at_ : Int)) ∧ w.cell? ⟨g, 3, none⟩ = some (.int .i64 (f.asks : Int)) ∧ w.cell? ⟨g, 4, none⟩ = some (.bool f.over) ∧ w.cell? ⟨g, 5, none⟩ = some (.bool f.bad) := by
  refine ⟨?_, ?_, ?_, ?_, ?_, ?_⟩ <;> (rw [cell_of_row _ _ _ _ _ _ h]; rfl)
theorem FB.frozen {w : World} {g : Nat} {f : Fd} (h : FB w g f) (k : Nat) : w.frozen? ⟨g, k, none⟩ = false := frozen_of_row _ _ _ _ _ h
def Fd.next (f : Fd) : Fd := if f.at_ < f.ts.length then { f with at_ := f.at_ + 1, asks := f.asks + 1, bad := f.bad || f.over } else { f with asks := f.asks + 1, over := true, bad := f.bad || f.over }
def Fd.th (f : Fd) : Th := if f.at_ < f.ts.length then f.ts.getD f.at_ th0 else ⟨-99, -99⟩
def Fd.err (f : Fd) : Int := if f.at_ < f.ts.length then 0 else f.fin
theorem set2 {w : World} {g : Nat} {v0 v1 v2 v3 v4 v5 : Value} {t : TypeId} (h : w.heap[g]? = some (.cells #[v0, v1, v2, v3, v4, v5] t)) (v : Value) : (w.setCell ⟨g, 2, none⟩ v).heap[g]? = some (.cells #[v0, v1, v, v3, v4, v5] t) := heap_setCell_same _ _ _ _ _ _ h
theorem set3 {w : World} {g : Nat} {v0 v1 v2 v3 v4 v5 : Value} {t : TypeId} (h : w.heap[g]? = some (.cells #[v0, v1, v2, v3, v4, v5] t)) (v : Value) : (w.setCell ⟨g, 3, none⟩ v).heap[g]? = some (.cells #[v0, v1, v2, v, v4, v5] t) := heap_setCell_same _ _ _ _ _ _ h
theorem set4 {w : World} {g : Nat} {v0 v1 v2 v3 v4 v5 : Value} {t : TypeId} (h : w.heap[g]? = some (.cells #[v0, v1, v2, v3, v4, v5] t)) (v : Value) : (w.setCell ⟨g, 4, none⟩ v).heap[g]? = some (.cells #[v0, v1, v2, v3, v, v5] t) := heap_setCell_same _ _ _ _ _ _ h
theorem set5 {w : World} {g : Nat} {v0 v1 v2 v3 v4 v5 : Value} {t : TypeId} (h : w.heap[g]? = some (.cells #[v0, v1, v2, v3, v4, v5] t)) (v : Value) : (w.setCell ⟨g, 5, none⟩ v).heap[g]? = some (.cells #[v0, v1, v2, v3, v4, v] t) := heap_setCell_same _ _ _ _ _ _ h
/-- The world behind the first two writes. -/
theorem counted {w : World} {g : Nat} {f : Fd} (h : FB w g f) (y : Bool) (k : Int) (hk : k = (f.asks : Int) + 1) (R : Obj) : FB (((w.setCell ⟨g, 3, none⟩ (.int .i64 k)).setCell ⟨g, 5, none⟩ (.bool y)).alloc R) g { f with asks := f.asks + 1, bad := y } ∧ w.grownBy (((w.setCell ⟨g, 3, none⟩ (.int .i64 k)).setCell ⟨g, 5, none⟩ (.bool y)).alloc R) (some g) ∧ (((w.setCell ⟨g, 3, none⟩ (.int .i64 k)).setCell ⟨g, 5, none⟩ (.bool y)).alloc R).heap[w.heap.size]? = some R ∧ (((w.setCell ⟨g, 3, none⟩ (.int .i64 k)).setCell ⟨g, 5, none⟩ (.bool y)).alloc R).heap.size = w.heap.size + 1 := by
  have hl := lt_row h
  have z : ((w.setCell ⟨g, 3, none⟩ (.int .i64 k)).setCell ⟨g, 5, none⟩ (.bool y)).heap.size = w.heap.size := by simp
  have b : Below ((w.setCell ⟨g, 3, none⟩ (.int .i64 k)).setCell ⟨g, 5, none⟩ (.bool y)).heap.size ((w.setCell ⟨g, 3, none⟩ (.int .i64 k)).setCell ⟨g, 5, none⟩ (.bool y)) (((w.setCell ⟨g, 3, none⟩ (.int .i64 k)).setCell ⟨g, 5, none⟩ (.bool y)).alloc R) := (Below.refl _ _).alloc (Nat.le_refl _) _
  have e : ((w.setCell ⟨g, 3, none⟩ (.int .i64 k)).setCell ⟨g, 5, none⟩ (.bool y)).heap[g]? = some (.cells #[.slice f.a f.ts.length f.c, .int .i64 f.fin, .int .i64 (f.at_ : Int), .int .i64 k, .bool f.over, .bool y] 48) := set5 (set3 h _) _
  refine ⟨?_, grown_trans (grown_cell (grown_cell (World.grownBy.refl _ _) _ _) _ _) (grown_any b _), ?_, ?_⟩
  · refine (b.block g (by rw [z]; exact hl)).trans ?_
    rw [e, hk]
    rfl
  · have q := heap_alloc_new ((w.setCell ⟨g, 3, none⟩ (.int .i64 k)).setCell ⟨g, 5, none⟩ (.bool y)) R
    rw [z] at q
    exact q
  · simp
/-- What is wanted of the world in the midst of next. -/
structure Mid (w V : World) (g : Nat) (f : Fd) : Prop where
  f : FB V g f
  g : w.grownBy V (some g)
  r : V.heap[w.heap.size]? = some (.cells #[.int .i64 0, .int .i64 0] 36)
theorem Mid.below {w V V' : World} {g : Nat} {f : Fd} (h : Mid w V g f) (hb : Below V.heap.size V V') : Mid w V' g f :=
  ⟨h.f.same (hb.block g (lt_row h.f)), grown_trans h.g (grown_any hb _), (hb.block _ (lt_row h.r)).trans h.r⟩
theorem two_of {w : World} {g : Nat} {v0 v1 : Value} {ty : Nat} (h : w.heap[g]? = some (.cells #[v0, v1] ty)) : w.cell? ⟨g, 0, none⟩ = some v0 ∧ w.cell? ⟨g, 1, none⟩ = some v1 := by
  refine ⟨?_, ?_⟩ <;> (rw [cell_of_row _ _ _ _ _ _ h]; rfl)
theorem results_th {fn : Func} {p u v : Tmp} (h : fn.results = #[.cell p 36, .tmp u, .tmp v]) (tmps : Array Value) (w : World) (g : Nat) (x y : Value) (hp : tmps.getD p undef = .pointer (some ⟨g, 0, none⟩)) (ht : w.heap[g]? = some (.cells #[x, y] 36)) :
    (results fn tmps).run Try.prog w = .ok (.tuple #[.agg #[x, y], tmps.getD u undef, tmps.getD v undef]) w := by
  have hp' : tmps[p]?.getD undef = .pointer (some ⟨g, 0, none⟩) := by simpa using hp
  simp [results, h, hp', asAddr, run_loadVar_row w g 36 36 _ (0, 0) _ ht Try.underlying36 rfl (by kernel_rfl)]
set_option maxHeartbeats 4000000 in
set_option maxRecDepth 100000 in
theorem next_any (g : Nat) (f : Fd) (w : World) (hF : FB w g f) (hR : RdH w f.a f.ts) (hne : ∀ b off, f.a = some ⟨b, off, none⟩ → 0 < f.ts.length → b ≠ g) (hk : f.asks ≤ 4611686018427387904) (hl : f.ts.length ≤ 4611686018427387904) :
    Calls Try.prog 10 #[.pointer (some ⟨g, 0, none⟩)] w fun e w' => e = .returned (.tuple #[f.th.val, .bool (decide (f.at_ < f.ts.length)), .int .i64 f.err]) ∧ FB w' g f.next ∧ w.grownBy w' (some g) := by
  obtain ⟨a, c, ts, fin, at_, asks, over, bad⟩ := f
  obtain ⟨c0, c1, c2, c3, c4, c5⟩ := hF.cells
  have f3 := hF.frozen 3
  have f5 := hF.frozen 5
  simp only at c0 c1 c2 c3 c4 c5 hR hne hk hl
  have HF := hide hF
  have hgl : g < w.heap.size := lt_row hF
  have hgz : ¬ g = w.heap.size := by omega
  have hwa : IntKind.i64.wrap ((asks : Int) + 1) = (asks : Int) + 1 := by rw [IntKind.wrap_i64]; omega
  unfold Fd.next Fd.th Fd.err
  simp only
  clear hF
  obtain ⟨w2, hw2⟩ : ∃ w2, (((w.setCell ⟨g, 3, none⟩ (.int .i64 ((asks : Int) + 1))).setCell ⟨g, 5, none⟩ (.bool (bad || over))).alloc (.cells #[.int .i64 0, .int .i64 0] 36)) = w2 := ⟨_, rfl⟩
  have HM2 : Hid (Mid w w2 g ⟨a, c, ts, fin, at_, asks + 1, over, bad || over⟩) := by
    obtain ⟨q1, q2, q3, _⟩ := counted HF.out (bad || over) ((asks : Int) + 1) rfl (.cells #[.int .i64 0, .int .i64 0] 36)
    rw [hw2] at q1 q2 q3
    exact ⟨q1, q2, q3⟩
  have HC : Hid (∀ V, Mid w V g ⟨a, c, ts, fin, at_, asks + 1, over, bad || over⟩ → V.cell? ⟨g, 0, none⟩ = some (.slice a ts.length c) ∧ V.cell? ⟨g, 1, none⟩ = some (.int .i64 fin) ∧ V.cell? ⟨g, 2, none⟩ = some (.int .i64 (at_ : Int)) ∧ V.cell? ⟨g, 4, none⟩ = some (.bool over)) := fun V h => by
    obtain ⟨q0, q1, q2, q3, q4, q5⟩ := h.f.cells
    exact ⟨q0, q1, q2, q4⟩
  obtain ⟨e0, e1, e2, e4⟩ := HC.out w2 HM2.out
  by_cases h : at_ < ts.length
  · rw [if_pos h, if_pos h, if_pos h]
    have hii : (at_ : Int) < (ts.length : Int) := by omega
    obtain ⟨b, off, rfl, hbl, hcs⟩ := hR (by omega)
    obtain ⟨d0, d1⟩ := hcs at_ h
    have hbg := hne b off rfl (by omega)
    obtain ⟨m, hm⟩ : ∃ m : Nat, at_ + 1 = m := ⟨_, rfl⟩
    have hwt : IntKind.i64.wrap ((at_ : Int) + 1) = (m : Int) := by rw [IntKind.wrap_i64]; omega
    rw [hm]
    have HMM := hide hm
    clear hm
    generalize ts.getD at_ th0 = t at *
    obtain ⟨tk, tn⟩ := t
    unfold Th.val
    have HD : Hid (∀ V, Mid w V g ⟨some ⟨b, off, none⟩, c, ts, fin, at_, asks + 1, over, bad || over⟩ → V.cell? ⟨b, off + at_ * 2, none⟩ = some (.int .i64 tk) ∧ V.cell? ⟨b, off + at_ * 2 + 1, none⟩ = some (.int .i64 tn)) := fun V h => by
      have hb := h.g.block b hbl (by simpa using hbg)
      exact ⟨(World.cell?_of_block (a := ⟨b, off + at_ * 2, none⟩) hb).trans d0, (World.cell?_of_block (a := ⟨b, off + at_ * 2 + 1, none⟩) hb).trans d1⟩
    have HDB := hide (And.intro d0 d1)
    have HZ : Hid (w.heap.size ≠ g ∧ w.heap.size ≠ b) := ⟨by omega, by omega⟩
    clear hcs hR hne
    cases bad with
    | false =>
      simp only [Bool.false_or] at hw2 HM2 HC HD ⊢
      go_enter Try.func10, Try.ntmps10
      go_upto_region 3 with fail
      go_quiet (fail)
      clear d0 d1 c0 c1 c2 c3 c4 c5 f3 f5 e0 e1 e2 e4 hgl hgz
      obtain ⟨w3, hw3⟩ : ∃ w3, w2.drewN nq = w3 := ⟨_, rfl⟩
      have HM3 : Hid (Mid w w3 g ⟨some ⟨b, off, none⟩, c, ts, fin, at_, asks + 1, over, over⟩) := by rw [← hw3]; exact HM2.out.below (below_drewN' _ _ _)
      rw [hw3]
      obtain ⟨e0, e1, e2, e4⟩ := HC.out w3 HM3.out
      obtain ⟨d0, d1⟩ := HD.out w3 HM3.out
      have f2 := HM3.out.f.frozen 2
      clear hw3
      obtain ⟨w4, hw4⟩ : ∃ w4, w3.setCell ⟨g, 2, none⟩ (.int .i64 (m : Int)) = w4 := ⟨_, rfl⟩
      have HM4 : Hid (Mid w w4 g ⟨some ⟨b, off, none⟩, c, ts, fin, m, asks + 1, over, over⟩) := by
        rw [← hw4]
        refine ⟨?_, grown_cell HM3.out.g _ _, (Below.heap_setCell _ _ _ _ HZ.out.1).trans HM3.out.r⟩
        have q := set2 HM3.out.f (.int .i64 (m : Int))
        exact q
      have x0 := HM4.out.f.cells.1
      have x2 := HM4.out.f.cells.2.2.1
      simp only at x0 x2
      have y0 : w4.cell? ⟨b, off + at_ * 2, none⟩ = some (.int .i64 tk) := by
        have hb := HM4.out.g.block b hbl (by simpa using hbg)
        exact (World.cell?_of_block (a := ⟨b, off + at_ * 2, none⟩) hb).trans HDB.out.1
      have y1 : w4.cell? ⟨b, off + at_ * 2 + 1, none⟩ = some (.int .i64 tn) := by
        have hb := HM4.out.g.block b hbl (by simpa using hbg)
        exact (World.cell?_of_block (a := ⟨b, off + at_ * 2 + 1, none⟩) hb).trans HDB.out.2
      obtain ⟨z0, z1⟩ := two_of HM4.out.r
      have z2 := frozen_of_row w4 w.heap.size 0 _ _ HM4.out.r
      have z3 := frozen_of_row w4 w.heap.size 1 _ _ HM4.out.r
      go_upto_region 5 with fail
      clear e0 e1 e2 e4 d0 d1 f2
      have hz1 : ¬ w.heap.size = g := HZ.out.1
      have hz2 : ¬ w.heap.size = b := HZ.out.2
      have hw1 : IntKind.i64.wrap ((m : Int) - 1) = (at_ : Int) := by have h1 := HMM.out; rw [IntKind.wrap_i64]; omega
      have hw2 : IntKind.i64.wrap (at_ : Int) = (at_ : Int) := by rw [IntKind.wrap_i64]; omega
      obtain ⟨gr, hgr⟩ : ∃ gr, w.heap.size = gr := ⟨_, rfl⟩
      rw [hgr] at hz1 hz2 z0 z1 z2 z3 ⊢
      have HGR := hide hgr
      clear hgr
      have HM5 : Hid (∀ v0 v1 : Value, FB ((w4.setCell ⟨gr, 0, none⟩ v0).setCell ⟨gr, 1, none⟩ v1) g ⟨some ⟨b, off, none⟩, c, ts, fin, m, asks + 1, over, over⟩ ∧ w.grownBy ((w4.setCell ⟨gr, 0, none⟩ v0).setCell ⟨gr, 1, none⟩ v1) (some g)) := fun v0 v1 => by
        have hg1 : w4.grownBy ((w4.setCell ⟨gr, 0, none⟩ v0).setCell ⟨gr, 1, none⟩ v1) (some gr) := grown_cell (grown_cell (World.grownBy.refl _ _) _ _) _ _
        refine ⟨HM4.out.f.same (hg1.block g (lt_row HM4.out.f) (by simpa using fun e => hz1 e.symm)), ?_⟩
        have hg0 := HM4.out.g
        exact ⟨hg1.os.trans hg0.os, hg1.tape.trans hg0.tape, hg1.output.trans hg0.output, Nat.le_trans hg0.size hg1.size, fun k hk e => (hg1.block k (Nat.lt_of_lt_of_le hk hg0.size) (fun e2 => by have e3 : k = gr := Option.some.inj e2; have e4 := HGR.out; omega)).trans (hg0.block k hk e)⟩
      have HRR : Hid (∀ v0 v1 : Value, ((w4.setCell ⟨gr, 0, none⟩ v0).setCell ⟨gr, 1, none⟩ v1).heap[gr]? = some (.cells #[v0, v1] 36)) := fun v0 v1 => by
        have hr := HM4.out.r
        rw [HGR.out] at hr
        exact heap_setCell_same _ _ _ _ _ _ (heap_setCell_same _ _ _ _ _ _ hr)
      go_region_held_law (fun V => (V.cell? ⟨g, 0, none⟩ = some (.slice (some ⟨b, off, none⟩) ts.length c) ∧ V.cell? ⟨g, 2, none⟩ = some (.int .i64 (m : Int))) ∧ V.cell? ⟨b, off + at_ * 2, none⟩ = some (.int .i64 tk) ∧ V.cell? ⟨b, off + at_ * 2 + 1, none⟩ = some (.int .i64 tn)) (go_keep) (fail)
      all_goals
        go_wp2_with fail
        refine bodyPost_ret (results_th rfl _ _ gr (.int .i64 tk) (.int .i64 tn) rfl (HRR.out _ _)) rfl ?_
        exact ⟨rfl, (HM5.out _ _).1, grown_trans (HM5.out _ _).2 (grown_any ((Below.refl _ _).drew) _)⟩
    | true =>
      simp only [Bool.true_or] at hw2 HM2 HC HD ⊢
      go_enter Try.func10, Try.ntmps10
      go_upto_region 3 with fail
      go_quiet (fail)
      clear d0 d1 c0 c1 c2 c3 c4 c5 f3 f5 e0 e1 e2 e4 hgl hgz
      obtain ⟨w3, hw3⟩ : ∃ w3, w2.drewN nq = w3 := ⟨_, rfl⟩
      have HM3 : Hid (Mid w w3 g ⟨some ⟨b, off, none⟩, c, ts, fin, at_, asks + 1, over, true⟩) := by rw [← hw3]; exact HM2.out.below (below_drewN' _ _ _)
      rw [hw3]
      obtain ⟨e0, e1, e2, e4⟩ := HC.out w3 HM3.out
      obtain ⟨d0, d1⟩ := HD.out w3 HM3.out
      have f2 := HM3.out.f.frozen 2
      clear hw3
      obtain ⟨w4, hw4⟩ : ∃ w4, w3.setCell ⟨g, 2, none⟩ (.int .i64 (m : Int)) = w4 := ⟨_, rfl⟩
      have HM4 : Hid (Mid w w4 g ⟨some ⟨b, off, none⟩, c, ts, fin, m, asks + 1, over, true⟩) := by
        rw [← hw4]
        refine ⟨?_, grown_cell HM3.out.g _ _, (Below.heap_setCell _ _ _ _ HZ.out.1).trans HM3.out.r⟩
        have q := set2 HM3.out.f (.int .i64 (m : Int))
        exact q
      have x0 := HM4.out.f.cells.1
      have x2 := HM4.out.f.cells.2.2.1
      simp only at x0 x2
      have y0 : w4.cell? ⟨b, off + at_ * 2, none⟩ = some (.int .i64 tk) := by
        have hb := HM4.out.g.block b hbl (by simpa using hbg)
        exact (World.cell?_of_block (a := ⟨b, off + at_ * 2, none⟩) hb).trans HDB.out.1
      have y1 : w4.cell? ⟨b, off + at_ * 2 + 1, none⟩ = some (.int .i64 tn) := by
        have hb := HM4.out.g.block b hbl (by simpa using hbg)
        exact (World.cell?_of_block (a := ⟨b, off + at_ * 2 + 1, none⟩) hb).trans HDB.out.2
      obtain ⟨z0, z1⟩ := two_of HM4.out.r
      have z2 := frozen_of_row w4 w.heap.size 0 _ _ HM4.out.r
      have z3 := frozen_of_row w4 w.heap.size 1 _ _ HM4.out.r
      go_upto_region 5 with fail
      clear e0 e1 e2 e4 d0 d1 f2
      have hz1 : ¬ w.heap.size = g := HZ.out.1
      have hz2 : ¬ w.heap.size = b := HZ.out.2
      have hw1 : IntKind.i64.wrap ((m : Int) - 1) = (at_ : Int) := by have h1 := HMM.out; rw [IntKind.wrap_i64]; omega
      have hw2 : IntKind.i64.wrap (at_ : Int) = (at_ : Int) := by rw [IntKind.wrap_i64]; omega
      obtain ⟨gr, hgr⟩ : ∃ gr, w.heap.size = gr := ⟨_, rfl⟩
      rw [hgr] at hz1 hz2 z0 z1 z2 z3 ⊢
      have HGR := hide hgr
      clear hgr
      have HM5 : Hid (∀ v0 v1 : Value, FB ((w4.setCell ⟨gr, 0, none⟩ v0).setCell ⟨gr, 1, none⟩ v1) g ⟨some ⟨b, off, none⟩, c, ts, fin, m, asks + 1, over, true⟩ ∧ w.grownBy ((w4.setCell ⟨gr, 0, none⟩ v0).setCell ⟨gr, 1, none⟩ v1) (some g)) := fun v0 v1 => by
        have hg1 : w4.grownBy ((w4.setCell ⟨gr, 0, none⟩ v0).setCell ⟨gr, 1, none⟩ v1) (some gr) := grown_cell (grown_cell (World.grownBy.refl _ _) _ _) _ _
        refine ⟨HM4.out.f.same (hg1.block g (lt_row HM4.out.f) (by simpa using fun e => hz1 e.symm)), ?_⟩
        have hg0 := HM4.out.g
        exact ⟨hg1.os.trans hg0.os, hg1.tape.trans hg0.tape, hg1.output.trans hg0.output, Nat.le_trans hg0.size hg1.size, fun k hk e => (hg1.block k (Nat.lt_of_lt_of_le hk hg0.size) (fun e2 => by have e3 : k = gr := Option.some.inj e2; have e4 := HGR.out; omega)).trans (hg0.block k hk e)⟩
      have HRR : Hid (∀ v0 v1 : Value, ((w4.setCell ⟨gr, 0, none⟩ v0).setCell ⟨gr, 1, none⟩ v1).heap[gr]? = some (.cells #[v0, v1] 36)) := fun v0 v1 => by
        have hr := HM4.out.r
        rw [HGR.out] at hr
        exact heap_setCell_same _ _ _ _ _ _ (heap_setCell_same _ _ _ _ _ _ hr)
      go_region_held_law (fun V => (V.cell? ⟨g, 0, none⟩ = some (.slice (some ⟨b, off, none⟩) ts.length c) ∧ V.cell? ⟨g, 2, none⟩ = some (.int .i64 (m : Int))) ∧ V.cell? ⟨b, off + at_ * 2, none⟩ = some (.int .i64 tk) ∧ V.cell? ⟨b, off + at_ * 2 + 1, none⟩ = some (.int .i64 tn)) (go_keep) (fail)
      all_goals
        go_wp2_with fail
        refine bodyPost_ret (results_th rfl _ _ gr (.int .i64 tk) (.int .i64 tn) rfl (HRR.out _ _)) rfl ?_
        exact ⟨rfl, (HM5.out _ _).1, grown_trans (HM5.out _ _).2 (grown_any ((Below.refl _ _).drew) _)⟩
  · rw [if_neg h, if_neg h, if_neg h]
    have hii : ¬ (at_ : Int) < (ts.length : Int) := by omega
    have HZ : Hid (w.heap.size ≠ g) := by show w.heap.size ≠ g; omega
    have hdf : decide (at_ < ts.length) = false := by simpa using h
    rw [hdf]
    unfold Th.val
    clear hR hne hdf
    cases bad with
    | false =>
      simp only [Bool.false_or] at hw2 HM2 HC ⊢
      go_enter Try.func10, Try.ntmps10
      go_upto_region 3 with fail
      go_quiet (fail)
      clear c0 c1 c2 c3 c4 c5 f3 f5 e0 e1 e2 e4 hgl hgz
      obtain ⟨w3, hw3⟩ : ∃ w3, w2.drewN nq = w3 := ⟨_, rfl⟩
      have HM3 : Hid (Mid w w3 g ⟨a, c, ts, fin, at_, asks + 1, over, over⟩) := by rw [← hw3]; exact HM2.out.below (below_drewN' _ _ _)
      rw [hw3]
      obtain ⟨e0, e1, e2, e4⟩ := HC.out w3 HM3.out
      have f4 := HM3.out.f.frozen 4
      clear hw3
      obtain ⟨w4, hw4⟩ : ∃ w4, w3.setCell ⟨g, 4, none⟩ (.bool true) = w4 := ⟨_, rfl⟩
      have HM4 : Hid (Mid w w4 g ⟨a, c, ts, fin, at_, asks + 1, true, over⟩) := by
        rw [← hw4]
        refine ⟨?_, grown_cell HM3.out.g _ _, (Below.heap_setCell _ _ _ _ HZ.out).trans HM3.out.r⟩
        have q := set4 HM3.out.f (.bool true)
        exact q
      have x1 := HM4.out.f.cells.2.1
      simp only at x1
      obtain ⟨z0, z1⟩ := two_of HM4.out.r
      have z2 := frozen_of_row w4 w.heap.size 0 _ _ HM4.out.r
      have z3 := frozen_of_row w4 w.heap.size 1 _ _ HM4.out.r
      have hz1 : ¬ w.heap.size = g := HZ.out
      obtain ⟨gr, hgr⟩ : ∃ gr, w.heap.size = gr := ⟨_, rfl⟩
      rw [hgr] at hz1 z0 z1 z2 z3 ⊢
      have HGR := hide hgr
      clear hgr
      have HM5 : Hid (∀ v0 v1 : Value, FB ((w4.setCell ⟨gr, 0, none⟩ v0).setCell ⟨gr, 1, none⟩ v1) g ⟨a, c, ts, fin, at_, asks + 1, true, over⟩ ∧ w.grownBy ((w4.setCell ⟨gr, 0, none⟩ v0).setCell ⟨gr, 1, none⟩ v1) (some g)) := fun v0 v1 => by
        have hg1 : w4.grownBy ((w4.setCell ⟨gr, 0, none⟩ v0).setCell ⟨gr, 1, none⟩ v1) (some gr) := grown_cell (grown_cell (World.grownBy.refl _ _) _ _) _ _
        refine ⟨HM4.out.f.same (hg1.block g (lt_row HM4.out.f) (by simpa using fun e => hz1 e.symm)), ?_⟩
        have hg0 := HM4.out.g
        exact ⟨hg1.os.trans hg0.os, hg1.tape.trans hg0.tape, hg1.output.trans hg0.output, Nat.le_trans hg0.size hg1.size, fun k hk e => (hg1.block k (Nat.lt_of_lt_of_le hk hg0.size) (fun e2 => by have e3 : k = gr := Option.some.inj e2; have e4 := HGR.out; omega)).trans (hg0.block k hk e)⟩
      have HRR : Hid (∀ v0 v1 : Value, ((w4.setCell ⟨gr, 0, none⟩ v0).setCell ⟨gr, 1, none⟩ v1).heap[gr]? = some (.cells #[v0, v1] 36)) := fun v0 v1 => by
        have hr := HM4.out.r
        rw [HGR.out] at hr
        exact heap_setCell_same _ _ _ _ _ _ (heap_setCell_same _ _ _ _ _ _ hr)
      go_wp2_with fail
      go_region_held_law (fun V => V.cell? ⟨g, 1, none⟩ = some (.int .i64 fin)) (go_keep) (fail)
      all_goals
        go_wp2_with fail
        refine bodyPost_ret (results_th rfl _ _ gr (.int .i64 (-99)) (.int .i64 (-99)) rfl (HRR.out _ _)) rfl ?_
        exact ⟨rfl, (HM5.out _ _).1, grown_trans (HM5.out _ _).2 (grown_any ((Below.refl _ _).drew) _)⟩
    | true =>
      simp only [Bool.true_or] at hw2 HM2 HC ⊢
      go_enter Try.func10, Try.ntmps10
      go_upto_region 3 with fail
      go_quiet (fail)
      clear c0 c1 c2 c3 c4 c5 f3 f5 e0 e1 e2 e4 hgl hgz
      obtain ⟨w3, hw3⟩ : ∃ w3, w2.drewN nq = w3 := ⟨_, rfl⟩
      have HM3 : Hid (Mid w w3 g ⟨a, c, ts, fin, at_, asks + 1, over, true⟩) := by rw [← hw3]; exact HM2.out.below (below_drewN' _ _ _)
      rw [hw3]
      obtain ⟨e0, e1, e2, e4⟩ := HC.out w3 HM3.out
      have f4 := HM3.out.f.frozen 4
      clear hw3
      obtain ⟨w4, hw4⟩ : ∃ w4, w3.setCell ⟨g, 4, none⟩ (.bool true) = w4 := ⟨_, rfl⟩
      have HM4 : Hid (Mid w w4 g ⟨a, c, ts, fin, at_, asks + 1, true, true⟩) := by
        rw [← hw4]
        refine ⟨?_, grown_cell HM3.out.g _ _, (Below.heap_setCell _ _ _ _ HZ.out).trans HM3.out.r⟩
        have q := set4 HM3.out.f (.bool true)
        exact q
      have x1 := HM4.out.f.cells.2.1
      simp only at x1
      obtain ⟨z0, z1⟩ := two_of HM4.out.r
      have z2 := frozen_of_row w4 w.heap.size 0 _ _ HM4.out.r
      have z3 := frozen_of_row w4 w.heap.size 1 _ _ HM4.out.r
      have hz1 : ¬ w.heap.size = g := HZ.out
      obtain ⟨gr, hgr⟩ : ∃ gr, w.heap.size = gr := ⟨_, rfl⟩
      rw [hgr] at hz1 z0 z1 z2 z3 ⊢
      have HGR := hide hgr
      clear hgr
      have HM5 : Hid (∀ v0 v1 : Value, FB ((w4.setCell ⟨gr, 0, none⟩ v0).setCell ⟨gr, 1, none⟩ v1) g ⟨a, c, ts, fin, at_, asks + 1, true, true⟩ ∧ w.grownBy ((w4.setCell ⟨gr, 0, none⟩ v0).setCell ⟨gr, 1, none⟩ v1) (some g)) := fun v0 v1 => by
        have hg1 : w4.grownBy ((w4.setCell ⟨gr, 0, none⟩ v0).setCell ⟨gr, 1, none⟩ v1) (some gr) := grown_cell (grown_cell (World.grownBy.refl _ _) _ _) _ _
        refine ⟨HM4.out.f.same (hg1.block g (lt_row HM4.out.f) (by simpa using fun e => hz1 e.symm)), ?_⟩
        have hg0 := HM4.out.g
        exact ⟨hg1.os.trans hg0.os, hg1.tape.trans hg0.tape, hg1.output.trans hg0.output, Nat.le_trans hg0.size hg1.size, fun k hk e => (hg1.block k (Nat.lt_of_lt_of_le hk hg0.size) (fun e2 => by have e3 : k = gr := Option.some.inj e2; have e4 := HGR.out; omega)).trans (hg0.block k hk e)⟩
      have HRR : Hid (∀ v0 v1 : Value, ((w4.setCell ⟨gr, 0, none⟩ v0).setCell ⟨gr, 1, none⟩ v1).heap[gr]? = some (.cells #[v0, v1] 36)) := fun v0 v1 => by
        have hr := HM4.out.r
        rw [HGR.out] at hr
        exact heap_setCell_same _ _ _ _ _ _ (heap_setCell_same _ _ _ _ _ _ hr)
      go_wp2_with fail
      go_region_held_law (fun V => V.cell? ⟨g, 1, none⟩ = some (.int .i64 fin)) (go_keep) (fail)
      all_goals
        go_wp2_with fail
        refine bodyPost_ret (results_th rfl _ _ gr (.int .i64 (-99)) (.int .i64 (-99)) rfl (HRR.out _ _)) rfl ?_
        exact ⟨rfl, (HM5.out _ _).1, grown_trans (HM5.out _ _).2 (grown_any ((Below.refl _ _).drew) _)⟩
end Go.Proofs.Ytcnfkgmefikcjaa.Me
