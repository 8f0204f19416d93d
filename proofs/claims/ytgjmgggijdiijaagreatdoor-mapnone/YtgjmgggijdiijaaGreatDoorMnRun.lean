/-
  An attempt over a nil store.
-/
import Derived.Test.YtgjmgggijdiijaaGreatDoorMnName
import Derived.Test.YtgjmgggijdiijaaGreatDoorMnOpen
import Derived.Laws.StructEq
import Derived.Laws.Rows
import Derived.Deep.DeepCutAuto
namespace Go.Proofs.YtgjmgggijdiijaaGreatDoor.mapNone
open Go.ChangeShapes Go.WideShapes Go.ChangeAt Go.RowKit
open Go.Lib hiding intOf
open Go.Proofs.YtgjmgggijdiijaaGreatDoor.Base Go.Proofs.YtgjmgggijdiijaaGreatDoor.Jb
set_option linter.unusedVariables false
def Tr.split (t : Tr) : Value := .agg #[.int .i64 t.off, .string t.text]
set_option maxHeartbeats 1000000 in
set_option maxRecDepth 100000 in
theorem sorter_none (t : Tr) (nm : ByteArray) (w : World) :
    Calls Tryz.prog 7 #[.pointer none, .string nm, t.job, .int .i64 t.task, .int .i64 t.att, t.split] w fun e w' => e = .returned (.tuple #[.pointer none, .int .i64 1]) ∧ Below w.heap.size w w' := by
  unfold Tr.job Tr.split
  obtain ⟨w1, hw1⟩ : ∃ w1, w.alloc (.cells #[.int .i64 t.k, .int .i64 t.n, .slice t.a t.l t.c, .bool t.cb, .int .i64 t.bu, .int .i64 t.fa, .int .i64 t.tr, .int .i64 t.s0, .int .i64 t.s1, .int .i64 t.s2] 26) = w1 := ⟨_, rfl⟩
  obtain ⟨w2, hw2⟩ : ∃ w2, w1.alloc (.cells #[.int .i64 t.off, .string t.text] 28) = w2 := ⟨_, rfl⟩
  have HB1 : Hid (Below w.heap.size w w1) := by rw [← hw1]; exact (Below.refl _ _).alloc (Nat.le_refl _) _
  have HB2 : Hid (Below w1.heap.size w1 w2) := by rw [← hw2]; exact (Below.refl _ _).alloc (Nat.le_refl _) _
  go_enter Tryz.func7, Tryz.ntmps7
  go_wp2_with fail
  go_ret2
  exact ⟨rfl, below_trans HB1.out HB2.out⟩
theorem results_re {fn : Func} {p q : Tmp} (h : fn.results = #[.cell p 32, .cell q 33]) (tmps : Array Value) (w : World) (g g2 : Nat) (x0 x1 x2 x3 x4 x5 : Value) (er : Int) (hp : tmps.getD p undef = .pointer (some ⟨g, 0, none⟩)) (hq : tmps.getD q undef = .pointer (some ⟨g2, 0, none⟩)) (ht : w.heap[g]? = some (.cells #[x0, x1, x2, x3, x4, x5] 32)) (he : w.cell? ⟨g2, 0, none⟩ = some (.int .i64 er)) :
    (results fn tmps).run Tryz.prog w = .ok (.tuple #[.agg #[x0, x1, x2, x3, x4, x5], .int .i64 er]) w := by
  have hp' : tmps[p]?.getD undef = .pointer (some ⟨g, 0, none⟩) := by simpa using hp
  have hq' : tmps[q]?.getD undef = .pointer (some ⟨g2, 0, none⟩) := by simpa using hq
  have c0 : w.cell? ⟨g, 0, none⟩ = some x0 := by rw [cell_of_row _ _ _ _ _ _ ht]; rfl
  have c1 : w.cell? ⟨g, 1, none⟩ = some x1 := by rw [cell_of_row _ _ _ _ _ _ ht]; rfl
  have c2 : w.cell? ⟨g, 2, none⟩ = some x2 := by rw [cell_of_row _ _ _ _ _ _ ht]; rfl
  have c3 : w.cell? ⟨g, 3, none⟩ = some x3 := by rw [cell_of_row _ _ _ _ _ _ ht]; rfl
  have c4 : w.cell? ⟨g, 4, none⟩ = some x4 := by rw [cell_of_row _ _ _ _ _ _ ht]; rfl
  have c5 : w.cell? ⟨g, 5, none⟩ = some x5 := by rw [cell_of_row _ _ _ _ _ _ ht]; rfl
  simp [c0, c1, c2, c3, c4, c5, results, h, hp', hq', asAddr, he, go_sem]
theorem set_same {w : World} {g j : Nat} {cs : Array Value} {t : TypeId} {v : Value} (h : w.heap[g]? = some (.cells cs t)) (hv : cs[j]? = some v) : w.setCell ⟨g, j, none⟩ v = w := by
  have hc : cs.setIfInBounds j v = cs := by
    obtain ⟨hj, hj2⟩ := Array.getElem?_eq_some_iff.1 hv
    apply Array.ext
    · simp
    · intro i h1 h2
      rw [Array.getElem_setIfInBounds h2]
      split
      · rename_i e; subst e; exact hj2.symm
      · rfl
  have hm : (w.setCell ⟨g, j, none⟩ v).heap = w.heap := by
    apply Array.ext_getElem?
    intro i
    by_cases e : i = g
    · subst e
      rw [heap_setCell_same _ _ _ _ _ _ h, hc, h]
    · unfold World.setCell
      rw [Array.getElem?_modify]
      split
      · rename_i e2; exact absurd e2.symm e
      · rfl
  unfold World.setCell at hm ⊢
  rw [show w.heap.modify g _ = w.heap from hm]
theorem lt_row {w : World} {g : Nat} {o : Obj} (h : w.heap[g]? = some o) : g < w.heap.size := (Array.getElem?_eq_some_iff.1 h).1
theorem new_at {w w1 w' : World} {o : Obj} (h : w.alloc o = w1) (hb : Below w1.heap.size w1 w') : w'.heap[w.heap.size]? = some o := by
  subst h
  rw [hb.block w.heap.size (by rw [World.size_alloc]; omega)]
  exact heap_alloc_new w o
theorem below_new {w w1 : World} {o : Obj} (h : w.alloc o = w1) : Below w.heap.size w w1 := by rw [← h]; exact (Below.refl _ _).alloc (Nat.le_refl _) _
theorem size_new {w w1 : World} {o : Obj} (h : w.alloc o = w1) : w1.heap.size = w.heap.size + 1 := by rw [← h, World.size_alloc]
set_option maxHeartbeats 1000000 in
set_option maxRecDepth 100000 in
theorem run_none (t : Tr) (w : World) (ho : t.out.size ≤ 140737488355328) (ht : In64 t.task) (ha : In64 t.att) (hT : Lib.TabIs Tryz.prog w "internal/strconv.uint64pow10" .u64 Lib.pow10Tab) :
    Calls Tryz.prog 4 #[.pointer none, .string t.out, t.job, .int .i64 t.task, .int .i64 t.att, t.split, .int .i64 t.pos, .bool t.st] w fun e w' => e = .returned (.tuple #[.agg #[.int .i64 0, .int .i64 0, .string ⟨#[]⟩, .int .i64 0, .int .i64 0, .int .i64 0], .int .i64 1]) ∧ Below w.heap.size w w' := by
  have HSN := hide (fun nm w => sorter_none t nm w)
  unfold Tr.job Tr.split at HSN
  unfold Tr.job Tr.split
  obtain ⟨w1, hw1⟩ : ∃ w1, w.alloc (.cells #[.pointer none] 38) = w1 := ⟨_, rfl⟩
  obtain ⟨w2, hw2⟩ : ∃ w2, w1.alloc (.cells #[.int .i64 t.k, .int .i64 t.n, .slice t.a t.l t.c, .bool t.cb, .int .i64 t.bu, .int .i64 t.fa, .int .i64 t.tr, .int .i64 t.s0, .int .i64 t.s1, .int .i64 t.s2] 26) = w2 := ⟨_, rfl⟩
  obtain ⟨w3, hw3⟩ : ∃ w3, w2.alloc (.cells #[.int .i64 t.off, .string t.text] 28) = w3 := ⟨_, rfl⟩
  obtain ⟨w4, hw4⟩ : ∃ w4, w3.alloc (.cells #[.int .i64 t.pos] 2) = w4 := ⟨_, rfl⟩
  obtain ⟨w5, hw5⟩ : ∃ w5, w4.alloc (.cells #[.bool t.st] 4) = w5 := ⟨_, rfl⟩
  obtain ⟨w6, hw6⟩ : ∃ w6, w5.alloc (.cells #[.int .i64 0, .int .i64 0, .string ⟨#[]⟩, .int .i64 0, .int .i64 0, .int .i64 0] 32) = w6 := ⟨_, rfl⟩
  obtain ⟨w7, hw7⟩ : ∃ w7, w6.alloc (.cells #[.int .i64 0] 33) = w7 := ⟨_, rfl⟩
  have B7 := hide (below_new hw7)
  have B67 := hide (below_trans (below_new hw6) B7.out)
  have B57 := hide (below_trans (below_new hw5) B67.out)
  have B47 := hide (below_trans (below_new hw4) B57.out)
  have B37 := hide (below_trans (below_new hw3) B47.out)
  have B27 := hide (below_trans (below_new hw2) B37.out)
  have B17 := hide (below_trans (below_new hw1) B27.out)
  have N1 := hide (new_at hw1 B27.out)
  have N2 := hide (new_at hw2 B37.out)
  have N3 := hide (new_at hw3 B47.out)
  have N6 := hide (new_at hw6 B7.out)
  have N7 := hide (new_at hw7 (Below.refl _ _))
  have HNM := hide (name_any t.out t.task t.att w7 ho ht ha (tab_below hT B17.out))
  generalize mapNone.nm t.out t.task t.att = NM at HNM
  clear ho ht ha hT
  go_enter Tryz.func4, Tryz.ntmps4
  go_upto_region 2 with (go_at_call 5; refine HNM.out.mono ?_; rintro e w8 ⟨rfl, hb⟩; have B8 := hide hb; clear hb)
  obtain ⟨w9, hw9⟩ : ∃ w9, w8.alloc (.cells #[.string NM] 9) = w9 := ⟨_, rfl⟩
  rw [hw9]
  have B79 := hide (below_trans B8.out (below_new hw9))
  have PR := hide ((B79.out.block _ (lt_row N1.out)).trans N1.out)
  have QR := hide ((B79.out.block _ (lt_row N2.out)).trans N2.out)
  have RR := hide ((B79.out.block _ (lt_row N3.out)).trans N3.out)
  have NR := hide (new_at hw9 (Below.refl _ _))
  have p0 : w9.cell? ⟨w.heap.size, 0, none⟩ = some (.pointer none) := by rw [cell_of_row _ _ _ _ _ _ PR.out]; rfl
  have q0 : w9.cell? ⟨w1.heap.size, 0, none⟩ = some (.int .i64 t.k) := by rw [cell_of_row _ _ _ _ _ _ QR.out]; rfl
  have q1 : w9.cell? ⟨w1.heap.size, 1, none⟩ = some (.int .i64 t.n) := by rw [cell_of_row _ _ _ _ _ _ QR.out]; rfl
  have q2 : w9.cell? ⟨w1.heap.size, 2, none⟩ = some (.slice t.a t.l t.c) := by rw [cell_of_row _ _ _ _ _ _ QR.out]; rfl
  have q3 : w9.cell? ⟨w1.heap.size, 3, none⟩ = some (.bool t.cb) := by rw [cell_of_row _ _ _ _ _ _ QR.out]; rfl
  have q4 : w9.cell? ⟨w1.heap.size, 4, none⟩ = some (.int .i64 t.bu) := by rw [cell_of_row _ _ _ _ _ _ QR.out]; rfl
  have q5 : w9.cell? ⟨w1.heap.size, 5, none⟩ = some (.int .i64 t.fa) := by rw [cell_of_row _ _ _ _ _ _ QR.out]; rfl
  have q6 : w9.cell? ⟨w1.heap.size, 6, none⟩ = some (.int .i64 t.tr) := by rw [cell_of_row _ _ _ _ _ _ QR.out]; rfl
  have q7 : w9.cell? ⟨w1.heap.size, 7, none⟩ = some (.int .i64 t.s0) := by rw [cell_of_row _ _ _ _ _ _ QR.out]; rfl
  have q8 : w9.cell? ⟨w1.heap.size, 8, none⟩ = some (.int .i64 t.s1) := by rw [cell_of_row _ _ _ _ _ _ QR.out]; rfl
  have q9 : w9.cell? ⟨w1.heap.size, 9, none⟩ = some (.int .i64 t.s2) := by rw [cell_of_row _ _ _ _ _ _ QR.out]; rfl
  have r0 : w9.cell? ⟨w2.heap.size, 0, none⟩ = some (.int .i64 t.off) := by rw [cell_of_row _ _ _ _ _ _ RR.out]; rfl
  have r1 : w9.cell? ⟨w2.heap.size, 1, none⟩ = some (.string t.text) := by rw [cell_of_row _ _ _ _ _ _ RR.out]; rfl
  have n0 : w9.cell? ⟨w8.heap.size, 0, none⟩ = some (.string NM) := by rw [cell_of_row _ _ _ _ _ _ NR.out]; rfl
  go_upto_region 3 with (go_at_call 7; refine (HSN.out NM w9).mono ?_; rintro e w10 ⟨rfl, hb⟩; have B10 := hide hb; clear hb; have B711 := hide (below_trans (below_trans B79.out B10.out) (below_new (rfl : w10.alloc (.cells #[.pointer none] 39) = _))); have E11 := hide ((B711.out.block _ (lt_row N7.out)).trans N7.out); have e0 : (w10.alloc (.cells #[.pointer none] 39)).cell? ⟨w6.heap.size, 0, none⟩ = some (.int .i64 0) := (by rw [cell_of_row _ _ _ _ _ _ E11.out]; rfl); have e1 : (w10.alloc (.cells #[.pointer none] 39)).frozen? ⟨w6.heap.size, 0, none⟩ = false := frozen_of_row _ _ _ _ _ E11.out)
  obtain ⟨w11, hw11⟩ : ∃ w11, w10.alloc (.cells #[.pointer none] 39) = w11 := ⟨_, rfl⟩
  rw [hw11] at B711 E11 ⊢
  obtain ⟨w12, hw12⟩ : ∃ w12, w11.setCell ⟨w6.heap.size, 0, none⟩ (.int .i64 1) = w12 := ⟨_, rfl⟩
  rw [hw12]
  have E12 : Hid (w12.heap[w6.heap.size]? = some (.cells #[.int .i64 1] 33)) := by rw [← hw12]; exact heap_setCell_same _ _ _ _ _ _ E11.out
  have G12 : Hid (w11.grownBy w12 (some w6.heap.size)) := by rw [← hw12]; exact grown_cell (World.grownBy.refl w11 (some w6.heap.size)) 0 (.int .i64 1)
  have H65 : Hid (w6.heap.size ≠ w5.heap.size) := fun e => by have := size_new hw6; omega
  have R11 := hide ((B711.out.block _ (lt_row N6.out)).trans N6.out)
  have R12 : Hid (w12.heap[w5.heap.size]? = some (.cells #[.int .i64 0, .int .i64 0, .string ⟨#[]⟩, .int .i64 0, .int .i64 0, .int .i64 0] 32)) := (G12.out.block _ (lt_row R11.out) (fun e => H65.out (Option.some.inj e).symm)).trans R11.out
  have h11 := below_trans B17.out B711.out
  have HBX := hide (h11.grown G12.out h11.size (fun i e => by cases e; have := size_new hw1; have := size_new hw2; have := size_new hw3; have := size_new hw4; have := size_new hw5; have := size_new hw6; omega))
  have HSZ : Hid (w.heap.size ≤ w5.heap.size ∧ w.heap.size ≤ w6.heap.size) := by have := size_new hw1; have := size_new hw2; have := size_new hw3; have := size_new hw4; have := size_new hw5; have := size_new hw6; exact ⟨by omega, by omega⟩
  clear h11
  clear hw1 hw2 hw3 hw4 hw5 hw6 hw7 hw9 hw11 hw12 p0 q0 q1 q2 q3 q4 q5 q6 q7 q8 q9 r0 r1 n0
  have e2 : w12.cell? ⟨w6.heap.size, 0, none⟩ = some (.int .i64 1) := by rw [cell_of_row _ _ _ _ _ _ E12.out]; rfl
  have e3 : w12.frozen? ⟨w6.heap.size, 0, none⟩ = false := frozen_of_row _ _ _ _ _ E12.out
  have c0 : w12.cell? ⟨w5.heap.size, 0, none⟩ = some (.int .i64 0) := by rw [cell_of_row _ _ _ _ _ _ R12.out]; rfl
  have f0 : w12.frozen? ⟨w5.heap.size, 0, none⟩ = false := frozen_of_row _ _ _ _ _ R12.out
  have c1 : w12.cell? ⟨w5.heap.size, 1, none⟩ = some (.int .i64 0) := by rw [cell_of_row _ _ _ _ _ _ R12.out]; rfl
  have f1 : w12.frozen? ⟨w5.heap.size, 1, none⟩ = false := frozen_of_row _ _ _ _ _ R12.out
  have c2 : w12.cell? ⟨w5.heap.size, 2, none⟩ = some (.string ⟨#[]⟩) := by rw [cell_of_row _ _ _ _ _ _ R12.out]; rfl
  have f2 : w12.frozen? ⟨w5.heap.size, 2, none⟩ = false := frozen_of_row _ _ _ _ _ R12.out
  have c3 : w12.cell? ⟨w5.heap.size, 3, none⟩ = some (.int .i64 0) := by rw [cell_of_row _ _ _ _ _ _ R12.out]; rfl
  have f3 : w12.frozen? ⟨w5.heap.size, 3, none⟩ = false := frozen_of_row _ _ _ _ _ R12.out
  have c4 : w12.cell? ⟨w5.heap.size, 4, none⟩ = some (.int .i64 0) := by rw [cell_of_row _ _ _ _ _ _ R12.out]; rfl
  have f4 : w12.frozen? ⟨w5.heap.size, 4, none⟩ = false := frozen_of_row _ _ _ _ _ R12.out
  have c5 : w12.cell? ⟨w5.heap.size, 5, none⟩ = some (.int .i64 0) := by rw [cell_of_row _ _ _ _ _ _ R12.out]; rfl
  have f5 : w12.frozen? ⟨w5.heap.size, 5, none⟩ = false := frozen_of_row _ _ _ _ _ R12.out
  have s6 : w12.setCell ⟨w6.heap.size, 0, none⟩ (.int .i64 1) = w12 := set_same E12.out rfl
  have t0 : w12.setCell ⟨w5.heap.size, 0, none⟩ (.int .i64 0) = w12 := set_same R12.out rfl
  have t1 : w12.setCell ⟨w5.heap.size, 1, none⟩ (.int .i64 0) = w12 := set_same R12.out rfl
  have t2 : w12.setCell ⟨w5.heap.size, 2, none⟩ (.string ⟨#[]⟩) = w12 := set_same R12.out rfl
  have t3 : w12.setCell ⟨w5.heap.size, 3, none⟩ (.int .i64 0) = w12 := set_same R12.out rfl
  have t4 : w12.setCell ⟨w5.heap.size, 4, none⟩ (.int .i64 0) = w12 := set_same R12.out rfl
  have t5 : w12.setCell ⟨w5.heap.size, 5, none⟩ (.int .i64 0) = w12 := set_same R12.out rfl
  go_upto_region 4 with (fail)
  go_region
  go_wp2_with fail
  have ED : (w12.drew).cell? ⟨w6.heap.size, 0, none⟩ = some (.int .i64 1) := e2
  refine bodyPost_ret (results_re rfl _ _ w5.heap.size w6.heap.size _ _ _ _ _ _ 1 rfl rfl R12.out ED) rfl ⟨rfl, HBX.out.drew⟩
end Go.Proofs.YtgjmgggijdiijaaGreatDoor.mapNone
