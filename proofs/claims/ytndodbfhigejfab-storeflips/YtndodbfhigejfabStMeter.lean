/-
  The meter; a reading of fewer than no bytes; a part of a slice.
-/
import Derived.Test.YtndodbfhigejfabStFit
namespace Go.Proofs.Ytndodbfhigejfab.St
open Go.ChangeShapes Go.WideShapes Go.ChangeAt Go.RowKit Go.MuLone
open Go.Proofs.Ytndodbfhigejfab.Base
set_option linter.unusedVariables false
set_option maxHeartbeats 1000000
theorem readS_neg (s : Nat) (nm : ByteArray) (at_ m : Int) (w : World) (hn : okName nm = true) (hsz : nm.size ≤ 140737488351232) (hm : m < 0) :
    Calls Try.prog 30 #[.pointer (some ⟨s, 0, none⟩), .string nm, .int .i64 at_, .int .i64 m] w fun e w' => e = .returned (.tuple #[.slice none 0 0, .int .i64 3]) ∧ Below w.heap.size w w' := by
  have HREF := hide (fun W => refuse_any s nm W hsz hn)
  go_enter Try.func30, Try.ntmps30
  go_wp2_with (go_at_call 47; refine (HREF.out _).mono ?_; rintro e w5 ⟨rfl, rfl⟩)
  go_ret2
  exact ⟨rfl, (((Below.refl w.heap.size w).alloc (Nat.le_refl _) _).alloc (by simp) _).alloc (by simp; omega) _⟩
set_option maxRecDepth 100000 in
theorem meter_any (s bm n : Nat) (D : DataW Unit) (R B G : Int) (w : World) (hs : Store w s bm n D R B G) :
    Calls Try.prog 32 #[.pointer (some ⟨s, 0, none⟩)] w fun e w' => e = .returned (.agg #[.int .i64 R, .int .i64 B, .int .i64 G]) ∧ Store w' s bm n D R B G ∧ Kept2 w w' (some s) none := by
  have hsne := hs.ne
  have hsl := hs.at_.lt
  obtain ⟨w1, hw1⟩ : ∃ w1, w.alloc (.cells #[.int .i64 0, .int .i64 0, .int .i64 0] 59) = w1 := ⟨_, rfl⟩
  have bel1 : Below w.heap.size w w1 := by rw [← hw1]; exact (Below.refl _ _).alloc (Nat.le_refl _) _
  have hS1 := hs.at_.grown (below_grown bel1) (by simp)
  obtain ⟨c0, c1, c2, c3, c4, c5⟩ := hS1.cells
  have f0 := hS1.frozen 0
  have HL := hide (lock_free muLib ⟨s, 0, none⟩ w1 c0 f0)
  obtain ⟨w2, hw2⟩ : ∃ w2, w1.setCell ⟨s, 0, none⟩ (.int .i32 1) = w2 := ⟨_, rfl⟩
  have HS2 : Hid (SAt w2 s 1 bm R B G) := by rw [← hw2]; exact hS1.lock 1
  rw [hw2] at HL
  obtain ⟨d0, d1, d2, d3, d4, d5⟩ := HS2.out.cells
  have hne : w.heap.size ≠ s := by omega
  have hg1 : w1.heap[w.heap.size]? = some (.cells #[.int .i64 0, .int .i64 0, .int .i64 0] 59) := by rw [← hw1]; exact heap_alloc_new _ _
  have hg2 : w2.heap[w.heap.size]? = some (.cells #[.int .i64 0, .int .i64 0, .int .i64 0] 59) := by
    have hG : w1.grownBy w2 (some s) := by rw [← hw2]; exact grown_cell (World.grownBy.refl _ _) _ _
    rw [hG.block _ (by rw [← hw1]; simp) (by simpa using hne)]; exact hg1
  have q0 : w2.cell? ⟨w.heap.size, 0, none⟩ = some (.int .i64 0) := by rw [cell_of_row _ _ _ _ _ _ hg2]; rfl
  have q1 : w2.cell? ⟨w.heap.size, 1, none⟩ = some (.int .i64 0) := by rw [cell_of_row _ _ _ _ _ _ hg2]; rfl
  have q2 : w2.cell? ⟨w.heap.size, 2, none⟩ = some (.int .i64 0) := by rw [cell_of_row _ _ _ _ _ _ hg2]; rfl
  have f0' := frozen_of_row w2 w.heap.size 0 _ _ hg2
  have f1' := frozen_of_row w2 w.heap.size 1 _ _ hg2
  have f2' := frozen_of_row w2 w.heap.size 2 _ _ hg2
  obtain ⟨w3, hw3⟩ : ∃ w3, ((w2.setCell ⟨w.heap.size, 0, none⟩ (.int .i64 R)).setCell ⟨w.heap.size, 1, none⟩ (.int .i64 B)).setCell ⟨w.heap.size, 2, none⟩ (.int .i64 G) = w3 := ⟨_, rfl⟩
  have hG2 : w1.grownBy w2 (some s) := by rw [← hw2]; exact grown_cell (World.grownBy.refl _ _) _ _
  have hG3 : w2.grownBy w3 (some w.heap.size) := by rw [← hw3]; exact grown_cell (grown_cell (grown_cell (World.grownBy.refl _ _) _ _) _ _) _ _
  have HR3 : Hid (w3.heap[w.heap.size]? = some (.cells #[.int .i64 R, .int .i64 B, .int .i64 G] 59)) := by
    rw [← hw3]
    show _ = _
    rw [heap_setCell_same _ _ 2 _ _ _ (heap_setCell_same _ _ 1 _ _ _ (heap_setCell_same _ _ 0 _ _ _ hg2))]; rfl
  have HS3 : Hid (SAt w3 s 1 bm R B G) := HS2.out.grown hG3 (by simpa using hne)
  have g0 := HS3.out.cells.1
  have gf := HS3.out.frozen 0
  have hG4 : w3.grownBy (w3.setCell ⟨s, 0, none⟩ (.int .i32 0)) (some s) := grown_cell (World.grownBy.refl _ _) _ _
  have HK : Hid (Kept2 w (w3.setCell ⟨s, 0, none⟩ (.int .i32 0)) (some s) none) := by
    have h := kept2_trans (kept2_trans (kept2_below bel1 (some s) (some w.heap.size)) (kept2_grown hG2 (.inl rfl))) (kept2_trans (kept2_grown hG3 (.inr (.inl rfl))) (kept2_grown hG4 (.inl rfl)))
    exact ⟨h.os, h.tape, h.output, h.size, fun i hi hp _ => h.block i hi hp (by intro e; have := Option.some.inj e; omega)⟩
  have HFIN : Hid (Store (w3.setCell ⟨s, 0, none⟩ (.int .i32 0)) s bm n D R B G) := ⟨HS3.out.lock 0, MAt.kept hs.map HK.out (by simpa using hsne) (by simp), hsne⟩
  have HR4 : Hid ((w3.setCell ⟨s, 0, none⟩ (.int .i32 0)).heap[w.heap.size]? = some (.cells #[.int .i64 R, .int .i64 B, .int .i64 G] 59)) := by
    show _ = _
    rw [hG4.block _ (by have h := HR3.out; rw [Array.getElem?_eq_some_iff] at h; exact h.1) (by simpa using hne)]; exact HR3.out
  clear c0 c1 c2 c3 c4 c5 f0 hg1 hg2 hG2 hG3 hG4 HR3
  go_enter_defers Try.func32, Try.ntmps32
  go_wp2_with (go_at_call 48; refine HL.out.mono ?_; rintro e w' ⟨rfl, rfl⟩)
  refine leaves_cons (f := 49) (args := #[.pointer (some ⟨s, 0, none⟩)]) (by simp) (by simp [go_sem]) ?_
  refine (unlock_deferred muLib ⟨s, 0, none⟩ .returning _ g0 gf).mono ?_
  rintro e u' w'' ⟨rfl, rfl, rfl⟩
  refine ⟨.agg #[.int .i64 R, .int .i64 B, .int .i64 G], results_cell_row (g := w.heap.size) Try.results32 _ _ _ _ _ _ rfl HR4.out Try.underlying59 rfl (by kernel_rfl), rfl, HFIN.out, HK.out⟩
theorem part (a : Option Addr) (len cap p e : Nat) (bs : List (BitVec 8)) (w : World) (hr : Rd w a len bs) (hpe : p ≤ e) (he : e ≤ len) (hc : len ≤ cap) :
    ∃ la : Option Addr, (∀ W, (Instr.sliceAt 32 (.slice a len cap) (some (.int .i64 (p : Int))) (some (.int .i64 (e : Int))) none).run Try.prog W = .ok (.slice la (e - p) (cap - p)) W) ∧ Rd w la (e - p) ((bs.drop p).take (e - p)) := by
  refine ⟨if cap = p then a else a.map (·.add (p * 1)), fun W => ?_, ?_⟩
  · rw [run_sliceAt_slice (h := el8), run_slice_lh (ht := el8) (h0 := by omega) (h1 := by omega) (h2 := by omega), sz8]
    simp only [Result.andThen, sliced, Int.toNat_natCast]
  · by_cases h0 : e = p
    · subst h0
      rw [Nat.sub_self, List.take_zero]
      exact rd_zero _ _
    · obtain ⟨b, off, rfl, hlt, hcc⟩ := hr.2.2 (by omega)
      rw [if_neg (by omega)]
      have h := (hr.from p (by omega)).cut (e - p) (by omega)
      have e1 : (⟨b, off, none⟩ : Addr).add (p * 1) = ⟨b, off + p, none⟩ := by
        rw [Nat.mul_one]; unfold Addr.add; split
        · rename_i h; have h0 : p = 0 := by simpa using h
          subst h0; rfl
        · rfl
      rw [Option.map_some, e1]
      exact h
end Go.Proofs.Ytndodbfhigejfab.St
