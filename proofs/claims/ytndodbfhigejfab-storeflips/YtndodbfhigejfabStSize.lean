/-
  The size of a blob; a change of its length.
-/
import Derived.Test.YtndodbfhigejfabStHead
import Derived.Deep.OwnRows
namespace Go.Proofs.Ytndodbfhigejfab.St
open Go.ChangeShapes Go.WideShapes Go.ChangeAt Go.RowKit Go.MuLone
open Go.Proofs.Ytndodbfhigejfab.Base
set_option linter.unusedVariables false
set_option maxHeartbeats 1000000
theorem enter63 (args : Array Value) (W : World) : (callFunc 63 args).run Try.prog W = .ok (.enter 63 args) W := enter_of Try.func63 (by kernel_rfl) (by kernel_rfl) args W
theorem enter61 (args : Array Value) (W : World) : (callFunc 61 args).run Try.prog W = .ok (.enter 61 args) W := enter_of Try.func61 (by kernel_rfl) (by kernel_rfl) args W
theorem size1_any (b x : Nat) (va : Option Addr) (len cap : Nat) (old : Value) (w : World) (h : BAt w b (.slice va len cap) 2 (-1) false) (hl : len ≤ 268435456) (cx : w.cell? ⟨x, 0, none⟩ = some old) (fx : w.frozen? ⟨x, 0, none⟩ = false) :
    Calls Try.prog 63 #[.pointer (some ⟨b, 0, none⟩), .pointer (some ⟨x, 0, none⟩)] w fun e w' => e = .returned (.int .i64 0) ∧ w' = w.setCell ⟨x, 0, none⟩ (.int .i64 (len : Int)) := by
  obtain ⟨c0, c1, c2, c3⟩ := h.cells
  have HSZ := hide (size_any b va len cap 2 (-1) false w h (by omega))
  clear h
  go_enter Try.func63, Try.ntmps63
  go_wp2_with (go_at_call 64; refine HSZ.out.mono ?_; rintro e w' ⟨rfl, rfl⟩)
  go_ret
  exact ⟨rfl, rfl⟩
set_option maxRecDepth 100000 in
theorem sizeS_any (s bm n b : Nat) (D : DataW Unit) (R B G : Int) (nm : ByteArray) (va : Option Addr) (len cap : Nat) (w : World) (hs : Store w s bm n D R B G) (hn : okName nm = true) (hsz : nm.size ≤ 140737488351232) (hd : D.atKey (key nm) .nil = .lit (.int .i64 (b : Int)))
    (hb : BAt w b (.slice va len cap) 2 (-1) false) (hl : len ≤ 268435456) (hsb : s ≠ b) :
    Calls Try.prog 34 #[.pointer (some ⟨s, 0, none⟩), .string nm] w fun e w' => e = .returned (.tuple #[.int .i64 (len : Int), .int .i64 0]) ∧ Store w' s bm n D R B G ∧ Kept2 w w' (some s) none := by
  have hsne := hs.ne
  have hsl := hs.at_.lt
  have hbl := hb.lt
  obtain ⟨w4, hw4⟩ : ∃ w4, w.alloc (.cells #[.int .i64 0] 2) = w4 := ⟨_, rfl⟩
  have bel4 : Below w.heap.size w w4 := by rw [← hw4]; exact (Below.refl _ _).alloc (Nat.le_refl _) _
  have x4 : w4.cell? ⟨w.heap.size, 0, none⟩ = some (.int .i64 0) := by rw [← hw4, cell_of_row _ _ _ _ _ _ (heap_alloc_new _ _)]; rfl
  have f4 : w4.frozen? ⟨w.heap.size, 0, none⟩ = false := by rw [← hw4]; exact frozen_of_row _ _ _ _ _ (heap_alloc_new _ _)
  have sz4 : w4.heap.size = w.heap.size + 1 := by rw [← hw4]; simp
  have hS4 := hs.at_.grown (below_grown bel4) (by simp)
  have hM4 := hs.map.grown (below_grown bel4) (by simp)
  have hb4 := hb.grown (below_grown bel4) (by simp)
  have hG5 : w4.grownBy (w4.setCell ⟨s, 0, none⟩ (.int .i32 1)) (some s) := grown_cell (World.grownBy.refl _ _) _ _
  have hne3 : w.heap.size ≠ s := by omega
  have cc3 : (w4.setCell ⟨s, 0, none⟩ (.int .i32 1)).cell? ⟨w.heap.size, 0, none⟩ = some (.int .i64 0) := by rw [World.cell?_setCell_other _ ⟨s, 0, none⟩ ⟨w.heap.size, 0, none⟩ _ (fun e => hne3 (congrArg Addr.block e).symm)]; exact x4
  have fz5 : (w4.setCell ⟨s, 0, none⟩ (.int .i32 1)).frozen? ⟨w.heap.size, 0, none⟩ = false := by simp [f4]
  have HC := hide (onBlob_any s bm n b 63 R B G D nm #[.pointer (some ⟨w.heap.size, 0, none⟩)] w4
    (fun e w' => e = .returned (.int .i64 0) ∧ w'.cell? ⟨w.heap.size, 0, none⟩ = some (.int .i64 (len : Int)) ∧ Store w' s bm n D R B G ∧ Kept2 w w' (some s) none) enter63 hS4 hM4 hsne hn hsz hd (by
      refine (size1_any b w.heap.size va len cap _ _ (hb4.grown hG5 (by simpa using hsb)) hl cc3 fz5).mono ?_
      rintro e w6 ⟨rfl, hw6⟩
      have hG6 : (w4.setCell ⟨s, 0, none⟩ (.int .i32 1)).grownBy w6 (some w.heap.size) := by rw [hw6]; exact grown_cell (World.grownBy.refl _ _) _ _
      have c6 : w6.cell? ⟨w.heap.size, 0, none⟩ = some (.int .i64 (len : Int)) := by rw [hw6]; exact World.cell?_setCell_same _ _ _ cc3
      have hS6 : SAt w6 s 1 bm R B G := (hS4.lock 1).grown hG6 (fun e => hne3 (Option.some.inj e))
      have hG7 : w6.grownBy (w6.setCell ⟨s, 0, none⟩ (.int .i32 0)) (some s) := grown_cell (World.grownBy.refl _ _) _ _
      have kk : Kept2 w (w6.setCell ⟨s, 0, none⟩ (.int .i32 0)) (some s) none := by
        have h := kept2_trans (kept2_trans (kept2_below bel4 (some s) (some w.heap.size)) (kept2_grown hG5 (.inl rfl))) (kept2_trans (kept2_grown hG6 (.inr (.inl rfl))) (kept2_grown hG7 (.inl rfl)))
        exact ⟨h.os, h.tape, h.output, h.size, fun i hi hp _ => h.block i hi hp (by intro e; have := Option.some.inj e; omega)⟩
      exact ⟨_, rfl, ⟨_, _, _, hS6⟩, rfl, hG7.cell c6 (by simpa using hne3), ⟨hS6.lock 0, MAt.kept hs.map kk (by simpa using hsne) (by simp), hsne⟩, kk⟩))
  clear hS4 hM4 hb4 hG5 fz5 cc3 hs hb hd x4 f4 bel4
  go_enter Try.func34, Try.ntmps34
  go_wp2_with (go_at_call 52; refine HC.out.mono ?_; rintro e w9 ⟨rfl, c9, h1, h2⟩; have HF := hide (And.intro h1 h2); clear h1 h2)
  go_ret2
  exact ⟨rfl, HF.out.1, HF.out.2⟩
/-- The bytes, cut or with zeros behind them. -/
def resized (bs : List (BitVec 8)) (m : Nat) : List (BitVec 8) := bs.take m ++ List.replicate (m - bs.length) 0
theorem resized_len (bs : List (BitVec 8)) (m : Nat) : (resized bs m).length = m := by unfold resized; rw [List.length_append, List.length_take, List.length_replicate]; omega
theorem resize_bad (b : Nat) (va : Option Addr) (len cap : Nat) (by_ : Int) (w : World) (h : BAt w b (.slice va len cap) 1 (-1) false) (hl : len ≤ 268435456) (hb : by_ < -(len : Int) ∨ 268435456 - (len : Int) < by_) :
    Calls Try.prog 62 #[.pointer (some ⟨b, 0, none⟩), .int .i64 by_] w fun e w' => e = .returned (.int .i64 56) ∧ w' = w := by
  have HSZ := hide (size_any b va len cap 1 (-1) false w h (by omega))
  have hli : (len : Int) ≤ 268435456 := by omega
  rcases hb with hb | hb
  · go_enter Try.func62, Try.ntmps62
    go_wp2_with (go_at_call 64; refine HSZ.out.mono ?_; rintro e w' ⟨rfl, rfl⟩)
    go_ret
    exact ⟨rfl, rfl⟩
  · have hb2 : ¬ by_ < -(len : Int) := by omega
    go_enter Try.func62, Try.ntmps62
    go_wp2_with (go_at_call 64; refine HSZ.out.mono ?_; rintro e w' ⟨rfl, rfl⟩)
    go_ret
    exact ⟨rfl, rfl⟩
end Go.Proofs.Ytndodbfhigejfab.St
