/-
  A reading of a blob that is not published; the size; a change of the length.
-/
import Derived.Test.YtdcjhjpbkpiddaaStRead3
namespace Go.Proofs.Ytdcjhjpbkpiddaa.St
open Go.ChangeShapes Go.WideShapes Go.ChangeAt Go.RowKit Go.MuLone
open Go.Proofs.Ytdcjhjpbkpiddaa.Base
set_option linter.unusedVariables false
set_option maxHeartbeats 1000000
set_option maxRecDepth 100000 in
theorem readS_open {sp : Int} {sd : Bool} (s bm n b : Nat) (D : DataW Unit) (R B G : Int) (nm : ByteArray) (v : Value) (at_ m : Int) (w : World) (hs : Store w s bm n D R B G) (hn : okName nm = true) (hsz : nm.size ≤ 140737488351232) (hd : D.atKey (key nm) .nil = .lit (.int .i64 (b : Int)))
    (hb : BAt w b v 1 sp sd) (hsb : s ≠ b) (hm : 0 ≤ m) :
    Calls Try.prog 13 #[.pointer (some ⟨s, 0, none⟩), .string nm, .int .i64 at_, .int .i64 m] w fun e w' => e = .returned (.tuple #[.slice none 0 0, .int .i64 53]) ∧ Store w' s bm n D R B G ∧ Kept2 w w' (some s) none := by
  have hsne := hs.ne
  have hsl := hs.at_.lt
  have hbl := hb.lt
  have hml := hs.map.lt
  obtain ⟨w4, hw4⟩ : ∃ w4, (((w.alloc (.cells #[.pointer (some ⟨s, 0, none⟩)] 23)).alloc (.cells #[.int .i64 at_] 2)).alloc (.cells #[.int .i64 m] 3)).alloc (.cells #[.slice none 0 0] 25) = w4 := ⟨_, rfl⟩
  obtain ⟨x4, x1, x2, x3, f3, sz4, bel4⟩ := four_new w _ _ _ _ _ _ _ _ w4 hw4
  have hS4 := hs.at_.grown (below_grown bel4) (by simp)
  have hM4 := hs.map.grown (below_grown bel4) (by simp)
  have hb4 := hb.grown (below_grown bel4) (by simp)
  have hG5 : w4.grownBy (w4.setCell ⟨s, 0, none⟩ (.int .i32 1)) (some s) := grown_cell (World.grownBy.refl _ _) _ _
  have k5 : Kept2 w4 (w4.setCell ⟨s, 0, none⟩ (.int .i32 1)) (some s) (some (w.heap.size + 1 + 1 + 1)) := kept2_grown hG5 (.inl rfl)
  have sz5 : (w4.setCell ⟨s, 0, none⟩ (.int .i32 1)).heap.size = w.heap.size + 1 + 1 + 1 + 1 := by rw [← sz4]; simp [World.setCell]
  have hne3 : w.heap.size + 1 + 1 + 1 ≠ s := by omega
  have fz5 : (w4.setCell ⟨s, 0, none⟩ (.int .i32 1)).frozen? ⟨w.heap.size + 1 + 1 + 1, 0, none⟩ = false := by simp [f3]
  have HC := hide (onBlob_any s bm n b 27 R B G D nm #[.pointer (some ⟨w.heap.size + 1, 0, none⟩), .pointer (some ⟨w.heap.size + 1 + 1, 0, none⟩), .pointer (some ⟨w.heap.size + 1 + 1 + 1, 0, none⟩), .pointer (some ⟨w.heap.size, 0, none⟩)] w4
    (fun e w' => e = .returned (.int .i64 53) ∧ w'.cell? ⟨w.heap.size + 1 + 1 + 1, 0, none⟩ = some (.slice none 0 0) ∧ Store w' s bm n D R B G ∧ Kept2 w w' (some s) none) enter58 hS4 hM4 hsne hn hsz hd (by
      have cc3 : (w4.setCell ⟨s, 0, none⟩ (.int .i32 1)).cell? ⟨w.heap.size + 1 + 1 + 1, 0, none⟩ = some (.slice none 0 0) := by rw [World.cell?_setCell_other _ ⟨s, 0, none⟩ ⟨w.heap.size + 1 + 1 + 1, 0, none⟩ _ (fun e => hne3 (congrArg Addr.block e).symm)]; exact x3
      refine (read1_open b (w.heap.size + 1) (w.heap.size + 1 + 1) (w.heap.size + 1 + 1 + 1) w.heap.size v (.slice none 0 0) (.pointer (some ⟨s, 0, none⟩)) at_ m _ (hb4.grown hG5 (by simpa using hsb))
        (by rw [cell_kept k5 _ _ (by omega) (by intro e; have := Option.some.inj e; omega) (by intro e; have := Option.some.inj e; omega)]; exact x1) (by rw [cell_kept k5 _ _ (by omega) (by intro e; have := Option.some.inj e; omega) (by intro e; have := Option.some.inj e; omega)]; exact x2) cc3 fz5).mono ?_
      rintro e w6 ⟨rfl, hw6⟩
      have hG6 : (w4.setCell ⟨s, 0, none⟩ (.int .i32 1)).grownBy w6 (some (w.heap.size + 1 + 1 + 1)) := by rw [hw6]; exact grown_cell (World.grownBy.refl _ _) _ _
      have c6 : w6.cell? ⟨w.heap.size + 1 + 1 + 1, 0, none⟩ = some (.slice none 0 0) := by rw [hw6]; exact World.cell?_setCell_same _ _ _ cc3
      have hS6 : SAt w6 s 1 bm R B G := (hS4.lock 1).grown hG6 (fun e => hne3 (Option.some.inj e))
      have hG7 : w6.grownBy (w6.setCell ⟨s, 0, none⟩ (.int .i32 0)) (some s) := grown_cell (World.grownBy.refl _ _) _ _
      have k67 : Kept2 (w4.setCell ⟨s, 0, none⟩ (.int .i32 1)) (w6.setCell ⟨s, 0, none⟩ (.int .i32 0)) (some s) (some (w.heap.size + 1 + 1 + 1)) := kept2_trans (kept2_grown hG6 (.inr (.inl rfl))) (kept2_grown hG7 (.inl rfl))
      have kk : Kept2 w (w6.setCell ⟨s, 0, none⟩ (.int .i32 0)) (some s) none := by
        have h := kept2_trans (kept2_trans (kept2_below bel4 (some s) (some (w.heap.size + 1 + 1 + 1))) k5) k67
        exact ⟨h.os, h.tape, h.output, h.size, fun i hi hp _ => h.block i hi hp (by intro e; have := Option.some.inj e; omega)⟩
      exact ⟨_, rfl, ⟨_, _, _, hS6⟩, rfl, hG7.cell c6 (by simpa using hne3), ⟨hS6.lock 0, MAt.kept hs.map kk (by simpa using hsne) (by simp), hsne⟩, kk⟩))
  have HREF := hide (fun W => refuse_any s nm W hsz hn)
  have c1 : ((w.alloc (.cells #[.pointer (some ⟨s, 0, none⟩)] 23)).alloc (.cells #[.int .i64 at_] 2)).alloc (.cells #[.int .i64 m] 3) = ((w.alloc (.cells #[.pointer (some ⟨s, 0, none⟩)] 23)).alloc (.cells #[.int .i64 at_] 2)).alloc (.cells #[.int .i64 m] 3) := rfl
  have hm0 : ¬ m < 0 := by omega
  clear hS4 hM4 hb4 hG5 k5 sz5 fz5 hs hb hd x1 x2 x3 f3 bel4 c1
  go_enter Try.func13, Try.ntmps13
  go_wp2_with (first
    | (go_at_call 16; refine (HREF.out _).mono ?_; rintro e w' ⟨rfl, rfl⟩)
    | (go_at_call 21; refine HC.out.mono ?_; rintro e w9 ⟨rfl, c9, h1, h2⟩; have HF := hide (And.intro h1 h2); clear h1 h2))
  go_ret2
  exact ⟨rfl, HF.out.1, HF.out.2⟩
end Go.Proofs.Ytdcjhjpbkpiddaa.St
