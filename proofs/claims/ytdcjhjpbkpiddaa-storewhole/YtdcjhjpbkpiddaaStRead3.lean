/-
  A reading through the store.
-/
import Derived.Test.YtdcjhjpbkpiddaaStRead2
namespace Go.Proofs.Ytdcjhjpbkpiddaa.St
open Go.ChangeShapes Go.WideShapes Go.ChangeAt Go.RowKit Go.MuLone
open Go.Proofs.Ytdcjhjpbkpiddaa.Base
set_option linter.unusedVariables false
set_option maxHeartbeats 1000000
/-- Four new blocks of one cell each. -/
theorem four_new (w : World) (v1 v2 v3 v4 : Value) (t1 t2 t3 t4 : TypeId) (w1 : World) (h : (((w.alloc (.cells #[v1] t1)).alloc (.cells #[v2] t2)).alloc (.cells #[v3] t3)).alloc (.cells #[v4] t4) = w1) :
    w1.cell? ⟨w.heap.size, 0, none⟩ = some v1 ∧ w1.cell? ⟨w.heap.size + 1, 0, none⟩ = some v2 ∧ w1.cell? ⟨w.heap.size + 1 + 1, 0, none⟩ = some v3 ∧ w1.cell? ⟨w.heap.size + 1 + 1 + 1, 0, none⟩ = some v4 ∧ w1.frozen? ⟨w.heap.size + 1 + 1 + 1, 0, none⟩ = false ∧ w1.heap.size = w.heap.size + 1 + 1 + 1 + 1 ∧ Below w.heap.size w w1 := by
  obtain ⟨wA, hA⟩ : ∃ v, w.alloc (.cells #[v1] t1) = v := ⟨_, rfl⟩
  obtain ⟨wB, hB⟩ : ∃ v, wA.alloc (.cells #[v2] t2) = v := ⟨_, rfl⟩
  obtain ⟨wC, hC⟩ : ∃ v, wB.alloc (.cells #[v3] t3) = v := ⟨_, rfl⟩
  rw [hA, hB, hC] at h
  have sA : wA.heap.size = w.heap.size + 1 := by rw [← hA]; simp
  have sB : wB.heap.size = w.heap.size + 1 + 1 := by rw [← hB]; simp [sA]
  have sC : wC.heap.size = w.heap.size + 1 + 1 + 1 := by rw [← hC]; simp [sB]
  have sD : w1.heap.size = w.heap.size + 1 + 1 + 1 + 1 := by rw [← h]; simp [sC]
  have bA : Below w.heap.size w wA := by rw [← hA]; exact (Below.refl _ _).alloc (Nat.le_refl _) _
  have bB : Below wA.heap.size wA wB := by rw [← hB]; exact (Below.refl _ _).alloc (Nat.le_refl _) _
  have bC : Below wB.heap.size wB wC := by rw [← hC]; exact (Below.refl _ _).alloc (Nat.le_refl _) _
  have bD : Below wC.heap.size wC w1 := by rw [← h]; exact (Below.refl _ _).alloc (Nat.le_refl _) _
  have cA : wA.cell? ⟨w.heap.size, 0, none⟩ = some v1 := by rw [← hA, cell_of_row _ _ _ _ _ _ (heap_alloc_new _ _)]; rfl
  have cB : wB.cell? ⟨wA.heap.size, 0, none⟩ = some v2 := by rw [← hB, cell_of_row _ _ _ _ _ _ (heap_alloc_new _ _)]; rfl
  have cC : wC.cell? ⟨wB.heap.size, 0, none⟩ = some v3 := by rw [← hC, cell_of_row _ _ _ _ _ _ (heap_alloc_new _ _)]; rfl
  have cD : w1.cell? ⟨wC.heap.size, 0, none⟩ = some v4 := by rw [← h, cell_of_row _ _ _ _ _ _ (heap_alloc_new _ _)]; rfl
  have fD : w1.frozen? ⟨wC.heap.size, 0, none⟩ = false := by rw [← h]; exact frozen_of_row _ _ _ _ _ (heap_alloc_new _ _)
  have bBD := below_trans bC bD
  have bAD := below_trans bB bBD
  refine ⟨?_, ?_, ?_, ?_, ?_, sD, below_trans bA bAD⟩
  · rw [bAD.cell (p := ⟨w.heap.size, 0, none⟩) (show w.heap.size < wA.heap.size by omega)]; exact cA
  · rw [← sA, bBD.cell (p := ⟨wA.heap.size, 0, none⟩) (show wA.heap.size < wB.heap.size by omega)]; exact cB
  · rw [← sB, bD.cell (p := ⟨wB.heap.size, 0, none⟩) (show wB.heap.size < wC.heap.size by omega)]; exact cC
  · rw [← sC]; exact cD
  · rw [← sC]; exact fD
set_option maxRecDepth 100000 in
theorem readS_any (s bm n b base : Nat) (D : DataW Unit) (R B G : Int) (nm : ByteArray) (va : Option Addr) (len cap : Nat) (bs : List (BitVec 8)) (at_ m : Int) (w : World) (hs : Store w s bm n D R B G) (hn : okName nm = true) (hsz : nm.size ≤ 140737488351232) (hd : D.atKey (key nm) .nil = .lit (.int .i64 (b : Int)))
    (hb : BAt w b (.slice va len cap) 2 (-1) false) (ho : Own w base (.slice va len cap) bs) (hov : ∀ i, (Value.slice va len cap).ownBlock = some i → i ≠ s) (hl : len ≤ 268435456) (hsb : s ≠ b) (hm : 0 ≤ m) (hG : 0 ≤ G) (hG2 : G ≤ 268435456) :
    Calls Try.prog 13 #[.pointer (some ⟨s, 0, none⟩), .string nm, .int .i64 at_, .int .i64 m] w fun e w' => ∃ v, e = .returned (.tuple #[v, .int .i64 (readOf bs at_ m).2]) ∧ Own w' w.heap.size v (readOf bs at_ m).1 ∧ Store w' s bm n D (metered R B G (readOf bs at_ m)).1 (metered R B G (readOf bs at_ m)).2.1 (metered R B G (readOf bs at_ m)).2.2 ∧ Kept2 w w' (some s) none := by
  have hsne := hs.ne
  have hsl := hs.at_.lt
  have hbl := hb.lt
  have hml := hs.map.lt
  obtain ⟨w4, hw4⟩ : ∃ w4, (((w.alloc (.cells #[.pointer (some ⟨s, 0, none⟩)] 23)).alloc (.cells #[.int .i64 at_] 2)).alloc (.cells #[.int .i64 m] 3)).alloc (.cells #[.slice none 0 0] 25) = w4 := ⟨_, rfl⟩
  obtain ⟨x4, x1, x2, x3, f3, sz4, bel4⟩ := four_new w _ _ _ _ _ _ _ _ w4 hw4
  have hS4 := hs.at_.grown (below_grown bel4) (by simp)
  have hM4 := hs.map.grown (below_grown bel4) (by simp)
  have hb4 := hb.grown (below_grown bel4) (by simp)
  have ho4 := ho.below bel4
  have hG5 : w4.grownBy (w4.setCell ⟨s, 0, none⟩ (.int .i32 1)) (some s) := grown_cell (World.grownBy.refl _ _) _ _
  have k5 : Kept2 w4 (w4.setCell ⟨s, 0, none⟩ (.int .i32 1)) (some s) (some (w.heap.size + 1 + 1 + 1)) := kept2_grown hG5 (.inl rfl)
  have sz5 : (w4.setCell ⟨s, 0, none⟩ (.int .i32 1)).heap.size = w.heap.size + 1 + 1 + 1 + 1 := by rw [← sz4]; simp [World.setCell]
  have hne3 : w.heap.size + 1 + 1 + 1 ≠ s := by omega
  have fz5 : (w4.setCell ⟨s, 0, none⟩ (.int .i32 1)).frozen? ⟨w.heap.size + 1 + 1 + 1, 0, none⟩ = false := by simp [f3]
  have HC := hide (onBlob_any s bm n b 27 R B G D nm #[.pointer (some ⟨w.heap.size + 1, 0, none⟩), .pointer (some ⟨w.heap.size + 1 + 1, 0, none⟩), .pointer (some ⟨w.heap.size + 1 + 1 + 1, 0, none⟩), .pointer (some ⟨w.heap.size, 0, none⟩)] w4
    (fun e w' => ∃ v, e = .returned (.int .i64 (readOf bs at_ m).2) ∧ w'.cell? ⟨w.heap.size + 1 + 1 + 1, 0, none⟩ = some v ∧ Own w' w.heap.size v (readOf bs at_ m).1 ∧ Store w' s bm n D (metered R B G (readOf bs at_ m)).1 (metered R B G (readOf bs at_ m)).2.1 (metered R B G (readOf bs at_ m)).2.2 ∧ Kept2 w w' (some s) none) enter58 hS4 hM4 hsne hn hsz hd (by
      refine (read1_any s bm b (w.heap.size + 1) (w.heap.size + 1 + 1) (w.heap.size + 1 + 1 + 1) w.heap.size base R B G va len cap bs (.slice none 0 0) at_ m _ (hS4.lock 1) (hb4.grown hG5 (by simpa using hsb)) (keep ho4 hG5 (fun i j e e2 => by have h1 := hov i e; have h2 := Option.some.inj e2; omega)) hl hm hG hG2
        (by rw [cell_kept k5 _ _ (by omega) (by intro e; have := Option.some.inj e; omega) (by intro e; have := Option.some.inj e; omega)]; exact x1) (by rw [cell_kept k5 _ _ (by omega) (by intro e; have := Option.some.inj e; omega) (by intro e; have := Option.some.inj e; omega)]; exact x2) (by rw [World.cell?_setCell_other _ ⟨s, 0, none⟩ ⟨w.heap.size + 1 + 1 + 1, 0, none⟩ _ (fun e => hne3 (congrArg Addr.block e).symm)]; exact x3) fz5 (by rw [cell_kept k5 _ _ (by omega) (by intro e; have := Option.some.inj e; omega) (by intro e; have := Option.some.inj e; omega)]; exact x4) (by omega) (by omega) hne3 (by omega) (by omega)).mono ?_
      rintro e w6 ⟨v, rfl, c6, ho6, hS6, k6⟩
      have hG7 : w6.grownBy (w6.setCell ⟨s, 0, none⟩ (.int .i32 0)) (some s) := grown_cell (World.grownBy.refl _ _) _ _
      have k67 := kept2_trans k6 (kept2_grown hG7 (.inl rfl))
      have kk : Kept2 w (w6.setCell ⟨s, 0, none⟩ (.int .i32 0)) (some s) none := by
        have h := kept2_trans (kept2_trans (kept2_below bel4 (some s) (some (w.heap.size + 1 + 1 + 1))) k5) k67
        exact ⟨h.os, h.tape, h.output, h.size, fun i hi hp _ => h.block i hi hp (by intro e; have := Option.some.inj e; omega)⟩
      refine ⟨_, rfl, ⟨_, _, _, hS6⟩, v, rfl, ?_, ?_, ⟨hS6.lock 0, MAt.kept hs.map kk (by simpa using hsne) (by simp), hsne⟩, kk⟩
      · exact hG7.cell c6 (by simpa using hne3)
      · exact (keep ho6 hG7 (fun i j e e2 => by have h1 := (blk ho6 i e).1; have h2 := Option.some.inj e2; omega)).mono (by omega)))
  have HREF := hide (fun W => refuse_any s nm W hsz hn)
  have c1 : ((w.alloc (.cells #[.pointer (some ⟨s, 0, none⟩)] 23)).alloc (.cells #[.int .i64 at_] 2)).alloc (.cells #[.int .i64 m] 3) = ((w.alloc (.cells #[.pointer (some ⟨s, 0, none⟩)] 23)).alloc (.cells #[.int .i64 at_] 2)).alloc (.cells #[.int .i64 m] 3) := rfl
  have hm0 : ¬ m < 0 := by omega
  clear hS4 hM4 hb4 ho4 hG5 k5 sz5 fz5 hs hb ho hd x1 x2 x3 f3 bel4 c1
  go_enter Try.func13, Try.ntmps13
  go_wp2_with (first
    | (go_at_call 16; refine (HREF.out _).mono ?_; rintro e w' ⟨rfl, rfl⟩)
    | (go_at_call 21; refine HC.out.mono ?_; rintro e w9 ⟨v, rfl, c9, h1, h2, h3⟩; have HF := hide (And.intro h1 (And.intro h2 h3)); clear h1 h2 h3))
  go_ret2
  exact ⟨v, rfl, HF.out.1, HF.out.2.1, HF.out.2.2⟩
end Go.Proofs.Ytdcjhjpbkpiddaa.St
