/-
  Next and Err.
-/
import Derived.Test.YtcnfkgmefikcjaaMeFirst
namespace Go.Proofs.Ytcnfkgmefikcjaa.Me
open Go.ChangeShapes Go.WideShapes Go.ChangeAt Go.RowKit
open Go.Proofs.Ytcnfkgmefikcjaa.Base
set_option linter.unusedVariables false
theorem OV.below {w w' : World} {gm : Nat} {er : Int} (h : OV w gm er) (hb : Below w.heap.size w w') : OV w' gm er := ⟨Nat.lt_of_lt_of_le h.1 hb.size, (hb.cell (p := ⟨gm, 67, none⟩) h.1).trans h.2.1, (hb.cell (p := ⟨gm, 68, none⟩) h.1).trans h.2.2⟩
theorem err_over (gm : Nat) (er : Int) (w : World) (h : OV w gm er) : Calls Try.prog 9 #[.pointer (some ⟨gm, 0, none⟩)] w fun e w' => e = .returned (.int .i64 er) ∧ w' = w := by
  have c := h.2.2
  clear h
  go_enter Try.func9, Try.ntmps9
  go_wp2_with fail
  go_ret
  exact ⟨rfl, rfl⟩
theorem err_live (gm gs n : Nat) (pl : Nat → Nat) (bg ov : Bool) (er : Int) (F : Nat → Sc) (w : World) (h : MS w gm gs n pl bg ov er F) : Calls Try.prog 9 #[.pointer (some ⟨gm, 0, none⟩)] w fun e w' => e = .returned (.int .i64 er) ∧ w' = w := by
  have c := h.m.cells.2.2.2.2
  clear h
  go_enter Try.func9, Try.ntmps9
  go_wp2_with fail
  go_ret
  exact ⟨rfl, rfl⟩
/-- Two new blocks: what is answered, and nothing. -/
theorem two_new (w : World) (O : Obj) : ∃ w2, (w.alloc O).alloc O = w2 ∧ Below w.heap.size w w2 ∧ w2.heap[w.heap.size]? = some O ∧ w2.heap[w.heap.size + 1]? = some O := by
  have hz : (w.alloc O).heap.size = w.heap.size + 1 := by simp
  refine ⟨_, rfl, two_below _ _ _, ?_, ?_⟩
  · exact (((Below.refl (w.alloc O).heap.size (w.alloc O)).alloc (Nat.le_refl _) O).block w.heap.size (by rw [hz]; omega)).trans (heap_alloc_new _ _)
  · have h := heap_alloc_new (w.alloc O) O
    rw [hz] at h
    exact h
def zz : Obj := .cells #[.int .i64 0, .int .i64 0] 36
/-- What is answered is written. -/
theorem res_put {V : World} {gr : Nat} (h : V.heap[gr]? = some zz) (v0 v1 : Value) : ((V.setCell ⟨gr, 0, none⟩ v0).setCell ⟨gr, 1, none⟩ v1).heap[gr]? = some (.cells #[v0, v1] 36) := heap_setCell_same _ _ _ _ _ _ (heap_setCell_same _ _ _ _ _ _ h)
theorem res_below {w V : World} {gr : Nat} (h : Tn w V (fun _ => False)) (hgr : w.heap.size = gr) (v0 v1 : Value) : Below w.heap.size w ((V.setCell ⟨gr, 0, none⟩ v0).setCell ⟨gr, 1, none⟩ v1) := by
  have g : V.grownBy ((V.setCell ⟨gr, 0, none⟩ v0).setCell ⟨gr, 1, none⟩ v1) (some gr) := grown_cell (grown_cell (World.grownBy.refl _ _) _ _) _ _
  exact ⟨g.os.trans h.os, g.tape.trans h.tape, g.output.trans h.output, Nat.le_trans h.size g.size, fun k hk => (g.block k (Nat.lt_of_lt_of_le hk h.size) (fun e => by have e2 : k = gr := Option.some.inj e; omega)).trans (h.block k hk (fun q => q))⟩
set_option maxHeartbeats 4000000 in
set_option maxRecDepth 100000 in
theorem next_over (gm : Nat) (er : Int) (w : World) (h : OV w gm er) : Calls Try.prog 7 #[.pointer (some ⟨gm, 0, none⟩)] w fun e w' => e = .returned (.tuple #[th0.val, .bool false, .int .i64 er]) ∧ Below w.heap.size w w' := by
  obtain ⟨w2, hw2, hb2, hr2, hn2⟩ := two_new w zz
  have HO := hide (h.below hb2)
  have c1 := HO.out.2.1
  have c2 := HO.out.2.2
  have hg := h.1
  have HB := hide hb2
  obtain ⟨gr, hgr⟩ : ∃ gr, w.heap.size = gr := ⟨_, rfl⟩
  rw [hgr] at hr2 hn2
  have HR := hide hr2
  obtain ⟨r0, r1⟩ := two_of hr2
  have z0 := frozen_of_row w2 gr 0 _ _ hr2
  have z1 := frozen_of_row w2 gr 1 _ _ hr2
  obtain ⟨n0, n1⟩ := two_of hn2
  have hz1 : ¬ gr = gm := by omega
  have HBW : Hid (∀ v0 v1, Below w.heap.size w ((w2.setCell ⟨gr, 0, none⟩ v0).setCell ⟨gr, 1, none⟩ v1)) := fun v0 v1 => res_below (Tn.of_below _ hb2) hgr v0 v1
  clear h hb2 hr2 hn2 hg
  unfold zz at hw2
  unfold th0 Th.val
  go_enter Try.func7, Try.ntmps7
  go_upto_region 7 with fail
  go_region_held_law (fun V => V.cell? ⟨gm, 68, none⟩ = some (.int .i64 er) ∧ V.cell? ⟨gr + 1, 0, none⟩ = some (.int .i64 0) ∧ V.cell? ⟨gr + 1, 1, none⟩ = some (.int .i64 0)) (go_keep) (fail)
  all_goals
    go_wp2_with fail
    refine bodyPost_ret (results_th rfl _ _ gr (.int .i64 0) (.int .i64 0) rfl (res_put HR.out _ _)) rfl ?_
    exact ⟨rfl, below_trans (HBW.out _ _) ((Below.refl _ _).drew)⟩
end Go.Proofs.Ytcnfkgmefikcjaa.Me
