/-
  Next, of a merge that is not over.
-/
import Derived.Test.YtcnfkgmefikcjaaMeNext
namespace Go.Proofs.Ytcnfkgmefikcjaa.Me
open Go.ChangeShapes Go.WideShapes Go.ChangeAt Go.RowKit
open Go.Proofs.Ytcnfkgmefikcjaa.Base
set_option linter.unusedVariables false
theorem FSt.res {w w' : World} {n : Nat} {gf : Nat → Nat} {fd : Nat → Fd} {gm gs gr : Nat} (h : FSt w n gf fd gm gs) (h0 : ∀ j, j < n → ∀ b off, (fd j).a = some ⟨b, off, none⟩ → 0 < (fd j).ts.length → b ≠ gr) (hgf : ∀ j, j < n → gf j ≠ gr) (t : Tn w w' (fun j => j = gr)) : FSt w' n gf fd gm gs := by
  refine ⟨fun j hj => (h.fb j hj).same (t.block _ (lt_row (h.fb j hj)) (hgf j hj)), fun j hj hp => ?_, h.ap, h.inj, h.far, h.len, h.asks⟩
  obtain ⟨b, off, e1, e2, e3⟩ := h.rd j hj hp
  have hblk : w'.heap[b]? = w.heap[b]? := t.block b e2 (h0 j hj b off e1 hp)
  exact ⟨b, off, e1, Nat.lt_of_lt_of_le e2 t.size, fun k hk => ⟨(World.cell?_of_block (a := ⟨b, off + k * 2, none⟩) hblk).trans (e3 k hk).1, (World.cell?_of_block (a := ⟨b, off + k * 2 + 1, none⟩) hblk).trans (e3 k hk).2⟩⟩
set_option maxHeartbeats 4000000 in
set_option maxRecDepth 100000 in
theorem next_by (gm gs n : Nat) (gf : Nat → Nat) (fd : Nat → Fd) (A1 : (Nat → Fd) → Int → Prop) (A2 : (Nat → Fd) → (Nat → Nat) → (Nat → Sc) → Prop) (w : World) (hS : FSt w n gf fd gm gs) (hgm : gm < w.heap.size) (hgs : gs < w.heap.size) (hov : w.cell? ⟨gm, 67, none⟩ = some (.bool false))
    (hadv : ∀ W, Below w.heap.size w W → Calls Try.prog 13 #[.pointer (some ⟨gm, 0, none⟩)] W fun e W' => e = .returned (.tuple #[]) ∧ Tn W W' (All n gm gs gf) ∧ ∃ fd', FSt W' n gf fd' gm gs ∧ (∀ j, j < n → (fd' j).a = (fd j).a ∧ (fd' j).ts = (fd j).ts) ∧ ((∃ er, OV W' gm er ∧ A1 fd' er) ∨ (∃ pl' F', MS W' gm gs n pl' true false 0 F' ∧ pl' 0 < n ∧ A2 fd' pl' F'))) :
    Calls Try.prog 7 #[.pointer (some ⟨gm, 0, none⟩)] w fun e w' => ∃ fd', FSt w' n gf fd' gm gs ∧ Tn w w' (All n gm gs gf) ∧ ((∃ er, e = .returned (.tuple #[th0.val, .bool false, .int .i64 er]) ∧ OV w' gm er ∧ A1 fd' er) ∨ (∃ pl' F', e = .returned (.tuple #[(F' (pl' 0)).th.val, .bool true, .int .i64 0]) ∧ MS w' gm gs n pl' true false 0 F' ∧ pl' 0 < n ∧ A2 fd' pl' F')) := by
  obtain ⟨w2, hw2, hb2, hr2, hn2⟩ := two_new w zz
  have c1 := (hb2.cell (p := ⟨gm, 67, none⟩) hgm).trans hov
  have HB := hide hb2
  have HADV := hide (hadv w2 hb2)
  obtain ⟨gr, hgr⟩ : ∃ gr, w.heap.size = gr := ⟨_, rfl⟩
  rw [hgr] at hr2 hn2
  have HR := hide hr2
  have HN := hide hn2
  have hz1 : ¬ gr = gm := by omega
  have HALL : Hid (∀ j, All n gm gs gf j → j < gr) := fun j hj => by
    rcases hj with e | e | ⟨k, hk, e⟩
    · omega
    · omega
    · rw [e, ← hgr]; exact lt_row (hS.fb k hk)
  have HS0 : Hid (∀ j, j < n → ∀ b off, (fd j).a = some ⟨b, off, none⟩ → 0 < (fd j).ts.length → b ≠ gr) := fun j hj b off e1 e2 => by
    obtain ⟨b', off', q1, q2, _⟩ := hS.rd j hj e2
    rw [e1] at q1
    have q3 : b = b' := by have := Option.some.inj q1; injection this
    omega
  have HGR := hide hgr
  -- what is left, where what is answered is written last
  have HFIN : Hid (∀ (V : World) (fd' : Nat → Fd) (v0 v1 : Value), Tn w2 V (All n gm gs gf) → FSt V n gf fd' gm gs → (∀ j, j < n → (fd' j).a = (fd j).a ∧ (fd' j).ts = (fd j).ts) → FSt ((V.setCell ⟨gr, 0, none⟩ v0).setCell ⟨gr, 1, none⟩ v1).drew n gf fd' gm gs ∧ Tn w ((V.setCell ⟨gr, 0, none⟩ v0).setCell ⟨gr, 1, none⟩ v1).drew (All n gm gs gf) ∧ Tn V ((V.setCell ⟨gr, 0, none⟩ v0).setCell ⟨gr, 1, none⟩ v1).drew (fun j => j = gr)) := fun V fd' v0 v1 t1 s1 e1 => by
    have g : V.grownBy ((V.setCell ⟨gr, 0, none⟩ v0).setCell ⟨gr, 1, none⟩ v1) (some gr) := grown_cell (grown_cell (World.grownBy.refl _ _) _ _) _ _
    have t2 : Tn V ((V.setCell ⟨gr, 0, none⟩ v0).setCell ⟨gr, 1, none⟩ v1).drew (fun j => j = gr) := (Tn.of_grown (fun j => j = gr) g rfl).trans (Tn.of_below _ ((Below.refl _ _).drew))
    refine ⟨s1.res (fun j hj b off q1 q2 => HS0.out j hj b off ((e1 j hj).1 ▸ q1) ((e1 j hj).2 ▸ q2)) (fun j hj e => by have := HALL.out (gf j) (.inr (.inr ⟨j, hj, rfl⟩)); omega) t2, ?_, t2⟩
    have h0 := HB.out
    have hgr := HGR.out
    exact ⟨t2.os.trans (t1.os.trans h0.os), t2.tape.trans (t1.tape.trans h0.tape), t2.output.trans (t1.output.trans h0.output), Nat.le_trans h0.size (Nat.le_trans t1.size t2.size), fun k hk q => (t2.block k (by have := h0.size; have := t1.size; omega) (by omega)).trans ((t1.block k (by have := h0.size; omega) q).trans (h0.block k hk))⟩
  clear hS hgs hov hadv hb2 hr2 hn2 hgr hgm
  unfold zz at hw2
  go_enter Try.func7, Try.ntmps7
  go_upto_region 6 with (go_at_call 13; refine HADV.out.mono ?_; rintro e w3 ⟨rfl, ht3, fd', hs3, he3, ho3⟩; have HT3 := hide ht3; have HS3 := hide hs3; have HE3 := hide he3; have HO3 := hide ho3; clear ht3 hs3 he3 ho3)
  rw [HGR.out]
  have HNA : Hid (¬ All n gm gs gf gr ∧ ¬ All n gm gs gf (gr + 1)) := ⟨fun h => by have := HALL.out _ h; omega, fun h => by have := HALL.out _ h; omega⟩
  have HR3 : Hid (w3.heap[gr]? = some zz) := (HT3.out.block gr (lt_row HR.out) HNA.out.1).trans HR.out
  have HN3 : Hid (w3.heap[gr + 1]? = some zz) := (HT3.out.block (gr + 1) (lt_row HN.out) HNA.out.2).trans HN.out
  obtain ⟨r0, r1⟩ := two_of HR3.out
  have z0 := frozen_of_row w3 gr 0 _ _ HR3.out
  have z1 := frozen_of_row w3 gr 1 _ _ HR3.out
  obtain ⟨n0, n1⟩ := two_of HN3.out
  clear c1 hw2 HADV
  rcases HO3.out with ⟨er, ho, ha⟩ | ⟨pl', F', hm, hv, ha⟩
  · have HO4 := hide ho
    have HA4 := hide ha
    have d1 := ho.2.1
    have d2 := ho.2.2
    clear ho ha HO3
    go_upto_region 7 with fail
    go_region_held_law (fun V => V.cell? ⟨gm, 68, none⟩ = some (.int .i64 er) ∧ V.cell? ⟨gr + 1, 0, none⟩ = some (.int .i64 0) ∧ V.cell? ⟨gr + 1, 1, none⟩ = some (.int .i64 0)) (go_keep) (fail)
    all_goals
      go_wp2_with fail
      refine bodyPost_ret (results_th rfl _ _ gr (.int .i64 0) (.int .i64 0) rfl (res_put HR3.out _ _)) rfl ?_
      obtain ⟨q1, q2, q3⟩ := HFIN.out w3 fd' (.int .i64 0) (.int .i64 0) HT3.out HS3.out HE3.out
      have hgl := HO4.out.1
      have hov : OV ((w3.setCell ⟨gr, 0, none⟩ (.int .i64 0)).setCell ⟨gr, 1, none⟩ (.int .i64 0)).drew gm er := by
        have hb := q3.block gm hgl (fun e => hz1 e.symm)
        exact ⟨Nat.lt_of_lt_of_le hgl q3.size, (World.cell?_of_block (a := ⟨gm, 67, none⟩) hb).trans HO4.out.2.1, (World.cell?_of_block (a := ⟨gm, 68, none⟩) hb).trans HO4.out.2.2⟩
      exact ⟨fd', q1, q2, .inl ⟨er, rfl, hov, HA4.out⟩⟩
  · have HM4 := hide hm
    have HA4 := hide ha
    have HW := hide (fun (W : World) (h : MS W gm gs n pl' true false 0 F') => winner_any gm gs n pl' true false 0 F' W h)
    have d1 := hm.m.cells.2.2.2.1
    have d2 := hm.m.cells.2.1
    obtain ⟨_, b1, b2, _⟩ := hm.s.cells (pl' 0) hv
    have hgz : ¬ gr = gs := fun e => HNA.out.1 (.inr (.inl e))
    have hvi : ((pl' 0 : Nat) : Int) < (n : Int) := by omega
    have HV := hide hv
    clear hm ha HO3
    generalize hth : (F' (pl' 0)).th = t at b1 b2
    obtain ⟨tk, tn⟩ := t
    simp only at b1 b2
    have HTH := hide hth
    clear hth
    generalize hv' : pl' 0 = v' at *
    have HVE := hide hv'
    clear hv'
    go_upto_region 8 with fail
    have B0 : Hid (Below w3.heap.size w3 w3.drew) := (Below.refl _ _).drew
    go_region_held_law (fun V => V.cell? ⟨gm, 1, none⟩ = some (.slice (some ⟨gs, 0, none⟩) n n) ∧ V.cell? ⟨gs, v' * 4 + 1, none⟩ = some (.int .i64 tk) ∧ V.cell? ⟨gs, v' * 4 + 2, none⟩ = some (.int .i64 tn)) (go_keep) (first
      | (go_at_call 14; refine (HW.out _ (HM4.out.below B0.out)).mono ?_; rintro e w5 ⟨rfl, rfl⟩))
    all_goals
      go_wp2_with fail
      refine bodyPost_ret (results_th rfl _ _ gr (.int .i64 tk) (.int .i64 tn) rfl (res_put HR3.out _ _)) rfl ?_
      obtain ⟨q1, q2, q3⟩ := HFIN.out w3 fd' (.int .i64 tk) (.int .i64 tn) HT3.out HS3.out HE3.out
      have hms := HM4.out.turned _ q3 (fun e => hz1 e.symm) (fun e => hgz e.symm)
      refine ⟨fd', q1, q2, .inr ⟨pl', F', ?_, hms, ?_, HA4.out⟩⟩
      · rw [HVE.out, HTH.out]; rfl
      · rw [HVE.out]; exact HV.out
end Go.Proofs.Ytcnfkgmefikcjaa.Me
