/-
  A merge goes on to its next thing.
-/
import Derived.Test.YtcnfkgmefikcjaaMeEnd
namespace Go.Proofs.Ytcnfkgmefikcjaa.Me
open Go.ChangeShapes Go.WideShapes Go.ChangeAt Go.RowKit
open Go.Proofs.Ytcnfkgmefikcjaa.Base
set_option linter.unusedVariables false
/-- The blocks of a merge and of its sources. -/
def All (n gm gs : Nat) (gf : Nat → Nat) (j : Nat) : Prop := j = gm ∨ j = gs ∨ ∃ k, k < n ∧ j = gf k
theorem FSt.grown {w w' : World} {n : Nat} {gf : Nat → Nat} {fd : Nat → Fd} {gm gs : Nat} (h : FSt w n gf fd gm gs) (g : w.grownBy w' (some gm)) : FSt w' n gf fd gm gs := h.turned (Tn.of_grown _ g (.inr rfl))
theorem all_of_grown {w w' : World} {n gm gs : Nat} {gf : Nat → Nat} (g : w.grownBy w' (some gm)) : Tn w w' (All n gm gs gf) := Tn.of_grown _ g (.inl rfl)
theorem all_of_ask {w w' : World} {n gm gs : Nat} {gf : Nat → Nat} (t : Tn w w' (fun j => j = gs ∨ ∃ k, k < n ∧ j = gf k)) : Tn w w' (All n gm gs gf) := t.mono (fun j q => .inr q)
/-- Another source alone has turned. -/
theorem ah_off (F : Nat → Sc) (v : Nat) (s : Sc) (a b : Nat) (ha : a ≠ v) (hb : b ≠ v) : ah (setF F v s) a b = ah F a b := by unfold ah setF; rw [if_neg ha, if_neg hb]
set_option maxHeartbeats 4000000 in
set_option maxRecDepth 100000 in
theorem advance_next (gm gs n : Nat) (gf : Nat → Nat) (fd : Nat → Fd) (F : Nat → Sc) (pl : Nat → Nat) (w : World) (hM : MS w gm gs n pl true false 0 F) (hS : FSt w n gf fd gm gs) (hT : T n (ah F) pl 1 (pl 0)) (hask : (F (pl 0)).ask = feedV (gf (pl 0))) (hk : (fd (pl 0)).asks + 1 ≤ 4611686018427387904) :
    Calls Try.prog 13 #[.pointer (some ⟨gm, 0, none⟩)] w fun e w' => e = .returned (.tuple #[]) ∧ FSt w' n gf (setD fd (pl 0) (fd (pl 0)).next) gm gs ∧ Tn w w' (All n gm gs gf) ∧ ((codeA (F (pl 0)) (fd (pl 0)) ≠ 0 ∧ OV w' gm (codeA (F (pl 0)) (fd (pl 0)))) ∨ (codeA (F (pl 0)) (fd (pl 0)) = 0 ∧ ∃ pl', T n (ah (setF F (pl 0) (srcA (F (pl 0)) (fd (pl 0))))) pl' 1 (pl' 0) ∧ (((setF F (pl 0) (srcA (F (pl 0)) (fd (pl 0))) (pl' 0)).some = true ∧ MS w' gm gs n pl' true false 0 (setF F (pl 0) (srcA (F (pl 0)) (fd (pl 0))))) ∨ ((setF F (pl 0) (srcA (F (pl 0)) (fd (pl 0))) (pl' 0)).some = false ∧ OV w' gm 0)))) := by
  have hv := hT.sub.2
  have HA := hide (askLast_any gm gs n gf fd false 0 F pl w hM hS hv hask hk)
  have HR : Hid (∀ W, MS W gm gs n pl true false 0 (setF F (pl 0) (srcA (F (pl 0)) (fd (pl 0)))) → Calls Try.prog 18 #[.pointer (some ⟨gm, 0, none⟩)] W fun e w' => e = .returned (.tuple #[]) ∧ ∃ (pl' : Nat → Nat), T n (ah (setF F (pl 0) (srcA (F (pl 0)) (fd (pl 0))))) pl' 1 (pl' 0) ∧ MS w' gm gs n pl' true false 0 (setF F (pl 0) (srcA (F (pl 0)) (fd (pl 0)))) ∧ W.grownBy w' (some gm)) := fun W hW => replay_any gm gs n true false 0 F _ pl W hW hT (fun a b h1 h2 _ _ => ah_off F _ _ a b h1 h2)
  clear hM hS hT hask hk
  generalize setF F (pl 0) (srcA (F (pl 0)) (fd (pl 0))) = F' at *
  generalize setD fd (pl 0) (fd (pl 0)).next = fd' at *
  generalize codeA (F (pl 0)) (fd (pl 0)) = c at *
  by_cases hc : c = 0
  · subst hc
    go_enter Try.func13, Try.ntmps13
    go_wp2_with (first
      | (go_at_call 16; refine HA.out.mono ?_; rintro e w1 ⟨rfl, hm1, hs1, ht1⟩; have HM1 := hide hm1; have HS1 := hide hs1; have HT1 := hide (all_of_ask (gm := gm) ht1); have c66 := hm1.m.cells.2.2.1; clear hm1 hs1 ht1)
      | (go_at_call 18; refine (HR.out _ HM1.out).mono ?_; rintro e w2 ⟨rfl, pl', ht2, hm2, hg2⟩; have HTT := hide ht2; have HM2 := hide hm2; have HS2 := hide (HS1.out.grown hg2); have HT2 := hide (HT1.out.trans (all_of_grown hg2)); clear ht2 hm2 hg2))
    have hv2 := HTT.out.sub.2
    have HWN := hide (fun (W : World) (h : MS W gm gs n pl' true false 0 F') => winner_any gm gs n pl' true false 0 F' W h)
    have c1 := HM2.out.m.cells.2.1
    obtain ⟨_, _, _, b3⟩ := HM2.out.s.cells (pl' 0) hv2
    have hn0 : ((n : Int) == 0) = false := by rw [beq_eq_false_iff_ne]; omega
    have hn1 : decide ((n : Int) = 0) = false := by rw [decide_eq_false_iff_not]; omega
    have hvi : ((pl' 0 : Nat) : Int) < (n : Int) := by omega
    have HFIN : Hid (∀ (sm : Bool) W, (F' (pl' 0)).some = sm → ((sm = true ∧ MS W gm gs n pl' true false 0 F') ∨ (sm = false ∧ OV W gm 0)) → ∃ pl', T n (ah F') pl' 1 (pl' 0) ∧ (((F' (pl' 0)).some = true ∧ MS W gm gs n pl' true false 0 F') ∨ ((F' (pl' 0)).some = false ∧ OV W gm 0))) := fun sm W e h3 => ⟨pl', HTT.out, by rw [e]; exact h3⟩
    generalize (F' (pl' 0)).some = sm at b3 HFIN
    clear c66
    generalize hv' : pl' 0 = v' at *
    clear hv'
    cases sm with
    | true =>
      go_quiet ((go_at_call 14; exact Calls.quiet_of_same (HWN.out _ (HM2.out.below (below_drewN' _ _ _)))))
      go_wp2_with fail
      go_end0
      exact ⟨rfl, HS2.out.turned (Tn.of_below _ (below_drewN' _ _ _)), HT2.out.trans (Tn.of_below _ (below_drewN' _ _ _)), .inr ⟨by first | trivial | rfl, HFIN.out true _ rfl (.inl ⟨rfl, HM2.out.below (below_drewN' _ _ _)⟩)⟩⟩
    | false =>
      go_quiet ((go_at_call 14; exact Calls.quiet_of_same (HWN.out _ (HM2.out.below (below_drewN' _ _ _)))))
      have HM3 := hide (HM2.out.below (below_drewN' w2.heap.size w2 nq))
      have HS3 := hide (HS2.out.turned (Tn.of_below _ (below_drewN' w2.heap.size w2 nq)))
      have HT3 := hide (HT2.out.trans (Tn.of_below _ (below_drewN' w2.heap.size w2 nq)))
      go_wp2_with (go_at_call 17; refine (end_any gm gs n true false 0 F' pl' 0 _ HM3.out).mono ?_; rintro e w4 ⟨rfl, ho4, hg4⟩; have HO4 := hide ho4; have HS4 := hide (HS3.out.grown hg4); have HT4 := hide (HT3.out.trans (all_of_grown hg4)); clear ho4 hg4)
      go_end0
      exact ⟨rfl, HS4.out, HT4.out, .inr ⟨by first | trivial | rfl, HFIN.out false _ rfl (.inr ⟨rfl, HO4.out⟩)⟩⟩
  · go_enter Try.func13, Try.ntmps13
    go_wp2_with (first
      | (go_at_call 16; refine HA.out.mono ?_; rintro e w1 ⟨rfl, hm1, hs1, ht1⟩; have HM1 := hide hm1; have HS1 := hide hs1; have HT1 := hide (all_of_ask (gm := gm) ht1); clear hm1 hs1 ht1)
      | (go_at_call 17; refine (end_any gm gs n true false 0 F' pl c _ HM1.out).mono ?_; rintro e w2 ⟨rfl, ho2, hg2⟩; have HO2 := hide ho2; have HS2 := hide (HS1.out.grown hg2); have HT2 := hide (HT1.out.trans (all_of_grown hg2)); clear ho2 hg2))
    refine bodyPost_ret (results_none rfl _ _ _) rfl ?_
    exact ⟨rfl, HS2.out, HT2.out, .inl ⟨hc, HO2.out⟩⟩
theorem MB.beg {w : World} {gm : Nat} {sv : Value} {pl : Nat → Nat} {bg ov : Bool} {er : Int} (h : MB w gm sv pl bg ov er) : MB (w.setCell ⟨gm, 66, none⟩ (.bool true)) gm sv pl true ov er := by
  obtain ⟨cur, h0, h1, h2, h3, h4, h5, h6, h7⟩ := h
  refine ⟨cur.setIfInBounds 66 (.bool true), heap_setCell_same _ _ _ _ _ _ h0, by simp [h1], ?_, ?_, fun k hk => ?_, ?_, ?_, ?_⟩
  · rw [Array.getElem?_setIfInBounds, if_neg (by omega)]; exact h2
  · rw [Array.getElem?_setIfInBounds, if_neg (by omega)]; exact h3
  · rw [Array.getElem?_setIfInBounds, if_neg (by omega)]; exact h4 k hk
  · rw [Array.getElem?_setIfInBounds, if_pos rfl, if_pos (by omega)]
  · rw [Array.getElem?_setIfInBounds, if_neg (by omega)]; exact h6
  · rw [Array.getElem?_setIfInBounds, if_neg (by omega)]; exact h7
theorem MS.beg {w : World} {gm gs n : Nat} {pl : Nat → Nat} {bg ov : Bool} {er : Int} {F : Nat → Sc} (h : MS w gm gs n pl bg ov er F) : MS (w.setCell ⟨gm, 66, none⟩ (.bool true)) gm gs n pl true ov er F :=
  ⟨h.m.beg, h.s.same (Below.heap_setCell _ _ _ _ (fun e => h.ne e.symm)), h.ne, h.n64⟩
set_option maxHeartbeats 1000000 in
set_option maxRecDepth 100000 in
theorem play_zero (gm gs : Nat) (bg ov : Bool) (er : Int) (F : Nat → Sc) (pl : Nat → Nat) (w : World) (hM : MS w gm gs 0 pl bg ov er F) :
    Calls Try.prog 22 #[.pointer (some ⟨gm, 0, none⟩), .int .i64 1] w fun e w' => e = .returned (.int .i64 1) ∧ w' = w := by
  have m1 := hM.m.cells.2.1
  clear hM
  go_enter Try.func22, Try.ntmps22
  go_wp2_with fail
  go_ret
  exact ⟨rfl, rfl⟩
set_option maxHeartbeats 1000000 in
set_option maxRecDepth 100000 in
theorem playAll_zero (gm gs : Nat) (bg ov : Bool) (er : Int) (F : Nat → Sc) (pl : Nat → Nat) (w : World) (hM : MS w gm gs 0 pl bg ov er F) :
    Calls Try.prog 19 #[.pointer (some ⟨gm, 0, none⟩)] w fun e w' => e = .returned (.tuple #[]) ∧ MS w' gm gs 0 (setN pl 0 1) bg ov er F ∧ w.grownBy w' (some gm) := by
  have HB0 : Hid (Below w.heap.size w w.drew) := (Below.refl _ _).drew
  have HM := hide (hM.below HB0.out)
  have HP := hide (play_zero gm gs bg ov er F pl w.drew HM.out)
  have c0 : w.drew.cell? ⟨gm, 2, none⟩ = some (.int .i64 (pl 0 : Int)) := HM.out.m.place 0 (by omega)
  have f0 := HM.out.m.frozen 2
  clear hM
  go_enter Try.func19, Try.ntmps19
  go_wp2_with fail
  go_region_with (go_at_call 22; refine HP.out.mono ?_; rintro e w5 ⟨rfl, rfl⟩)
  all_goals
    go_wp2_with fail
    go_end0
    exact ⟨rfl, HM.out.put 0 1 (by omega), grown_cell (grown_any HB0.out _) _ _⟩
end Go.Proofs.Ytcnfkgmefikcjaa.Me
