/-
  A merge comes to its first thing.
-/
import Derived.Test.YtcnfkgmefikcjaaMeAdv
namespace Go.Proofs.Ytcnfkgmefikcjaa.Me
open Go.ChangeShapes Go.WideShapes Go.ChangeAt Go.RowKit
open Go.Proofs.Ytcnfkgmefikcjaa.Base
set_option linter.unusedVariables false
/-- What the first going on leaves. -/
def First (w w' : World) (gm gs n : Nat) (gf : Nat → Nat) (fd : Nat → Fd) (F : Nat → Sc) : Prop :=
  ∃ m, m ≤ n ∧ FSt w' n gf (nexts fd m) gm gs ∧ Tn w w' (All n gm gs gf) ∧ ((0 < m ∧ codeA (F (m - 1)) (fd (m - 1)) ≠ 0 ∧ (∀ j, j < m - 1 → codeA (F j) (fd j) = 0) ∧ OV w' gm (codeA (F (m - 1)) (fd (m - 1)))) ∨ (m = n ∧ (∀ j, j < n → codeA (F j) (fd j) = 0) ∧ ((n = 0 ∧ OV w' gm 0) ∨ (0 < n ∧ ∃ pl', T n (ah (ups F fd n)) pl' 1 (pl' 0) ∧ (((ups F fd n (pl' 0)).some = true ∧ MS w' gm gs n pl' true false 0 (ups F fd n)) ∨ ((ups F fd n (pl' 0)).some = false ∧ OV w' gm 0))))))
set_option maxHeartbeats 4000000 in
set_option maxRecDepth 100000 in
theorem advance_first (gm gs n : Nat) (gf : Nat → Nat) (fd : Nat → Fd) (F : Nat → Sc) (pl : Nat → Nat) (w : World) (hM : MS w gm gs n pl false false 0 F) (hS : FSt w n gf fd gm gs) (hask : ∀ j, j < n → (F j).ask = feedV (gf j)) (hk : ∀ j, j < n → (fd j).asks + 1 ≤ 4611686018427387904) :
    Calls Try.prog 13 #[.pointer (some ⟨gm, 0, none⟩)] w fun e w' => e = .returned (.tuple #[]) ∧ First w w' gm gs n gf fd F := by
  have HA := hide (askAll_any gm gs n gf fd false 0 F pl w hM hS hask hk)
  have hn := hM.n64
  clear hM hS hask hk
  have HFE : Hid (∀ (W : World) (m : Nat) (c : Int), m ≤ n → FSt W n gf (nexts fd m) gm gs → Tn w W (All n gm gs gf) → c ≠ 0 → 0 < m → c = codeA (F (m - 1)) (fd (m - 1)) → (∀ j, j < m - 1 → codeA (F j) (fd j) = 0) → OV W gm c → First w W gm gs n gf fd F) := fun W m c h1 h2 h3 h4 h5 h6 h7 h8 => ⟨m, h1, h2, h3, .inl ⟨h5, h6 ▸ h4, h7, h6 ▸ h8⟩⟩
  have HF0 : Hid (∀ (W : World), FSt W n gf (nexts fd n) gm gs → Tn w W (All n gm gs gf) → (∀ j, j < n → codeA (F j) (fd j) = 0) → n = 0 → OV W gm 0 → First w W gm gs n gf fd F) := fun W h2 h3 h4 h5 h6 => ⟨n, Nat.le_refl _, h2, h3, .inr ⟨rfl, h4, .inl ⟨h5, h6⟩⟩⟩
  have HF1 : Hid (∀ (W : World) (pl' : Nat → Nat), FSt W n gf (nexts fd n) gm gs → Tn w W (All n gm gs gf) → (∀ j, j < n → codeA (F j) (fd j) = 0) → 0 < n → T n (ah (ups F fd n)) pl' 1 (pl' 0) → (((ups F fd n (pl' 0)).some = true ∧ MS W gm gs n pl' true false 0 (ups F fd n)) ∨ ((ups F fd n (pl' 0)).some = false ∧ OV W gm 0)) → First w W gm gs n gf fd F) := fun W pl' h2 h3 h4 h5 h6 h7 => ⟨n, Nat.le_refl _, h2, h3, .inr ⟨rfl, h4, .inr ⟨h5, pl', h6, h7⟩⟩⟩
  go_enter Try.func13, Try.ntmps13
  go_upto_region 1 with (go_at_call 16; refine HA.out.mono ?_; rintro e w1 ⟨c, m, rfl, hm, hm1, hs1, ht1, hc1⟩; have HM1 := hide hm1; have HS1 := hide hs1; have HT1 := hide (all_of_ask (gm := gm) ht1); have HC1 := hide hc1; clear hm1 hs1 ht1 hc1)
  rcases HC1.out with ⟨hc, hmn, hz⟩ | ⟨hc, hm0, hce, hz⟩
  · subst hc
    rw [hmn] at HM1 HS1
    have HZ := hide hz
    clear hz HC1 hmn hm HA
    have c66 := HM1.out.m.cells.2.2.1
    by_cases hn0 : n = 0
    · subst hn0
      have HP : Hid (Calls Try.prog 19 #[.pointer (some ⟨gm, 0, none⟩)] w1 _) := playAll_zero gm gs false false 0 (ups F fd 0) pl w1 HM1.out
      go_upto_region 7 with (go_at_call 19; refine HP.out.mono ?_; rintro e w2 ⟨rfl, hm2, hg2⟩; have HM2 := hide hm2; have HS2 := hide (HS1.out.grown hg2); have HT2 := hide (HT1.out.trans (all_of_grown hg2)); have d66 := hm2.m.cells.2.2.1; have f66 := hm2.m.frozen 66; clear hm2 hg2)
      obtain ⟨w3, hw3⟩ : ∃ w3, w2.setCell ⟨gm, 66, none⟩ (.bool true) = w3 := ⟨_, rfl⟩
      have HM3 : Hid (MS w3 gm gs 0 (setN pl 0 1) true false 0 (ups F fd 0)) := by rw [← hw3]; exact HM2.out.beg
      have HG3 : Hid (w2.grownBy w3 (some gm)) := by rw [← hw3]; exact grown_cell (World.grownBy.refl _ _) _ _
      have HS3 := hide (HS2.out.grown HG3.out)
      have HT3 := hide (HT2.out.trans (all_of_grown HG3.out))
      rw [hw3]
      clear hw3 d66 f66 c66
      have c1 := HM3.out.m.cells.2.1
      go_quiet (fail)
      have HM4 := hide (HM3.out.below (below_drewN' w3.heap.size w3 nq))
      have HS4 := hide (HS3.out.turned (Tn.of_below _ (below_drewN' w3.heap.size w3 nq)))
      have HT4 := hide (HT3.out.trans (Tn.of_below _ (below_drewN' w3.heap.size w3 nq)))
      go_wp2_with (go_at_call 17; refine (end_any gm gs 0 true false 0 _ _ 0 _ HM4.out).mono ?_; rintro e w5 ⟨rfl, ho5, hg5⟩; have HO5 := hide ho5; have HS5 := hide (HS4.out.grown hg5); have HT5 := hide (HT4.out.trans (all_of_grown hg5)); clear ho5 hg5)
      go_end0
      exact ⟨rfl, HF0.out _ HS5.out HT5.out HZ.out (by first | trivial | rfl) HO5.out⟩
    · have hn1 : 0 < n := by omega
      have HP := hide (playAll_any gm gs n false false 0 (ups F fd n) pl w1 hn1 HM1.out)
      go_upto_region 7 with (go_at_call 19; refine HP.out.mono ?_; rintro e w2 ⟨rfl, pl', ht2, hm2, hg2⟩; have HTT := hide ht2; have HM2 := hide hm2; have HS2 := hide (HS1.out.grown hg2); have HT2 := hide (HT1.out.trans (all_of_grown hg2)); have d66 := hm2.m.cells.2.2.1; have f66 := hm2.m.frozen 66; clear ht2 hm2 hg2)
      obtain ⟨w3, hw3⟩ : ∃ w3, w2.setCell ⟨gm, 66, none⟩ (.bool true) = w3 := ⟨_, rfl⟩
      have HM3 : Hid (MS w3 gm gs n pl' true false 0 (ups F fd n)) := by rw [← hw3]; exact HM2.out.beg
      have HG3 : Hid (w2.grownBy w3 (some gm)) := by rw [← hw3]; exact grown_cell (World.grownBy.refl _ _) _ _
      have HS3 := hide (HS2.out.grown HG3.out)
      have HT3 := hide (HT2.out.trans (all_of_grown HG3.out))
      rw [hw3]
      clear hw3 d66 f66 c66
      have hv2 := HTT.out.sub.2
      have HWN := hide (fun (W : World) (h : MS W gm gs n pl' true false 0 (ups F fd n)) => winner_any gm gs n pl' true false 0 (ups F fd n) W h)
      have c1 := HM3.out.m.cells.2.1
      obtain ⟨_, _, _, b3⟩ := HM3.out.s.cells (pl' 0) hv2
      have hq0 : ((n : Int) == 0) = false := by rw [beq_eq_false_iff_ne]; omega
      have hq1 : decide ((n : Int) = 0) = false := by rw [decide_eq_false_iff_not]; omega
      have hvi : ((pl' 0 : Nat) : Int) < (n : Int) := by omega
      have HFIN : Hid (∀ (sm : Bool) W, (ups F fd n (pl' 0)).some = sm → FSt W n gf (nexts fd n) gm gs → Tn w W (All n gm gs gf) → ((sm = true ∧ MS W gm gs n pl' true false 0 (ups F fd n)) ∨ (sm = false ∧ OV W gm 0)) → First w W gm gs n gf fd F) := fun sm W e h1 h2 h3 => HF1.out W pl' h1 h2 HZ.out hn1 HTT.out (by rw [e]; exact h3)
      generalize (ups F fd n (pl' 0)).some = sm at b3 HFIN
      generalize pl' 0 = v' at *
      cases sm with
      | true =>
        go_quiet ((go_at_call 14; exact Calls.quiet_of_same (HWN.out _ (HM3.out.below (below_drewN' _ _ _)))))
        go_wp2_with fail
        go_end0
        exact ⟨rfl, HFIN.out true _ rfl (HS3.out.turned (Tn.of_below _ (below_drewN' _ _ _))) (HT3.out.trans (Tn.of_below _ (below_drewN' _ _ _))) (.inl ⟨rfl, HM3.out.below (below_drewN' _ _ _)⟩)⟩
      | false =>
        go_quiet ((go_at_call 14; exact Calls.quiet_of_same (HWN.out _ (HM3.out.below (below_drewN' _ _ _)))))
        have HM4 := hide (HM3.out.below (below_drewN' w3.heap.size w3 nq))
        have HS4 := hide (HS3.out.turned (Tn.of_below _ (below_drewN' w3.heap.size w3 nq)))
        have HT4 := hide (HT3.out.trans (Tn.of_below _ (below_drewN' w3.heap.size w3 nq)))
        go_wp2_with (go_at_call 17; refine (end_any gm gs n true false 0 _ pl' 0 _ HM4.out).mono ?_; rintro e w5 ⟨rfl, ho5, hg5⟩; have HO5 := hide ho5; have HS5 := hide (HS4.out.grown hg5); have HT5 := hide (HT4.out.trans (all_of_grown hg5)); clear ho5 hg5)
        go_end0
        exact ⟨rfl, HFIN.out false _ rfl HS5.out HT5.out (.inr ⟨rfl, HO5.out⟩)⟩
  · have HZ := hide hz
    have HCE := hide hce
    clear hz hce HA HC1
    go_wp2_with (go_at_call 17; refine (end_any gm gs n false false 0 _ pl c _ HM1.out).mono ?_; rintro e w2 ⟨rfl, ho2, hg2⟩; have HO2 := hide ho2; have HS2 := hide (HS1.out.grown hg2); have HT2 := hide (HT1.out.trans (all_of_grown hg2)); clear ho2 hg2)
    refine bodyPost_ret (results_none rfl _ _ _) rfl ?_
    exact ⟨rfl, HFE.out _ m c hm HS2.out HT2.out hc hm0 HCE.out HZ.out HO2.out⟩
end Go.Proofs.Ytcnfkgmefikcjaa.Me
