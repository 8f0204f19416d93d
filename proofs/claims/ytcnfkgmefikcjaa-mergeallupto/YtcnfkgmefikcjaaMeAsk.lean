/-
  A source is asked.
-/
import Derived.Test.YtcnfkgmefikcjaaMeFeed
import Derived.Laws.EntriesVeiled
namespace Go.Proofs.Ytcnfkgmefikcjaa.Me
open Go.ChangeShapes Go.WideShapes Go.ChangeAt Go.RowKit
open Go.Proofs.Ytcnfkgmefikcjaa.Base
set_option linter.unusedVariables false
/-- Only blocks of this set have turned. -/
structure Tn (w w' : World) (S : Nat → Prop) : Prop where
  os : w'.os = w.os
  tape : w'.tape = w.tape
  output : w'.output = w.output
  size : w.heap.size ≤ w'.heap.size
  block : ∀ i, i < w.heap.size → ¬ S i → w'.heap[i]? = w.heap[i]?
theorem Tn.refl (w : World) (S : Nat → Prop) : Tn w w S := ⟨rfl, rfl, rfl, Nat.le_refl _, fun _ _ _ => rfl⟩
theorem Tn.of_below {w w' : World} (S : Nat → Prop) (h : Below w.heap.size w w') : Tn w w' S := ⟨h.os, h.tape, h.output, h.size, fun i hi _ => h.block i hi⟩
theorem Tn.of_grown {w w' : World} {g : Nat} (S : Nat → Prop) (h : w.grownBy w' (some g)) (hg : S g) : Tn w w' S := ⟨h.os, h.tape, h.output, h.size, fun i hi q => h.block i hi (fun e => q (by have e2 : i = g := Option.some.inj e; rw [e2]; exact hg))⟩
theorem Tn.trans {w w1 w2 : World} {S : Nat → Prop} (h : Tn w w1 S) (k : Tn w1 w2 S) : Tn w w2 S :=
  ⟨k.os.trans h.os, k.tape.trans h.tape, k.output.trans h.output, Nat.le_trans h.size k.size, fun i hi q => (k.block i (Nat.lt_of_lt_of_le hi h.size) q).trans (h.block i hi q)⟩
theorem Tn.mono {w w' : World} {S S' : Nat → Prop} (h : Tn w w' S) (k : ∀ i, S i → S' i) : Tn w w' S' := ⟨h.os, h.tape, h.output, h.size, fun i hi q => h.block i hi (fun e => q (k i e))⟩
def feedV (g : Nat) : Value := .func (.func 10) #[.pointer (some ⟨g, 0, none⟩)] #[]
def setF (F : Nat → Sc) (i : Nat) (s : Sc) : Nat → Sc := fun j => if j = i then s else F j
def codeA (s : Sc) (f : Fd) : Int := if f.at_ < f.ts.length then (if s.some = true ∧ (f.ts.getD f.at_ th0).key < s.th.key then 61 else 0) else f.fin
def sc0 : Sc := ⟨.nilFunc, ⟨0, 0⟩, false⟩
def srcA (s : Sc) (f : Fd) : Sc := if f.at_ < f.ts.length then (if s.some = true ∧ (f.ts.getD f.at_ th0).key < s.th.key then s else ⟨s.ask, f.ts.getD f.at_ th0, true⟩) else if f.fin = 0 then sc0 else s
theorem setF_self (F : Nat → Sc) (i : Nat) : setF F i (F i) = F := by
  funext j
  unfold setF
  by_cases e : j = i
  · rw [if_pos e, e]
  · rw [if_neg e]
/-- A source is written over. -/
theorem SB.put {w : World} {gs n : Nat} {F : Nat → Sc} (h : SB w gs n F) (i : Nat) (hi : i < n) (s : Sc) :
    SB ((((w.setCell ⟨gs, i * 4, none⟩ s.ask).setCell ⟨gs, i * 4 + 1, none⟩ (.int .i64 s.th.key)).setCell ⟨gs, i * 4 + 2, none⟩ (.int .i64 s.th.name)).setCell ⟨gs, i * 4 + 3, none⟩ (.bool s.some)) gs n (setF F i s) := by
  obtain ⟨cur, h0, h1, h2⟩ := h
  refine ⟨_, heap_setCell_same _ _ _ _ _ _ (heap_setCell_same _ _ _ _ _ _ (heap_setCell_same _ _ _ _ _ _ (heap_setCell_same _ _ _ _ _ _ h0))), by simp [h1], fun j hj => ?_⟩
  obtain ⟨a, b, c, d⟩ := h2 j hj
  simp only [Array.getElem?_setIfInBounds, Array.size_setIfInBounds]
  unfold setF
  by_cases e : j = i
  · subst e
    simp only [if_true]
    refine ⟨?_, ?_, ?_, ?_⟩
    · rw [if_neg (by omega), if_neg (by omega), if_neg (by omega), if_pos (by omega)]
    · rw [if_neg (by omega), if_neg (by omega), if_pos (by omega)]
    · rw [if_neg (by omega), if_pos (by omega)]
    · rw [if_pos (by omega)]
  · simp only [if_neg e]
    refine ⟨?_, ?_, ?_, ?_⟩
    · rw [if_neg (by omega), if_neg (by omega), if_neg (by omega), if_neg (by omega)]; exact a
    · rw [if_neg (by omega), if_neg (by omega), if_neg (by omega), if_neg (by omega)]; exact b
    · rw [if_neg (by omega), if_neg (by omega), if_neg (by omega), if_neg (by omega)]; exact c
    · rw [if_neg (by omega), if_neg (by omega), if_neg (by omega), if_neg (by omega)]; exact d
/-- Its thing is written. -/
theorem SB.put3 {w : World} {gs n : Nat} {F : Nat → Sc} (h : SB w gs n F) (i : Nat) (hi : i < n) (t : Th) :
    SB (((w.setCell ⟨gs, i * 4 + 1, none⟩ (.int .i64 t.key)).setCell ⟨gs, i * 4 + 2, none⟩ (.int .i64 t.name)).setCell ⟨gs, i * 4 + 3, none⟩ (.bool true)) gs n (setF F i ⟨(F i).ask, t, true⟩) := by
  obtain ⟨cur, h0, h1, h2⟩ := h
  refine ⟨_, heap_setCell_same _ _ _ _ _ _ (heap_setCell_same _ _ _ _ _ _ (heap_setCell_same _ _ _ _ _ _ h0)), by simp [h1], fun j hj => ?_⟩
  obtain ⟨a, b, c, d⟩ := h2 j hj
  simp only [Array.getElem?_setIfInBounds, Array.size_setIfInBounds]
  unfold setF
  by_cases e : j = i
  · subst e
    simp only [if_true]
    refine ⟨?_, ?_, ?_, ?_⟩
    · rw [if_neg (by omega), if_neg (by omega), if_neg (by omega)]; exact a
    · rw [if_neg (by omega), if_neg (by omega), if_pos (by omega)]
    · rw [if_neg (by omega), if_pos (by omega)]
    · rw [if_pos (by omega)]
  · simp only [if_neg e]
    refine ⟨?_, ?_, ?_, ?_⟩
    · rw [if_neg (by omega), if_neg (by omega), if_neg (by omega)]; exact a
    · rw [if_neg (by omega), if_neg (by omega), if_neg (by omega)]; exact b
    · rw [if_neg (by omega), if_neg (by omega), if_neg (by omega)]; exact c
    · rw [if_neg (by omega), if_neg (by omega), if_neg (by omega)]; exact d
theorem MS.turned {w w' : World} {gm gs n : Nat} {pl : Nat → Nat} {bg ov : Bool} {er : Int} {F : Nat → Sc} (h : MS w gm gs n pl bg ov er F) (S : Nat → Prop) (t : Tn w w' S) (h1 : ¬ S gm) (h2 : ¬ S gs) : MS w' gm gs n pl bg ov er F := ⟨h.m.same (t.block gm h.m.lt h1), h.s.same (t.block gs h.s.lt h2), h.ne, h.n64⟩
/-- What is left of it, where the source is written over. -/
theorem left_put {w w1 : World} {gm gs n gf : Nat} {pl : Nat → Nat} {bg ov : Bool} {er : Int} {F : Nat → Sc} {f : Fd} (h : MS w1 gm gs n pl bg ov er F) (hf : FB w1 gf f) (hg : w.grownBy w1 (some gf)) (hgs : gf ≠ gs) (i : Nat) (hi : i < n) (s : Sc) (O : Obj) :
    MS (((((w1.setCell ⟨gs, i * 4, none⟩ s.ask).setCell ⟨gs, i * 4 + 1, none⟩ (.int .i64 s.th.key)).setCell ⟨gs, i * 4 + 2, none⟩ (.int .i64 s.th.name)).setCell ⟨gs, i * 4 + 3, none⟩ (.bool s.some)).alloc O) gm gs n pl bg ov er (setF F i s) ∧ FB (((((w1.setCell ⟨gs, i * 4, none⟩ s.ask).setCell ⟨gs, i * 4 + 1, none⟩ (.int .i64 s.th.key)).setCell ⟨gs, i * 4 + 2, none⟩ (.int .i64 s.th.name)).setCell ⟨gs, i * 4 + 3, none⟩ (.bool s.some)).alloc O) gf f ∧ Tn w (((((w1.setCell ⟨gs, i * 4, none⟩ s.ask).setCell ⟨gs, i * 4 + 1, none⟩ (.int .i64 s.th.key)).setCell ⟨gs, i * 4 + 2, none⟩ (.int .i64 s.th.name)).setCell ⟨gs, i * 4 + 3, none⟩ (.bool s.some)).alloc O) (fun j => j = gs ∨ j = gf) := by
  have g1 : w1.grownBy ((((w1.setCell ⟨gs, i * 4, none⟩ s.ask).setCell ⟨gs, i * 4 + 1, none⟩ (.int .i64 s.th.key)).setCell ⟨gs, i * 4 + 2, none⟩ (.int .i64 s.th.name)).setCell ⟨gs, i * 4 + 3, none⟩ (.bool s.some)) (some gs) := grown_cell (grown_cell (grown_cell (grown_cell (World.grownBy.refl _ _) _ _) _ _) _ _) _ _
  have b1 : Below ((((w1.setCell ⟨gs, i * 4, none⟩ s.ask).setCell ⟨gs, i * 4 + 1, none⟩ (.int .i64 s.th.key)).setCell ⟨gs, i * 4 + 2, none⟩ (.int .i64 s.th.name)).setCell ⟨gs, i * 4 + 3, none⟩ (.bool s.some)).heap.size ((((w1.setCell ⟨gs, i * 4, none⟩ s.ask).setCell ⟨gs, i * 4 + 1, none⟩ (.int .i64 s.th.key)).setCell ⟨gs, i * 4 + 2, none⟩ (.int .i64 s.th.name)).setCell ⟨gs, i * 4 + 3, none⟩ (.bool s.some)) (((((w1.setCell ⟨gs, i * 4, none⟩ s.ask).setCell ⟨gs, i * 4 + 1, none⟩ (.int .i64 s.th.key)).setCell ⟨gs, i * 4 + 2, none⟩ (.int .i64 s.th.name)).setCell ⟨gs, i * 4 + 3, none⟩ (.bool s.some)).alloc O) := (Below.refl _ _).alloc (Nat.le_refl _) _
  have m1 : MS ((((w1.setCell ⟨gs, i * 4, none⟩ s.ask).setCell ⟨gs, i * 4 + 1, none⟩ (.int .i64 s.th.key)).setCell ⟨gs, i * 4 + 2, none⟩ (.int .i64 s.th.name)).setCell ⟨gs, i * 4 + 3, none⟩ (.bool s.some)) gm gs n pl bg ov er (setF F i s) := ⟨h.m.same (g1.block gm h.m.lt (fun e => h.ne (Option.some.inj e))), h.s.put i hi s, h.ne, h.n64⟩
  refine ⟨m1.below b1, ?_, ((Tn.of_grown _ hg (.inr rfl)).trans (Tn.of_grown _ g1 (.inl rfl))).trans (Tn.of_below _ b1)⟩
  have f1 : FB ((((w1.setCell ⟨gs, i * 4, none⟩ s.ask).setCell ⟨gs, i * 4 + 1, none⟩ (.int .i64 s.th.key)).setCell ⟨gs, i * 4 + 2, none⟩ (.int .i64 s.th.name)).setCell ⟨gs, i * 4 + 3, none⟩ (.bool s.some)) gf f := hf.same (g1.block gf (lt_row hf) (fun e => hgs (Option.some.inj e)))
  exact f1.same (b1.block gf (lt_row f1))
theorem left_put3 {w w1 : World} {gm gs n gf : Nat} {pl : Nat → Nat} {bg ov : Bool} {er : Int} {F : Nat → Sc} {f : Fd} (h : MS w1 gm gs n pl bg ov er F) (hf : FB w1 gf f) (hg : Tn w w1 (fun j => j = gs ∨ j = gf)) (hgs : gf ≠ gs) (i : Nat) (hi : i < n) (t : Th) :
    MS (((w1.setCell ⟨gs, i * 4 + 1, none⟩ (.int .i64 t.key)).setCell ⟨gs, i * 4 + 2, none⟩ (.int .i64 t.name)).setCell ⟨gs, i * 4 + 3, none⟩ (.bool true)) gm gs n pl bg ov er (setF F i ⟨(F i).ask, t, true⟩) ∧ FB (((w1.setCell ⟨gs, i * 4 + 1, none⟩ (.int .i64 t.key)).setCell ⟨gs, i * 4 + 2, none⟩ (.int .i64 t.name)).setCell ⟨gs, i * 4 + 3, none⟩ (.bool true)) gf f ∧ Tn w (((w1.setCell ⟨gs, i * 4 + 1, none⟩ (.int .i64 t.key)).setCell ⟨gs, i * 4 + 2, none⟩ (.int .i64 t.name)).setCell ⟨gs, i * 4 + 3, none⟩ (.bool true)) (fun j => j = gs ∨ j = gf) := by
  have g1 : w1.grownBy (((w1.setCell ⟨gs, i * 4 + 1, none⟩ (.int .i64 t.key)).setCell ⟨gs, i * 4 + 2, none⟩ (.int .i64 t.name)).setCell ⟨gs, i * 4 + 3, none⟩ (.bool true)) (some gs) := grown_cell (grown_cell (grown_cell (World.grownBy.refl _ _) _ _) _ _) _ _
  refine ⟨⟨h.m.same (g1.block gm h.m.lt (fun e => h.ne (Option.some.inj e))), h.s.put3 i hi t, h.ne, h.n64⟩, hf.same (g1.block gf (lt_row hf) (fun e => hgs (Option.some.inj e))), hg.trans (Tn.of_grown _ g1 (.inl rfl))⟩
theorem left_new {w w1 : World} {gm gs n gf : Nat} {pl : Nat → Nat} {bg ov : Bool} {er : Int} {F : Nat → Sc} {f : Fd} (h : MS w1 gm gs n pl bg ov er F) (hf : FB w1 gf f) (hg : w.grownBy w1 (some gf)) {w2 : World} (b : Below w1.heap.size w1 w2) : MS w2 gm gs n pl bg ov er F ∧ FB w2 gf f ∧ Tn w w2 (fun j => j = gs ∨ j = gf) :=
  ⟨h.below b, hf.same (b.block gf (lt_row hf)), (Tn.of_grown _ hg (.inr rfl)).trans (Tn.of_below _ b)⟩
set_option maxHeartbeats 4000000 in
set_option maxRecDepth 100000 in
theorem askOne_any (gm gs n gf : Nat) (bg ov : Bool) (er : Int) (F : Nat → Sc) (pl : Nat → Nat) (i : Nat) (f : Fd) (w : World) (hM : MS w gm gs n pl bg ov er F) (hi : i < n) (hask : (F i).ask = feedV gf) (hF : FB w gf f) (hR : RdH w f.a f.ts) (hne : ∀ b off, f.a = some ⟨b, off, none⟩ → 0 < f.ts.length → b ≠ gf) (hk : f.asks ≤ 4611686018427387904) (hl : f.ts.length ≤ 4611686018427387904) (hgm : gf ≠ gm) (hgs : gf ≠ gs) :
    Calls Try.prog 20 #[.pointer (some ⟨gm, 0, none⟩), .pointer (some ⟨gs, i * 4, none⟩)] w fun e w' => e = .returned (.int .i64 (codeA (F i) f)) ∧ MS w' gm gs n pl bg ov er (setF F i (srcA (F i) f)) ∧ FB w' gf f.next ∧ Tn w w' (fun j => j = gs ∨ j = gf) := by
  have HN := hide (next_any gf f w hF hR hne hk hl)
  have hn := hM.n64
  obtain ⟨c0, c1, c2, c3⟩ := hM.s.cells i hi
  rw [hask] at c0
  unfold feedV at c0
  have HM := hide hM
  have HAS := hide hask
  have HFL := hide (lt_row hF)
  have HM1 : Hid (∀ W, w.grownBy W (some gf) → MS W gm gs n pl bg ov er F) := fun W hg => HM.out.turned (fun j => j = gf) (Tn.of_grown _ hg rfl) (fun e => hgm e.symm) (fun e => hgs e.symm)
  clear hM hF hR hne hask
  generalize hFi : F i = fi at *
  obtain ⟨fa, ⟨fk, fn⟩, fs⟩ := fi
  obtain rfl : fa = feedV gf := HAS.out
  simp only at c1 c2 c3
  unfold codeA srcA
  simp only
  by_cases hat : f.at_ < f.ts.length
  · simp only [if_pos hat]
    have h1 : f.th = f.ts.getD f.at_ th0 := by unfold Fd.th; rw [if_pos hat]
    have h2 : f.err = 0 := by unfold Fd.err; rw [if_pos hat]
    have h3 : decide (f.at_ < f.ts.length) = true := by simpa using hat
    rw [h1, h2, h3] at HN
    clear h1 h2 h3
    generalize f.ts.getD f.at_ th0 = t at *
    obtain ⟨tk, tn⟩ := t
    unfold Th.val at HN
    simp only
    have HC := hide (fun W => compare_any ⟨tk, tn⟩ ⟨fk, fn⟩ W)
    unfold Th.val cmpT at HC
    simp only at HC
    cases fs with
    | false =>
      simp only [Bool.false_eq_true, false_and, if_false]
      go_enter Try.func20, Try.ntmps20
      go_wp2_with (go_at_call 10; refine HN.out.mono ?_; rintro e w1 ⟨rfl, hf1, hg1⟩; have HF1 := hide hf1; have HG1 := hide hg1; have HX1 := hide (HM1.out w1 hg1); obtain ⟨b0, b1, b2, b3⟩ := HX1.out.s.cells i hi; have q0 := HX1.out.s.frozen (i * 4); have q1 := HX1.out.s.frozen (i * 4 + 1); have q2 := HX1.out.s.frozen (i * 4 + 2); have q3 := HX1.out.s.frozen (i * 4 + 3); have gsl := HX1.out.s.lt; have gml := HX1.out.m.lt; have n0 := HX1.out.m.cells.1; unfold fcmp at n0; rw [hFi] at b0 b1 b2 b3; unfold feedV at b0; simp only at b0 b1 b2 b3; clear hf1 hg1 c0 c1 c2 c3)
      obtain ⟨gt, hgt⟩ : ∃ g, w1.heap.size = g := ⟨_, rfl⟩
      obtain ⟨w2, hw2⟩ : ∃ w2, w1.alloc (.cells #[.int .i64 tk, .int .i64 tn] 36) = w2 := ⟨_, rfl⟩
      have HB2 : Hid (Below w1.heap.size w1 w2) := by rw [← hw2]; exact (Below.refl _ _).alloc (Nat.le_refl _) _
      have HT2 : Hid (w2.heap[gt]? = some (.cells #[.int .i64 tk, .int .i64 tn] 36)) := by rw [← hw2, ← hgt]; exact heap_alloc_new _ _
      have HL2 := hide (left_new HX1.out HF1.out HG1.out HB2.out)
      have HNG : Hid (gt ≠ gs ∧ gt ≠ gm) := ⟨by omega, by omega⟩
      rw [hw2, hgt]
      clear hw2 hgt b0 b1 b2 b3 q0 q1 q2 q3 gsl gml n0 HX1 HF1 HG1
      obtain ⟨t0, t1⟩ := two_of HT2.out
      obtain ⟨b0, b1, b2, b3⟩ := HL2.out.1.s.cells i hi
      have n0 := HL2.out.1.m.cells.1
      unfold fcmp at n0
      rw [hFi] at b0 b1 b2 b3
      simp only at b0 b1 b2 b3
      go_quiet (fail)
      obtain ⟨w3, hw3⟩ : ∃ w3, w2.drewN nq = w3 := ⟨_, rfl⟩
      have HB3 : Hid (Below w2.heap.size w2 w3) := by rw [← hw3]; exact below_drewN' _ _ _
      rw [hw3]
      clear hw3
      have HL3 : Hid (MS w3 gm gs n pl bg ov er F ∧ FB w3 gf f.next ∧ Tn w w3 (fun j => j = gs ∨ j = gf)) := ⟨HL2.out.1.below HB3.out, HL2.out.2.1.same (HB3.out.block gf (lt_row HL2.out.2.1)), HL2.out.2.2.trans (Tn.of_below _ HB3.out)⟩
      have HT3 : Hid (w3.heap[gt]? = some (.cells #[.int .i64 tk, .int .i64 tn] 36)) := (HB3.out.block gt (lt_row HT2.out)).trans HT2.out
      clear t0 t1 b0 b1 b2 b3 n0
      obtain ⟨t0, t1⟩ := two_of HT3.out
      obtain ⟨b0, b1, b2, b3⟩ := HL3.out.1.s.cells i hi
      have q1 := HL3.out.1.s.frozen (i * 4 + 1)
      have q2 := HL3.out.1.s.frozen (i * 4 + 2)
      have q3 := HL3.out.1.s.frozen (i * 4 + 3)
      rw [hFi] at b0 b1 b2 b3
      simp only at b0 b1 b2 b3
      have hng : ¬ gt = gs := HNG.out.1
      have hng2 : ¬ gs = gt := fun e => HNG.out.1 e.symm
      have HQ := hide (left_put3 HL3.out.1 HL3.out.2.1 HL3.out.2.2 hgs i hi ⟨tk, tn⟩)
      rw [hFi] at HQ
      simp only at HQ
      clear b0
      go_wp2_with fail
      go_ret
      exact ⟨rfl, HQ.out.1, HQ.out.2.1, HQ.out.2.2⟩
    | true =>
      simp only [true_and]
      by_cases hlt : tk < fk
      · simp only [if_pos hlt] at HC ⊢
        go_enter Try.func20, Try.ntmps20
        go_wp2_with (go_at_call 10; refine HN.out.mono ?_; rintro e w1 ⟨rfl, hf1, hg1⟩; have HF1 := hide hf1; have HG1 := hide hg1; have HX1 := hide (HM1.out w1 hg1); obtain ⟨b0, b1, b2, b3⟩ := HX1.out.s.cells i hi; have q0 := HX1.out.s.frozen (i * 4); have q1 := HX1.out.s.frozen (i * 4 + 1); have q2 := HX1.out.s.frozen (i * 4 + 2); have q3 := HX1.out.s.frozen (i * 4 + 3); have gsl := HX1.out.s.lt; have gml := HX1.out.m.lt; have n0 := HX1.out.m.cells.1; unfold fcmp at n0; rw [hFi] at b0 b1 b2 b3; unfold feedV at b0; simp only at b0 b1 b2 b3; clear hf1 hg1 c0 c1 c2 c3)
        obtain ⟨gt, hgt⟩ : ∃ g, w1.heap.size = g := ⟨_, rfl⟩
        obtain ⟨w2, hw2⟩ : ∃ w2, w1.alloc (.cells #[.int .i64 tk, .int .i64 tn] 36) = w2 := ⟨_, rfl⟩
        have HB2 : Hid (Below w1.heap.size w1 w2) := by rw [← hw2]; exact (Below.refl _ _).alloc (Nat.le_refl _) _
        have HT2 : Hid (w2.heap[gt]? = some (.cells #[.int .i64 tk, .int .i64 tn] 36)) := by rw [← hw2, ← hgt]; exact heap_alloc_new _ _
        have HL2 := hide (left_new HX1.out HF1.out HG1.out HB2.out)
        have HNG : Hid (gt ≠ gs ∧ gt ≠ gm) := ⟨by omega, by omega⟩
        rw [hw2, hgt]
        clear hw2 hgt b0 b1 b2 b3 q0 q1 q2 q3 gsl gml n0 HX1 HF1 HG1
        obtain ⟨t0, t1⟩ := two_of HT2.out
        obtain ⟨b0, b1, b2, b3⟩ := HL2.out.1.s.cells i hi
        have n0 := HL2.out.1.m.cells.1
        unfold fcmp at n0
        rw [hFi] at b0 b1 b2 b3
        simp only at b0 b1 b2 b3
        have B0 : Hid (Below w2.heap.size w2 w2.drew) := (Below.refl _ _).drew
        have HLG : Hid (gs < w2.heap.size ∧ gm < w2.heap.size ∧ gt < w2.heap.size) := ⟨HL2.out.1.s.lt, HL2.out.1.m.lt, lt_row HT2.out⟩
        first | (go_region_held_law (fun V => (V.cell? ⟨gs, i * 4 + 1, none⟩ = some (.int .i64 fk) ∧ V.cell? ⟨gs, i * 4 + 2, none⟩ = some (.int .i64 fn) ∧ V.cell? ⟨gs, i * 4 + 3, none⟩ = some (.bool true)) ∧ V.cell? ⟨gm, 0, none⟩ = some (.func (.func 12) #[] #[]) ∧ V.cell? ⟨gt, 0, none⟩ = some (.int .i64 tk) ∧ V.cell? ⟨gt, 1, none⟩ = some (.int .i64 tn)) (first | exact HS6.out | go_keep) (first
          | (go_at_call 12; refine (HC.out _).mono ?_; rintro e w3 ⟨rfl, hb6⟩
             have HB3 := hide (below_trans B0.out hb6)
             clear hb6
             have HS6 : Hid ((w3.cell? ⟨gs, i * 4 + 1, none⟩ = some (.int .i64 fk) ∧ w3.cell? ⟨gs, i * 4 + 2, none⟩ = some (.int .i64 fn) ∧ w3.cell? ⟨gs, i * 4 + 3, none⟩ = some (.bool true)) ∧ w3.cell? ⟨gm, 0, none⟩ = some (.func (.func 12) #[] #[]) ∧ w3.cell? ⟨gt, 0, none⟩ = some (.int .i64 tk) ∧ w3.cell? ⟨gt, 1, none⟩ = some (.int .i64 tn)) := ⟨⟨(HB3.out.cell (p := ⟨gs, i * 4 + 1, none⟩) HLG.out.1).trans b1, (HB3.out.cell (p := ⟨gs, i * 4 + 2, none⟩) HLG.out.1).trans b2, (HB3.out.cell (p := ⟨gs, i * 4 + 3, none⟩) HLG.out.1).trans b3⟩, (HB3.out.cell (p := ⟨gm, 0, none⟩) HLG.out.2.1).trans n0, (HB3.out.cell (p := ⟨gt, 0, none⟩) HLG.out.2.2).trans t0, (HB3.out.cell (p := ⟨gt, 1, none⟩) HLG.out.2.2).trans t1⟩))) | fail
        all_goals
          go_wp2_with fail
          go_ret
          rw [← hFi, setF_self]
          exact ⟨rfl, HL2.out.1.below HB3.out, HL2.out.2.1.same (HB3.out.block gf (lt_row HL2.out.2.1)), HL2.out.2.2.trans (Tn.of_below _ HB3.out)⟩
      · simp only [if_neg hlt] at HC ⊢
        have hcv : ¬ (if fk < tk then (7 : Int) else 0) < 0 := by split <;> omega
        generalize (if fk < tk then (7 : Int) else 0) = cv at HC hcv
        go_enter Try.func20, Try.ntmps20
        go_wp2_with (go_at_call 10; refine HN.out.mono ?_; rintro e w1 ⟨rfl, hf1, hg1⟩; have HF1 := hide hf1; have HG1 := hide hg1; have HX1 := hide (HM1.out w1 hg1); obtain ⟨b0, b1, b2, b3⟩ := HX1.out.s.cells i hi; have q0 := HX1.out.s.frozen (i * 4); have q1 := HX1.out.s.frozen (i * 4 + 1); have q2 := HX1.out.s.frozen (i * 4 + 2); have q3 := HX1.out.s.frozen (i * 4 + 3); have gsl := HX1.out.s.lt; have gml := HX1.out.m.lt; have n0 := HX1.out.m.cells.1; unfold fcmp at n0; rw [hFi] at b0 b1 b2 b3; unfold feedV at b0; simp only at b0 b1 b2 b3; clear hf1 hg1 c0 c1 c2 c3)
        obtain ⟨gt, hgt⟩ : ∃ g, w1.heap.size = g := ⟨_, rfl⟩
        obtain ⟨w2, hw2⟩ : ∃ w2, w1.alloc (.cells #[.int .i64 tk, .int .i64 tn] 36) = w2 := ⟨_, rfl⟩
        have HB2 : Hid (Below w1.heap.size w1 w2) := by rw [← hw2]; exact (Below.refl _ _).alloc (Nat.le_refl _) _
        have HT2 : Hid (w2.heap[gt]? = some (.cells #[.int .i64 tk, .int .i64 tn] 36)) := by rw [← hw2, ← hgt]; exact heap_alloc_new _ _
        have HL2 := hide (left_new HX1.out HF1.out HG1.out HB2.out)
        have HNG : Hid (gt ≠ gs ∧ gt ≠ gm) := ⟨by omega, by omega⟩
        rw [hw2, hgt]
        clear hw2 hgt b0 b1 b2 b3 q0 q1 q2 q3 gsl gml n0 HX1 HF1 HG1
        obtain ⟨t0, t1⟩ := two_of HT2.out
        obtain ⟨b0, b1, b2, b3⟩ := HL2.out.1.s.cells i hi
        have n0 := HL2.out.1.m.cells.1
        unfold fcmp at n0
        rw [hFi] at b0 b1 b2 b3
        simp only at b0 b1 b2 b3
        have B0 : Hid (Below w2.heap.size w2 w2.drew) := (Below.refl _ _).drew
        have HLG : Hid (gs < w2.heap.size ∧ gm < w2.heap.size ∧ gt < w2.heap.size) := ⟨HL2.out.1.s.lt, HL2.out.1.m.lt, lt_row HT2.out⟩
        first | (go_region_held_law (fun V => (V.cell? ⟨gs, i * 4 + 1, none⟩ = some (.int .i64 fk) ∧ V.cell? ⟨gs, i * 4 + 2, none⟩ = some (.int .i64 fn) ∧ V.cell? ⟨gs, i * 4 + 3, none⟩ = some (.bool true)) ∧ V.cell? ⟨gm, 0, none⟩ = some (.func (.func 12) #[] #[]) ∧ V.cell? ⟨gt, 0, none⟩ = some (.int .i64 tk) ∧ V.cell? ⟨gt, 1, none⟩ = some (.int .i64 tn)) (first | exact HS6.out | go_keep) (first
          | (go_at_call 12; refine (HC.out _).mono ?_; rintro e w3 ⟨rfl, hb6⟩
             have HB3 := hide (below_trans B0.out hb6)
             clear hb6
             have HS6 : Hid ((w3.cell? ⟨gs, i * 4 + 1, none⟩ = some (.int .i64 fk) ∧ w3.cell? ⟨gs, i * 4 + 2, none⟩ = some (.int .i64 fn) ∧ w3.cell? ⟨gs, i * 4 + 3, none⟩ = some (.bool true)) ∧ w3.cell? ⟨gm, 0, none⟩ = some (.func (.func 12) #[] #[]) ∧ w3.cell? ⟨gt, 0, none⟩ = some (.int .i64 tk) ∧ w3.cell? ⟨gt, 1, none⟩ = some (.int .i64 tn)) := ⟨⟨(HB3.out.cell (p := ⟨gs, i * 4 + 1, none⟩) HLG.out.1).trans b1, (HB3.out.cell (p := ⟨gs, i * 4 + 2, none⟩) HLG.out.1).trans b2, (HB3.out.cell (p := ⟨gs, i * 4 + 3, none⟩) HLG.out.1).trans b3⟩, (HB3.out.cell (p := ⟨gm, 0, none⟩) HLG.out.2.1).trans n0, (HB3.out.cell (p := ⟨gt, 0, none⟩) HLG.out.2.2).trans t0, (HB3.out.cell (p := ⟨gt, 1, none⟩) HLG.out.2.2).trans t1⟩))) | fail
        all_goals
          have HL3 : Hid (MS w3 gm gs n pl bg ov er F ∧ FB w3 gf f.next ∧ Tn w w3 (fun j => j = gs ∨ j = gf)) := ⟨HL2.out.1.below HB3.out, HL2.out.2.1.same (HB3.out.block gf (lt_row HL2.out.2.1)), HL2.out.2.2.trans (Tn.of_below _ HB3.out)⟩
          have HT3 : Hid (w3.heap[gt]? = some (.cells #[.int .i64 tk, .int .i64 tn] 36)) := (HB3.out.block gt (lt_row HT2.out)).trans HT2.out
          clear t0 t1 b0 b1 b2 b3 n0
          obtain ⟨t0, t1⟩ := two_of HT3.out
          obtain ⟨b0, b1, b2, b3⟩ := HL3.out.1.s.cells i hi
          have q1 := HL3.out.1.s.frozen (i * 4 + 1)
          have q2 := HL3.out.1.s.frozen (i * 4 + 2)
          have q3 := HL3.out.1.s.frozen (i * 4 + 3)
          rw [hFi] at b0 b1 b2 b3
          simp only at b0 b1 b2 b3
          have hng : ¬ gt = gs := HNG.out.1
          have hng2 : ¬ gs = gt := fun e => HNG.out.1 e.symm
          have HQ := hide (left_put3 HL3.out.1 HL3.out.2.1 HL3.out.2.2 hgs i hi ⟨tk, tn⟩)
          rw [hFi] at HQ
          simp only at HQ
          clear b0
          go_wp2_with fail
          go_ret
          exact ⟨rfl, HQ.out.1, HQ.out.2.1, HQ.out.2.2⟩
  · simp only [if_neg hat]
    have h1 : f.th = ⟨-99, -99⟩ := by unfold Fd.th; rw [if_neg hat]
    have h2 : f.err = f.fin := by unfold Fd.err; rw [if_neg hat]
    have h3 : decide (f.at_ < f.ts.length) = false := by simpa using hat
    rw [h1, h2, h3] at HN
    clear h1 h2 h3
    unfold Th.val at HN
    simp only at HN
    generalize f.fin = fe at *
    by_cases hfe : fe = 0
    · subst hfe
      simp only [if_true]
      go_enter Try.func20, Try.ntmps20
      go_wp2_with (go_at_call 10; refine HN.out.mono ?_; rintro e w1 ⟨rfl, hf1, hg1⟩; have HF1 := hide hf1; have HG1 := hide hg1; have HX1 := hide (HM1.out w1 hg1); obtain ⟨b0, b1, b2, b3⟩ := HX1.out.s.cells i hi; have q0 := HX1.out.s.frozen (i * 4); have q1 := HX1.out.s.frozen (i * 4 + 1); have q2 := HX1.out.s.frozen (i * 4 + 2); have q3 := HX1.out.s.frozen (i * 4 + 3); have gsl := HX1.out.s.lt; have gml := HX1.out.m.lt; have n0 := HX1.out.m.cells.1; unfold fcmp at n0; rw [hFi] at b0 b1 b2 b3; unfold feedV at b0; simp only at b0 b1 b2 b3; clear hf1 hg1 c0 c1 c2 c3)
      go_ret
      exact ⟨rfl, left_put HX1.out HF1.out HG1.out hgs i hi sc0 _⟩
    · simp only [if_neg hfe]
      go_enter Try.func20, Try.ntmps20
      go_wp2_with (go_at_call 10; refine HN.out.mono ?_; rintro e w1 ⟨rfl, hf1, hg1⟩; have HF1 := hide hf1; have HG1 := hide hg1; have HX1 := hide (HM1.out w1 hg1); obtain ⟨b0, b1, b2, b3⟩ := HX1.out.s.cells i hi; have q0 := HX1.out.s.frozen (i * 4); have q1 := HX1.out.s.frozen (i * 4 + 1); have q2 := HX1.out.s.frozen (i * 4 + 2); have q3 := HX1.out.s.frozen (i * 4 + 3); have gsl := HX1.out.s.lt; have gml := HX1.out.m.lt; have n0 := HX1.out.m.cells.1; unfold fcmp at n0; rw [hFi] at b0 b1 b2 b3; unfold feedV at b0; simp only at b0 b1 b2 b3; clear hf1 hg1 c0 c1 c2 c3)
      go_ret
      rw [← hFi, setF_self]
      exact ⟨rfl, left_new HX1.out HF1.out HG1.out ((Below.refl _ _).alloc (Nat.le_refl _) _)⟩
end Go.Proofs.Ytcnfkgmefikcjaa.Me
