/-
  The games: settle, play, playAll.
-/
import Derived.Test.YtcnfkgmefikcjaaMeMem
namespace Go.Proofs.Ytcnfkgmefikcjaa.Me
open Go.ChangeShapes Go.WideShapes Go.ChangeAt Go.RowKit
open Go.Proofs.Ytcnfkgmefikcjaa.Base
set_option linter.unusedVariables false
/-- A merge and its sources. -/
structure MS (w : World) (gm gs n : Nat) (pl : Nat → Nat) (bg ov : Bool) (er : Int) (F : Nat → Sc) : Prop where
  m : MB w gm (.slice (some ⟨gs, 0, none⟩) n n) pl bg ov er
  s : SB w gs n F
  ne : gm ≠ gs
  n64 : n ≤ 64
theorem MS.below {w w' : World} {gm gs n : Nat} {pl : Nat → Nat} {bg ov : Bool} {er : Int} {F : Nat → Sc} (h : MS w gm gs n pl bg ov er F) (hb : Below w.heap.size w w') : MS w' gm gs n pl bg ov er F := ⟨h.m.below hb, h.s.below hb, h.ne, h.n64⟩
theorem MS.put {w : World} {gm gs n : Nat} {pl : Nat → Nat} {bg ov : Bool} {er : Int} {F : Nat → Sc} (h : MS w gm gs n pl bg ov er F) (j v : Nat) (hj : j < 64) : MS (w.setCell ⟨gm, 2 + j, none⟩ (.int .i64 (v : Int))) gm gs n (setN pl j v) bg ov er F :=
  ⟨h.m.put j v hj, h.s.same (Below.heap_setCell _ _ _ _ (fun e => h.ne e.symm)), h.ne, h.n64⟩
theorem setN_eq (f : Nat → Nat) (x v : Nat) : setN f x v x = v := by unfold setN; rw [if_pos rfl]
theorem grown_any {w w' : World} (hb : Below w.heap.size w w') (q : Option Nat) : w.grownBy w' q := ⟨hb.os, hb.tape, hb.output, hb.size, fun k hk _ => hb.block k hk⟩
theorem grown_trans {w w1 w2 : World} {q : Option Nat} (h : w.grownBy w1 q) (k : w1.grownBy w2 q) : w.grownBy w2 q :=
  ⟨k.os.trans h.os, k.tape.trans h.tape, k.output.trans h.output, Nat.le_trans h.size k.size, fun i hi e => (k.block i (Nat.lt_of_lt_of_le hi h.size) e).trans (h.block i hi e)⟩
set_option maxHeartbeats 2000000 in
set_option maxRecDepth 100000 in
theorem settle_any (gm gs n : Nat) (pl : Nat → Nat) (bg ov : Bool) (er : Int) (F : Nat → Sc) (g a b : Nat) (w : World) (hM : MS w gm gs n pl bg ov er F) (ha : a < n) (hb : b < n) (hg : g < 64) :
    Calls Try.prog 21 #[.pointer (some ⟨gm, 0, none⟩), .int .i64 (g : Int), .int .i64 (a : Int), .int .i64 (b : Int)] w fun e w' => e = .returned (.int .i64 ((if ah F b a = true then b else a : Nat) : Int)) ∧ MS w' gm gs n (setN pl g (if ah F b a = true then a else b)) bg ov er F ∧ w.grownBy w' (some gm) := by
  have HI := hide (isAhead_any gm gs n pl bg ov er F b a w hM.m hM.s hb ha hM.n64)
  have HM := hide hM
  clear hM
  have hgi : (g : Int) < 64 := by omega
  generalize ah F b a = z at HI ⊢
  cases z with
  | false =>
    simp only [Bool.false_eq_true, if_false]
    go_enter Try.func21, Try.ntmps21
    go_wp2_with (go_at_call 23; refine HI.out.mono ?_; rintro e w1 ⟨rfl, hb1⟩; have HM1 := hide (HM.out.below hb1); have c0 := HM1.out.m.place g hg; have f0 := HM1.out.m.frozen (2 + g); have HGR := hide (grown_any hb1 (some gm)); clear hb1)
    go_ret
    exact ⟨rfl, HM1.out.put g b hg, grown_cell HGR.out _ _⟩
  | true =>
    simp only [if_true]
    go_enter Try.func21, Try.ntmps21
    go_wp2_with (go_at_call 23; refine HI.out.mono ?_; rintro e w1 ⟨rfl, hb1⟩; have HM1 := hide (HM.out.below hb1); have c0 := HM1.out.m.place g hg; have f0 := HM1.out.m.frozen (2 + g); have HGR := hide (grown_any hb1 (some gm)); clear hb1)
    go_ret
    exact ⟨rfl, HM1.out.put g a hg, grown_cell HGR.out _ _⟩
theorem winner_any (gm gs n : Nat) (pl : Nat → Nat) (bg ov : Bool) (er : Int) (F : Nat → Sc) (w : World) (hM : MS w gm gs n pl bg ov er F) :
    Calls Try.prog 14 #[.pointer (some ⟨gm, 0, none⟩)] w fun e w' => e = .returned (.int .i64 (pl 0 : Int)) ∧ w' = w := by
  have c0 : w.cell? ⟨gm, 2, none⟩ = some (.int .i64 (pl 0 : Int)) := hM.m.place 0 (by omega)
  clear hM
  go_enter Try.func14, Try.ntmps14
  go_wp2_with fail
  go_ret
  exact ⟨rfl, rfl⟩
/-- What playing a game leaves. -/
def Played (n : Nat) (F : Nat → Sc) (pl : Nat → Nat) (g : Nat) (r : Nat) (pl' : Nat → Nat) : Prop := T n (ah F) pl' g r ∧ ∀ x, ¬ In g x → pl' x = pl x
theorem Played.join {n : Nat} {F : Nat → Sc} {pl p1 p2 : Nat → Nat} {g r1 r2 : Nat} (h0 : 0 < g) (hg : g < n) (h1 : Played n F pl (2 * g) r1 p1) (h2 : Played n F p1 (2 * g + 1) r2 p2) :
    Played n F pl g (if ah F r2 r1 = true then r2 else r1) (setN p2 g (if ah F r2 r1 = true then r1 else r2)) := by
  have t1 : T n (ah F) p2 (2 * g) r1 := h1.1.frame (fun x hx => h2.2 x (fun q => hx.apart h0 q)) (fun _ _ _ _ _ _ => rfl)
  refine ⟨T.settle h0 hg t1 h2.1 (fun q => ah_asym F _ _ q), fun x hx => ?_⟩
  rw [setN_other _ _ _ _ (fun e => hx (by rw [e]; exact In.refl g)), h2.2 x (fun q => hx q.right), h1.2 x (fun q => hx q.left)]
set_option maxHeartbeats 4000000 in
set_option maxRecDepth 100000 in
theorem play_any (gm gs n : Nat) (bg ov : Bool) (er : Int) (F : Nat → Sc) : ∀ (k g : Nat) (pl : Nat → Nat) (w : World), 2 * n ≤ g + k → 0 < g → g < 2 * n → MS w gm gs n pl bg ov er F →
    Calls Try.prog 22 #[.pointer (some ⟨gm, 0, none⟩), .int .i64 (g : Int)] w fun e w' => ∃ (r : Nat) (pl' : Nat → Nat), e = .returned (.int .i64 (r : Int)) ∧ Played n F pl g r pl' ∧ MS w' gm gs n pl' bg ov er F ∧ w.grownBy w' (some gm) := by
  intro k
  induction k with
  | zero => intro g pl w h1 h2 h3; omega
  | succ k ih =>
    intro g pl w h1 h2 h3 hM
    have hn := hM.n64
    have m1 := hM.m.cells.2.1
    have HM := hide hM
    clear hM
    have HIH := hide ih
    clear ih
    by_cases hgn : n ≤ g
    · have hgi : (n : Int) ≤ (g : Int) := by omega
      obtain ⟨r, hr⟩ : ∃ r, g - n = r := ⟨_, rfl⟩
      have hwr : IntKind.i64.wrap ((g : Int) - (n : Int)) = (r : Int) := by rw [IntKind.wrap_i64]; omega
      have HR := hide hr
      clear hr
      go_enter Try.func22, Try.ntmps22
      go_wp2_with fail
      go_ret
      refine ⟨r, ?_⟩
      first
        | exact ⟨pl, rfl, ⟨by rw [← HR.out]; exact T.leaf g hgn h3, fun _ _ => rfl⟩, HM.out, World.grownBy.refl _ _⟩
        | exact ⟨rfl, pl, ⟨by rw [← HR.out]; exact T.leaf g hgn h3, fun _ _ => rfl⟩, HM.out, World.grownBy.refl _ _⟩
    · have hgi : ¬ (n : Int) ≤ (g : Int) := by omega
      have hgd : decide ((n : Int) ≤ (g : Int)) = false := by simpa using hgi
      obtain ⟨g2, hg2⟩ : ∃ g2, 2 * g = g2 := ⟨_, rfl⟩
      obtain ⟨g3, hg3⟩ : ∃ g3, 2 * g + 1 = g3 := ⟨_, rfl⟩
      have hw2 : IntKind.i64.wrap (2 * (g : Int)) = (g2 : Int) := by rw [IntKind.wrap_i64]; omega
      have hw3 : IntKind.i64.wrap ((g2 : Int) + 1) = (g3 : Int) := by rw [IntKind.wrap_i64]; omega
      have HP1 := hide (fun (W : World) (p : Nat → Nat) (h : MS W gm gs n p bg ov er F) => HIH.out g2 p W (by omega) (by omega) (by omega) h)
      have HP2 := hide (fun (W : World) (p : Nat → Nat) (h : MS W gm gs n p bg ov er F) => HIH.out g3 p W (by omega) (by omega) (by omega) h)
      have HG2 : Hid (∀ r p1, Played n F pl g2 r p1 → Played n F pl (2 * g) r p1 ∧ r < n) := fun r p1 h => by rw [hg2]; exact ⟨h, h.1.sub.2⟩
      have HG3 : Hid (∀ r p1 p2, Played n F p1 g3 r p2 → Played n F p1 (2 * g + 1) r p2 ∧ r < n) := fun r p1 p2 h => by rw [hg3]; exact ⟨h, h.1.sub.2⟩
      have HST : Hid (∀ (W : World) (p : Nat → Nat) (a b : Nat), MS W gm gs n p bg ov er F → a < n → b < n → Calls Try.prog 21 #[.pointer (some ⟨gm, 0, none⟩), .int .i64 (g : Int), .int .i64 (a : Int), .int .i64 (b : Int)] W fun e w' => ∃ r q : Nat, e = .returned (.int .i64 (r : Int)) ∧ Hid (r = if ah F b a = true then b else a) ∧ Hid (q = if ah F b a = true then a else b) ∧ MS w' gm gs n (setN p g q) bg ov er F ∧ W.grownBy w' (some gm)) := fun W p a b h ha hb => by
        refine (settle_any gm gs n p bg ov er F g a b W h ha hb (by omega)).mono ?_
        rintro e w' ⟨rfl, h1, h2⟩
        exact ⟨_, _, rfl, rfl, rfl, h1, h2⟩
      clear HIH hg2 hg3
      go_enter Try.func22, Try.ntmps22
      go_wp2_with (first
        | (go_at_call 21; refine (HST.out _ p2 r1 r2 HM6.out HR1.out.2 HR2.out.2).mono ?_; rintro e w7 ⟨r7, q7, rfl, HR7, HQ7, hm7, hg7⟩; have HM7 := hide hm7; have HG7 := hide (grown_trans HG6.out hg7); clear hm7 hg7)
        | (have hq := HM5.out; clear hq; go_at_call 22; refine (HP2.out _ _ HM5.out).mono ?_; rintro e w6 ⟨r2, p2, rfl, hp6, hm6, hg6⟩; have HR2 := hide (HG3.out _ _ _ hp6); have HM6 := hide hm6; have HG6 := hide (grown_trans HG5.out hg6); clear hp6 hm6 hg6)
        | (go_at_call 22; refine (HP1.out _ _ HM.out).mono ?_; rintro e w5 ⟨r1, p1, rfl, hp5, hm5, hg5⟩; have HR1 := hide (HG2.out _ _ hp5); have HM5 := hide hm5; have HG5 := hide hg5; clear hp5 hm5 hg5))
      go_ret
      have hpl : Played n F pl g r7 (setN p2 g q7) := by
        rw [HR7.out, HQ7.out]
        exact Played.join h2 (by omega) HR1.out.1 HR2.out.1
      refine ⟨r7, ?_⟩
      first
        | exact ⟨_, rfl, hpl, HM7.out, HG7.out⟩
        | exact ⟨rfl, _, hpl, HM7.out, HG7.out⟩
set_option maxHeartbeats 1000000 in
set_option maxRecDepth 100000 in
theorem playAll_any (gm gs n : Nat) (bg ov : Bool) (er : Int) (F : Nat → Sc) (pl : Nat → Nat) (w : World) (hn : 0 < n) (hM : MS w gm gs n pl bg ov er F) :
    Calls Try.prog 19 #[.pointer (some ⟨gm, 0, none⟩)] w fun e w' => e = .returned (.tuple #[]) ∧ ∃ (pl' : Nat → Nat), T n (ah F) pl' 1 (pl' 0) ∧ MS w' gm gs n pl' bg ov er F ∧ w.grownBy w' (some gm) := by
  have HB0 : Hid (Below w.heap.size w w.drew) := (Below.refl _ _).drew
  have HP := hide (play_any gm gs n bg ov er F (2 * n) 1 pl w.drew (by omega) (by omega) (by omega) (hM.below HB0.out))
  clear hM
  go_enter Try.func19, Try.ntmps19
  go_wp2_with fail
  go_region_with (go_at_call 22; refine HP.out.mono ?_; rintro e w5 ⟨r1, p1, rfl, hp5, hm5, hg5⟩; have HR1 := hide hp5; have HM5 := hide hm5; have HG5 := hide hg5; have c0 : w5.cell? ⟨gm, 2, none⟩ = some (.int .i64 (p1 0 : Int)) := hm5.m.place 0 (by omega); have f0 := hm5.m.frozen 2; clear hp5 hm5 hg5)
  all_goals
    go_wp2_with fail
    go_end0
    refine ⟨rfl, setN p1 0 r1, ?_, HM5.out.put 0 r1 (by omega), grown_cell (grown_trans (grown_any HB0.out _) HG5.out) _ _⟩
    rw [setN_eq]
    exact HR1.out.1.frame (fun x hx => setN_other _ _ _ _ (by have := hx.le; omega)) (fun _ _ _ _ _ _ => rfl)
end Go.Proofs.Ytcnfkgmefikcjaa.Me
