/-
  The winner's games, played anew.
-/
import Derived.Test.YtcnfkgmefikcjaaMePlay
namespace Go.Proofs.Ytcnfkgmefikcjaa.Me
open Go.ChangeShapes Go.WideShapes Go.ChangeAt Go.RowKit
open Go.Proofs.Ytcnfkgmefikcjaa.Base
set_option linter.unusedVariables false
theorem settle_named (gm gs n : Nat) (bg ov : Bool) (er : Int) (F : Nat → Sc) (W : World) (p : Nat → Nat) (g a b : Nat) (h : MS W gm gs n p bg ov er F) (ha : a < n) (hb : b < n) (hg : g < 64) : Calls Try.prog 21 #[.pointer (some ⟨gm, 0, none⟩), .int .i64 (g : Int), .int .i64 (a : Int), .int .i64 (b : Int)] W fun e w' => ∃ r q : Nat, e = .returned (.int .i64 (r : Int)) ∧ Hid (r = if ah F b a = true then b else a) ∧ Hid (q = if ah F b a = true then a else b) ∧ MS w' gm gs n (setN p g q) bg ov er F ∧ W.grownBy w' (some gm) := by
  refine (settle_any gm gs n p bg ov er F g a b W h ha hb hg).mono ?_
  rintro e w' ⟨rfl, h1, h2⟩
  exact ⟨_, _, rfl, rfl, rfl, h1, h2⟩
theorem T.two {n : Nat} {ah : Nat → Nat → Bool} {pl : Nat → Nat} {g r : Nat} (h : T n ah pl g r) : g < 2 * n := by
  induction h using T.ind with
  | leaf g h1 h2 => exact h2
  | left g a b h0 h1 => omega
  | right g a b h0 h1 => omega
set_option maxHeartbeats 4000000 in
set_option maxRecDepth 100000 in
theorem replay_any (gm gs n : Nat) (bg ov : Bool) (er : Int) (F0 F : Nat → Sc) (pl : Nat → Nat) (w : World) (hM : MS w gm gs n pl bg ov er F) (hT : T n (ah F0) pl 1 (pl 0)) (hF : ∀ a b, a ≠ pl 0 → b ≠ pl 0 → a < n → b < n → ah F a b = ah F0 a b) :
    Calls Try.prog 18 #[.pointer (some ⟨gm, 0, none⟩)] w fun e w' => e = .returned (.tuple #[]) ∧ ∃ (pl' : Nat → Nat), T n (ah F) pl' 1 (pl' 0) ∧ MS w' gm gs n pl' bg ov er F ∧ w.grownBy w' (some gm) := by
  have hw := hT.sub.2
  have hn := hM.n64
  have m1 := hM.m.cells.2.1
  have HW := hide (winner_any gm gs n pl bg ov er F w hM)
  have HM := hide hM
  have HU : Hid (Up n (ah F) pl (pl 0 + n)) := hT.zip hF .root
  have HL : Hid (T n (ah F) pl (pl 0 + n) (pl 0)) := by
    have h1 : T n (ah F) pl (pl 0 + n) (pl 0 + n - n) := T.leaf (pl 0 + n) (by omega) (by omega)
    rw [Nat.add_sub_cancel] at h1
    exact h1
  clear hM hT hF
  generalize pl 0 = v at *
  obtain ⟨c, hc⟩ : ∃ c, v + n = c := ⟨_, rfl⟩
  rw [hc] at HU HL
  have hwc : IntKind.i64.wrap ((v : Int) + (n : Int)) = (c : Int) := by rw [IntKind.wrap_i64]; omega
  have HCV := hide hc
  clear hc
  have HSY := hide (fun a b => ah_asym F a b)
  obtain ⟨g0, hg0⟩ : ∃ g, c / 2 = g := ⟨_, rfl⟩
  have HQ0 : Hid (wrap64 ((c : Int) / 2) = (g0 : Int)) := by
    have h1 := HCV.out
    show wrap64 ((c : Int) / 2) = (g0 : Int)
    unfold wrap64
    omega
  have HG0 := hide hg0
  have HC0 : Hid (0 < c ∧ g0 ≤ 64) := by have h1 := HCV.out; exact ⟨by omega, by omega⟩
  clear hg0
  go_enter Try.func18, Try.ntmps18
  go_wp2_with (go_at_call 14; refine HW.out.mono ?_; rintro e w1 ⟨rfl, rfl⟩)
  clear HW m1 hwc
  go_loopw [2, 3] (fun s2 s3 wr => ∃ (c g r : Nat) (p : Nat → Nat), .int .i64 (r : Int) = s2 ∧ .int .i64 (g : Int) = s3 ∧ g ≤ 64 ∧ Hid (c / 2 = g) ∧ Hid (0 < c) ∧ Hid (T n (ah F) p c r) ∧ Hid (Up n (ah F) p c) ∧ Hid (MS wr gm gs n p bg ov er F) ∧ Hid (w1.grownBy wr (some gm))) (fun _ s3 _ => (intOf s3).toNat)
  case atStart => exact ⟨c, g0, v, pl, rfl, congrArg (Value.int .i64) HQ0.out.symm, HC0.out.2, HG0, HC0.out.1, HL, HU, HM, World.grownBy.refl _ _⟩
  case round =>
    clear HL HU HM HC0 HG0 HCV
    obtain ⟨c, g, r, p, rfl, rfl, hg, HCG, HC, HT, HU, HM, HG⟩ := hrel
    by_cases hg0 : 0 < g
    · have hgi : (0 : Int) < (g : Int) := by omega
      obtain ⟨_, hgn, hpn, HTN, HUN⟩ := HU.out.step HT.out (by have h1 := HCG.out; omega) (fun a b => HSY.out a b)
      rw [HCG.out] at hgn hpn HTN HUN
      have hg64 : (g : Int) < 64 := by omega
      have c0 := HM.out.m.place g (by omega)
      have hrn := HT.out.sub.2
      generalize hb : p g = b at c0 hpn HTN HUN
      have HST := hide (settle_named gm gs n bg ov er F wr p g r b HM.out hrn hpn (by omega))
      obtain ⟨g', hg'⟩ : ∃ g', g / 2 = g' := ⟨_, rfl⟩
      have HG' := hide hg'
      have HTN' := hide HTN
      have HUN' := hide HUN
      clear hb hg' HTN HUN
      go_wp2_with (go_at_call 21; refine HST.out.mono ?_; rintro e w7 ⟨r7, q7, rfl, HR7, HQ7, hm7, hg7⟩; have HM7 := hide hm7; have HG7 := hide (grown_trans HG.out hg7); clear hm7 hg7)
      go_roundw
      case rel =>
        refine ⟨g, g', r7, setN p g q7, rfl, by (have h1 := HG'.out; congr 1; omega), by have h1 := HG'.out; omega, HG', hg0, ?_, ?_, HM7, HG7⟩
        · rw [HR7.out, HQ7.out]; exact HTN'.out
        · rw [HQ7.out]; exact HUN'.out
      case measure => have h1 := HG'.out; simp [intOf]; omega
    · obtain rfl : g = 0 := by omega
      have hc1 : c = 1 := by have h1 := HCG.out; have h2 := HC.out; omega
      subst hc1
      have c0 : wr.cell? ⟨gm, 2, none⟩ = some (.int .i64 (p 0 : Int)) := HM.out.m.place 0 (by omega)
      have f0 := HM.out.m.frozen 2
      go_wp2_with fail
      go_end0
      refine ⟨rfl, setN p 0 r, ?_, HM.out.put 0 r (by omega), grown_cell HG.out _ _⟩
      rw [setN_eq]
      exact HT.out.frame (fun x hx => setN_other _ _ _ _ (by have := hx.le; omega)) (fun _ _ _ _ _ _ => rfl)
end Go.Proofs.Ytcnfkgmefikcjaa.Me
