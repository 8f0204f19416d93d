/-
  The program's Check, Line and Map.
-/
import Derived.Test.YtficnlglofgekaaDoorJbCut
import Derived.Laws.EntriesVeiled
namespace Go.Proofs.YtficnlglofgekaaDoor.Jb
open Go.ChangeShapes Go.WideShapes Go.ChangeAt Go.RowKit
open Go.Lib hiding intOf
open Go.Proofs.YtficnlglofgekaaDoor.Base
set_option linter.unusedVariables false
def chk (kind : Int) : Int := if kind < 0 ∨ 4 < kind then 150 else 0
theorem check_any (kind : Int) (w : World) :
    Calls Tryd.prog 8 #[.int .i64 kind] w fun e w' => e = .returned (.int .i64 (chk kind)) ∧ w' = w := by
  unfold chk
  go_enter Tryd.func8, Tryd.ntmps8
  by_cases h1 : kind < 0
  · go_wp2_with fail
    go_ret
    exact ⟨by first | rfl | (rw [if_pos (.inl h1)]; rfl), rfl⟩
  · by_cases h2 : 4 < kind
    · go_wp2_with fail
      go_ret
      exact ⟨by first | rfl | (rw [if_pos (.inr h2)]; rfl), rfl⟩
    · go_wp2_with fail
      go_ret
      exact ⟨by first | rfl | (rw [if_neg (by omega)]; rfl), rfl⟩
theorem rcheck_any (kind : Int) (w : World) :
    Calls Tryd.prog 9 #[.int .i64 kind] w fun e w' => e = .returned (.int .i64 (chk kind)) ∧ w' = w := by
  unfold chk
  go_enter Tryd.func9, Tryd.ntmps9
  by_cases h1 : kind < 0
  · go_wp2_with fail
    go_ret
    exact ⟨by first | rfl | (rw [if_pos (.inl h1)]; rfl), rfl⟩
  · by_cases h2 : 4 < kind
    · go_wp2_with fail
      go_ret
      exact ⟨by first | rfl | (rw [if_pos (.inr h2)]; rfl), rfl⟩
    · go_wp2_with fail
      go_ret
      exact ⟨by first | rfl | (rw [if_neg (by omega)]; rfl), rfl⟩
theorem line_any (k v : ByteArray) (w : World) (hk : k.size ≤ 1099511627776) (hv : v.size ≤ 1099511627776) :
    Calls Tryd.prog 10 #[.string k, .string v] w fun e w' => e = .returned (.string (k ++ ⟨#[9]⟩ ++ v ++ ⟨#[10]⟩)) ∧ w' = w := by
  go_enter Tryd.func10, Tryd.ntmps10
  go_wp2_with fail
  all_goals first
    | (exfalso; simp only [ByteArray.size_append] at *; omega)
    | (go_ret; exact ⟨rfl, rfl⟩)
theorem rline_any (k v : ByteArray) (w : World) (hk : k.size ≤ 1099511627776) (hv : v.size ≤ 1099511627776) :
    Calls Tryd.prog 11 #[.string k, .string v] w fun e w' => e = .returned (.string (k ++ ⟨#[9]⟩ ++ v ++ ⟨#[10]⟩)) ∧ w' = w := by
  go_enter Tryd.func11, Tryd.ntmps11
  go_wp2_with fail
  all_goals first
    | (exfalso; simp only [ByteArray.size_append] at *; omega)
    | (go_ret; exact ⟨rfl, rfl⟩)
theorem Ans.from {w w1 w' : World} {e : Ending} {ps : List Pr} {n : Nat} (h : Ans w1 e w' ps n) (hb : Below w.heap.size w w1) : Ans w e w' ps n := by
  obtain ⟨x, h1, h2, h3⟩ := h
  exact ⟨x, h1, h2.mono hb.size, hb.trans (h3.mono hb.size)⟩
set_option maxHeartbeats 2000000 in
set_option maxRecDepth 100000 in
theorem map_any (kind p : Int) (s : ByteArray) (w : World) (hs : s.size ≤ 1048576) (hp : In64 p) (hw : Wd w) :
    Calls Tryd.prog 5 #[.int .i64 kind, .int .i64 p, .string s] w fun e w' => Ans w e w' (mapP kind p s) (mapN kind s) := by
  have HP := hide hp
  have HW := hide hw
  clear hp hw
  by_cases hbad : kind < 0 ∨ 4 < kind
  · have HE : Hid (mapP kind p s = [] ∧ mapN kind s = 0) := by
      unfold mapP mapN
      rw [if_neg (by omega), if_neg (by omega), if_neg (by omega), if_neg (by omega), if_neg (by omega), if_neg (by omega), if_neg (by omega), if_neg (by omega), if_neg (by omega), if_neg (by omega)]
      exact ⟨rfl, rfl⟩
    have HC : Hid (∀ W, Calls Tryd.prog 8 #[.int .i64 kind] W fun e w' => e = .returned (.int .i64 150) ∧ w' = W) := fun W => by have h := check_any kind W; unfold chk at h; rw [if_pos hbad] at h; exact h
    rw [HE.out.1, HE.out.2]
    clear hbad
    go_enter Tryd.func5, Tryd.ntmps5
    go_wp2_with (go_at_call 8; refine (HC.out _).mono ?_; rintro e w1 ⟨rfl, rfl⟩)
    go_ret2
    exact ⟨_, rfl, ownp_none _ _, Below.refl _ _⟩
  · have hk : kind = 0 ∨ kind = 1 ∨ kind = 2 ∨ kind = 3 ∨ kind = 4 := by omega
    clear hbad
    rcases hk with rfl | rfl | rfl | rfl | rfl
    · have HM : Hid (∀ W, Wd W → Calls Tryd.prog 20 #[.int .i64 p, .string s] W fun e w' => Ans W e w' (mapP 0 p s) (mapN 0 s)) := fun W hW => counted_any p s W hs
      have HC : Hid (∀ W, Calls Tryd.prog 8 #[.int .i64 0] W fun e w' => e = .returned (.int .i64 0) ∧ w' = W) := fun W => check_any 0 W
      generalize mapP 0 p s = L at HM ⊢
      generalize mapN 0 s = N at HM ⊢
      go_enter Tryd.func5, Tryd.ntmps5
      go_wp2_with (first
        | (go_at_call 8; refine (HC.out _).mono ?_; rintro e w1 ⟨rfl, hq1⟩; obtain rfl := hq1.symm)
        | (go_at_call 20; refine (HM.out _ (HW.out.below ((Below.refl _ _).alloc (Nat.le_refl _) _))).mono ?_; rintro e w2 ⟨x, rfl, ho, hb⟩; have HA : Hid (OwnP w2 w.heap.size x L) := (by first | exact ho.mono (by simp) | exact ho.mono (by omega)); have HB : Hid (Below w.heap.size w w2) := ((Below.refl w.heap.size w).alloc (Nat.le_refl _) _).trans (hb.mono (by simp)); clear ho hb))
      go_ret2
      exact ⟨x, rfl, HA.out, HB.out⟩
    · have HM : Hid (∀ W, Wd W → Calls Tryd.prog 21 #[.int .i64 p, .string s] W fun e w' => Ans W e w' (mapP 1 p s) (mapN 1 s)) := fun W hW => indexed_any p s W hs HP.out hW
      have HC : Hid (∀ W, Calls Tryd.prog 8 #[.int .i64 1] W fun e w' => e = .returned (.int .i64 0) ∧ w' = W) := fun W => check_any 1 W
      generalize mapP 1 p s = L at HM ⊢
      generalize mapN 1 s = N at HM ⊢
      go_enter Tryd.func5, Tryd.ntmps5
      go_wp2_with (first
        | (go_at_call 8; refine (HC.out _).mono ?_; rintro e w1 ⟨rfl, hq1⟩; obtain rfl := hq1.symm)
        | (go_at_call 21; refine (HM.out _ (HW.out.below ((Below.refl _ _).alloc (Nat.le_refl _) _))).mono ?_; rintro e w2 ⟨x, rfl, ho, hb⟩; have HA : Hid (OwnP w2 w.heap.size x L) := (by first | exact ho.mono (by simp) | exact ho.mono (by omega)); have HB : Hid (Below w.heap.size w w2) := ((Below.refl w.heap.size w).alloc (Nat.le_refl _) _).trans (hb.mono (by simp)); clear ho hb))
      go_ret2
      exact ⟨x, rfl, HA.out, HB.out⟩
    · have HM : Hid (∀ W, Wd W → Calls Tryd.prog 22 #[.int .i64 p, .string s] W fun e w' => Ans W e w' (mapP 2 p s) (mapN 2 s)) := fun W hW => numbered_any p s W hs hW
      have HC : Hid (∀ W, Calls Tryd.prog 8 #[.int .i64 2] W fun e w' => e = .returned (.int .i64 0) ∧ w' = W) := fun W => check_any 2 W
      generalize mapP 2 p s = L at HM ⊢
      generalize mapN 2 s = N at HM ⊢
      go_enter Tryd.func5, Tryd.ntmps5
      go_wp2_with (first
        | (go_at_call 8; refine (HC.out _).mono ?_; rintro e w1 ⟨rfl, hq1⟩; obtain rfl := hq1.symm)
        | (go_at_call 22; refine (HM.out _ (HW.out.below ((Below.refl _ _).alloc (Nat.le_refl _) _))).mono ?_; rintro e w2 ⟨x, rfl, ho, hb⟩; have HA : Hid (OwnP w2 w.heap.size x L) := (by first | exact ho.mono (by simp) | exact ho.mono (by omega)); have HB : Hid (Below w.heap.size w w2) := ((Below.refl w.heap.size w).alloc (Nat.le_refl _) _).trans (hb.mono (by simp)); clear ho hb))
      go_ret2
      exact ⟨x, rfl, HA.out, HB.out⟩
    · have HM : Hid (∀ W, Wd W → Calls Tryd.prog 23 #[.int .i64 p, .string s] W fun e w' => Ans W e w' (mapP 3 p s) (mapN 3 s)) := fun W hW => keyed_any p s W hs
      have HC : Hid (∀ W, Calls Tryd.prog 8 #[.int .i64 3] W fun e w' => e = .returned (.int .i64 0) ∧ w' = W) := fun W => check_any 3 W
      generalize mapP 3 p s = L at HM ⊢
      generalize mapN 3 s = N at HM ⊢
      go_enter Tryd.func5, Tryd.ntmps5
      go_wp2_with (first
        | (go_at_call 8; refine (HC.out _).mono ?_; rintro e w1 ⟨rfl, hq1⟩; obtain rfl := hq1.symm)
        | (go_at_call 23; refine (HM.out _ (HW.out.below ((Below.refl _ _).alloc (Nat.le_refl _) _))).mono ?_; rintro e w2 ⟨x, rfl, ho, hb⟩; have HA : Hid (OwnP w2 w.heap.size x L) := (by first | exact ho.mono (by simp) | exact ho.mono (by omega)); have HB : Hid (Below w.heap.size w w2) := ((Below.refl w.heap.size w).alloc (Nat.le_refl _) _).trans (hb.mono (by simp)); clear ho hb))
      go_ret2
      exact ⟨x, rfl, HA.out, HB.out⟩
    · have HM : Hid (∀ W, Wd W → Calls Tryd.prog 24 #[.int .i64 p, .string s] W fun e w' => Ans W e w' (mapP 4 p s) (mapN 4 s)) := fun W hW => whole_any p s W hs
      have HC : Hid (∀ W, Calls Tryd.prog 8 #[.int .i64 4] W fun e w' => e = .returned (.int .i64 0) ∧ w' = W) := fun W => check_any 4 W
      generalize mapP 4 p s = L at HM ⊢
      generalize mapN 4 s = N at HM ⊢
      go_enter Tryd.func5, Tryd.ntmps5
      go_wp2_with (first
        | (go_at_call 8; refine (HC.out _).mono ?_; rintro e w1 ⟨rfl, hq1⟩; obtain rfl := hq1.symm)
        | (go_at_call 24; refine (HM.out _ (HW.out.below ((Below.refl _ _).alloc (Nat.le_refl _) _))).mono ?_; rintro e w2 ⟨x, rfl, ho, hb⟩; have HA : Hid (OwnP w2 w.heap.size x L) := (by first | exact ho.mono (by simp) | exact ho.mono (by omega)); have HB : Hid (Below w.heap.size w w2) := ((Below.refl w.heap.size w).alloc (Nat.le_refl _) _).trans (hb.mono (by simp)); clear ho hb))
      go_ret2
      exact ⟨x, rfl, HA.out, HB.out⟩
end Go.Proofs.YtficnlglofgekaaDoor.Jb
