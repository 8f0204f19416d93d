/-
  The program's Reduce.
-/
import Derived.Test.YtficnlglofgekaaDoorJcRising
import Derived.Test.YtficnlglofgekaaDoorJcRedL
namespace Go.Proofs.YtficnlglofgekaaDoor.Jb
open Go.ChangeShapes Go.WideShapes Go.ChangeAt Go.RowKit
open Go.Lib hiding intOf
open Go.Proofs.YtficnlglofgekaaDoor.Base
open Go.Proofs.YtficnlglofgekaaDoor.Pa (OwnS RdS)
set_option linter.unusedVariables false
set_option maxHeartbeats 2000000 in
set_option maxRecDepth 100000 in
theorem reduce_any (kind : Int) (a : Option Addr) (n c : Nat) (ss : List ByteArray) (w : World) (hr : RdS w a n ss) (hc : n ≤ c) (hn : n ≤ 8796093022000) (hz : ∀ s ∈ ss, s.size ≤ 1099511627776) (hw : Wd w) :
    Calls Tryd.prog 14 #[.int .i64 kind, .slice a n c] w fun e w' => ∃ v, e = .returned v ∧ OwnS w' w.heap.size v (redL kind ss) ∧ Below w.heap.size w w' := by
  have HR := hide hr
  have HW := hide hw
  have HZ := hide hz
  have HN := hide hr.1
  clear hr hw hz
  by_cases hbad : kind < 0 ∨ 4 < kind
  · have HE : Hid (redL kind ss = []) := by show _ = _; unfold redL; rw [if_neg (by omega)]; unfold combL; rw [if_pos (.inr hbad)]
    have HC : Hid (∀ W, Calls Tryd.prog 8 #[.int .i64 kind] W fun e w' => e = .returned (.int .i64 150) ∧ w' = W) := fun W => by have h := check_any kind W; unfold chk at h; rw [if_pos hbad] at h; exact h
    rw [HE.out]
    clear hbad
    go_enter Tryd.func14, Tryd.ntmps14
    go_wp2_with (go_at_call 8; refine (HC.out _).mono ?_; rintro e w1 ⟨rfl, hq⟩; obtain rfl := hq.symm)
    go_ret
    exact ⟨_, rfl, Pa.owns_none _ _, Below.refl _ _⟩
  · by_cases h0 : n = 0
    · subst h0
      have HE : Hid (redL kind ss = []) := by show _ = _; exact redL_nil kind (List.length_eq_zero_iff.1 HN.out)
      have HC : Hid (∀ W, Calls Tryd.prog 8 #[.int .i64 kind] W fun e w' => e = .returned (.int .i64 0) ∧ w' = W) := fun W => by have h := check_any kind W; unfold chk at h; rw [if_neg hbad] at h; exact h
      rw [HE.out]
      clear hbad
      go_enter Tryd.func14, Tryd.ntmps14
      go_wp2_with (go_at_call 8; refine (HC.out _).mono ?_; rintro e w1 ⟨rfl, hq⟩; obtain rfl := hq.symm)
      go_ret
      exact ⟨_, rfl, Pa.owns_none _ _, Below.refl _ _⟩
    · have hnz : ((n : Int) == 0) = false := beq_eq_false_iff_ne.2 (by omega)
      have hne : ss ≠ [] := fun e => by have h := HN.out; rw [e] at h; simp at h; omega
      have hk : kind = 0 ∨ kind = 1 ∨ kind = 2 ∨ kind = 3 ∨ kind = 4 := by omega
      clear hbad
      rcases hk with rfl | rfl | rfl | rfl | rfl
      · have HE : Hid (redL 0 ss = [dec (totalL ss)]) := by
          show _ = _
          unfold redL
          rw [if_neg (by decide)]
          unfold combL
          rw [if_neg (by rintro (h | h | h); exact hne h; omega; omega)]
          rw [if_pos (by decide)]
        have HM : Hid (∀ W, Below w.heap.size w W → Calls Tryd.prog 29 #[.slice a n c] W fun e w' => ∃ v, e = .returned v ∧ OwnS w' W.heap.size v (redL 0 ss) ∧ Below W.heap.size W w') := fun W hb => by rw [HE.out]; exact total_any a n c ss W (HR.out.below hb) hn HZ.out (HW.out.below hb)
        have HC : Hid (∀ W, Calls Tryd.prog 8 #[.int .i64 0] W fun e w' => e = .returned (.int .i64 0) ∧ w' = W) := fun W => check_any 0 W
        generalize redL 0 ss = L at HM HE ⊢
        go_enter Tryd.func14, Tryd.ntmps14
        go_wp2_with (first
          | (go_at_call 8; refine (HC.out _).mono ?_; rintro e w1 ⟨rfl, hq1⟩; obtain rfl := hq1.symm)
          | (go_at_call 29; refine (HM.out _ ((Below.refl _ _).alloc (Nat.le_refl _) _)).mono ?_; rintro e w2 ⟨x, rfl, ho, hb⟩; have HA : Hid (OwnS w2 w.heap.size x L) := (by first | exact Pa.OwnS.mono ho (by simp) | exact Pa.OwnS.mono ho (by omega)); have HB : Hid (Below w.heap.size w w2) := ((Below.refl w.heap.size w).alloc (Nat.le_refl _) _).trans (hb.mono (by simp)); clear ho hb))
        go_ret
        exact ⟨x, rfl, HA.out, HB.out⟩
      · have HE : Hid (redL 1 ss = riseS ss) := by
          show _ = _
          unfold redL
          rw [if_pos rfl]
        have HM : Hid (∀ W, Below w.heap.size w W → Calls Tryd.prog 32 #[.slice a n c] W fun e w' => ∃ v, e = .returned v ∧ OwnS w' W.heap.size v (redL 1 ss) ∧ Below W.heap.size W w') := fun W hb => by rw [HE.out]; exact rising_any a n c ss W (HR.out.below hb) hn HZ.out (HW.out.below hb)
        have HC : Hid (∀ W, Calls Tryd.prog 8 #[.int .i64 1] W fun e w' => e = .returned (.int .i64 0) ∧ w' = W) := fun W => check_any 1 W
        generalize redL 1 ss = L at HM HE ⊢
        go_enter Tryd.func14, Tryd.ntmps14
        go_wp2_with (first
          | (go_at_call 8; refine (HC.out _).mono ?_; rintro e w1 ⟨rfl, hq1⟩; obtain rfl := hq1.symm)
          | (go_at_call 32; refine (HM.out _ ((Below.refl _ _).alloc (Nat.le_refl _) _)).mono ?_; rintro e w2 ⟨x, rfl, ho, hb⟩; have HA : Hid (OwnS w2 w.heap.size x L) := (by first | exact Pa.OwnS.mono ho (by simp) | exact Pa.OwnS.mono ho (by omega)); have HB : Hid (Below w.heap.size w w2) := ((Below.refl w.heap.size w).alloc (Nat.le_refl _) _).trans (hb.mono (by simp)); clear ho hb))
        go_ret
        exact ⟨x, rfl, HA.out, HB.out⟩
      · have HE : Hid (redL 2 ss = [dec (totalL ss)]) := by
          show _ = _
          unfold redL
          rw [if_neg (by decide)]
          unfold combL
          rw [if_neg (by rintro (h | h | h); exact hne h; omega; omega)]
          rw [if_pos (by decide)]
        have HM : Hid (∀ W, Below w.heap.size w W → Calls Tryd.prog 29 #[.slice a n c] W fun e w' => ∃ v, e = .returned v ∧ OwnS w' W.heap.size v (redL 2 ss) ∧ Below W.heap.size W w') := fun W hb => by rw [HE.out]; exact total_any a n c ss W (HR.out.below hb) hn HZ.out (HW.out.below hb)
        have HC : Hid (∀ W, Calls Tryd.prog 8 #[.int .i64 2] W fun e w' => e = .returned (.int .i64 0) ∧ w' = W) := fun W => check_any 2 W
        generalize redL 2 ss = L at HM HE ⊢
        go_enter Tryd.func14, Tryd.ntmps14
        go_wp2_with (first
          | (go_at_call 8; refine (HC.out _).mono ?_; rintro e w1 ⟨rfl, hq1⟩; obtain rfl := hq1.symm)
          | (go_at_call 29; refine (HM.out _ ((Below.refl _ _).alloc (Nat.le_refl _) _)).mono ?_; rintro e w2 ⟨x, rfl, ho, hb⟩; have HA : Hid (OwnS w2 w.heap.size x L) := (by first | exact Pa.OwnS.mono ho (by simp) | exact Pa.OwnS.mono ho (by omega)); have HB : Hid (Below w.heap.size w w2) := ((Below.refl w.heap.size w).alloc (Nat.le_refl _) _).trans (hb.mono (by simp)); clear ho hb))
        go_ret
        exact ⟨x, rfl, HA.out, HB.out⟩
      · have HE : Hid (redL 3 ss = ss) := by
          show _ = _
          unfold redL
          rw [if_neg (by decide)]
          unfold combL
          rw [if_neg (by rintro (h | h | h); exact hne h; omega; omega)]
          rw [if_neg (by decide), if_neg (by decide)]
        have HM : Hid (∀ W, Below w.heap.size w W → Calls Tryd.prog 30 #[.slice a n c] W fun e w' => ∃ v, e = .returned v ∧ OwnS w' W.heap.size v (redL 3 ss) ∧ Below W.heap.size W w') := fun W hb => by rw [HE.out]; exact asThey_any a n c ss W (HR.out.below hb) hn HZ.out
        have HC : Hid (∀ W, Calls Tryd.prog 8 #[.int .i64 3] W fun e w' => e = .returned (.int .i64 0) ∧ w' = W) := fun W => check_any 3 W
        generalize redL 3 ss = L at HM HE ⊢
        go_enter Tryd.func14, Tryd.ntmps14
        go_wp2_with (first
          | (go_at_call 8; refine (HC.out _).mono ?_; rintro e w1 ⟨rfl, hq1⟩; obtain rfl := hq1.symm)
          | (go_at_call 30; refine (HM.out _ ((Below.refl _ _).alloc (Nat.le_refl _) _)).mono ?_; rintro e w2 ⟨x, rfl, ho, hb⟩; have HA : Hid (OwnS w2 w.heap.size x L) := (by first | exact Pa.OwnS.mono ho (by simp) | exact Pa.OwnS.mono ho (by omega)); have HB : Hid (Below w.heap.size w w2) := ((Below.refl w.heap.size w).alloc (Nat.le_refl _) _).trans (hb.mono (by simp)); clear ho hb))
        go_ret
        exact ⟨x, rfl, HA.out, HB.out⟩
      · have HE : Hid (redL 4 ss = ss.take 1) := by
          show _ = _
          unfold redL
          rw [if_neg (by decide)]
          unfold combL
          rw [if_neg (by rintro (h | h | h); exact hne h; omega; omega)]
          rw [if_neg (by decide), if_pos (by decide)]
        have HM : Hid (∀ W, Below w.heap.size w W → Calls Tryd.prog 31 #[.slice a n c] W fun e w' => ∃ v, e = .returned v ∧ OwnS w' W.heap.size v (redL 4 ss) ∧ Below W.heap.size W w') := fun W hb => by rw [HE.out]; exact first_any a n c ss W (HR.out.below hb) (by omega) hc hn HZ.out
        have HC : Hid (∀ W, Calls Tryd.prog 8 #[.int .i64 4] W fun e w' => e = .returned (.int .i64 0) ∧ w' = W) := fun W => check_any 4 W
        generalize redL 4 ss = L at HM HE ⊢
        go_enter Tryd.func14, Tryd.ntmps14
        go_wp2_with (first
          | (go_at_call 8; refine (HC.out _).mono ?_; rintro e w1 ⟨rfl, hq1⟩; obtain rfl := hq1.symm)
          | (go_at_call 31; refine (HM.out _ ((Below.refl _ _).alloc (Nat.le_refl _) _)).mono ?_; rintro e w2 ⟨x, rfl, ho, hb⟩; have HA : Hid (OwnS w2 w.heap.size x L) := (by first | exact Pa.OwnS.mono ho (by simp) | exact Pa.OwnS.mono ho (by omega)); have HB : Hid (Below w.heap.size w w2) := ((Below.refl w.heap.size w).alloc (Nat.le_refl _) _).trans (hb.mono (by simp)); clear ho hb))
        go_ret
        exact ⟨x, rfl, HA.out, HB.out⟩
end Go.Proofs.YtficnlglofgekaaDoor.Jb
