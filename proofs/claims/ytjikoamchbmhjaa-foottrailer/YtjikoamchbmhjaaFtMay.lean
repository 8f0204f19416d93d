/-
  Trails: which may be, by the document's word.
-/
import Derived.Test.YtjikoamchbmhjaaFtTrail
namespace Go.Proofs.Ytjikoamchbmhjaa.Foot
open Go.ChangeShapes Go.WideShapes Go.ChangeAt Go.RowKit
open Go.Proofs.Ytjikoamchbmhjaa.Base
set_option linter.unusedVariables false
/-- Of how many bytes the body is whose pages have n bytes. -/
def okN (n : Nat) : Prop := 1 ≤ n ∧ n ≤ 16793600 ∧ 4 < (n - 1) % 4100 + 1
set_option maxHeartbeats 1000000 in
set_option maxRecDepth 100000 in
theorem bodyOf_any (n : Nat) (h : n ≤ 4611686018427387903) (w : World) : Calls Try.prog 25 #[.int .i64 (n : Int)] w fun e w' => (∃ b : Int, e = .returned (.int .i64 b) ∧ (0 < b ↔ okN n)) ∧ Below w.heap.size w w' := by
  obtain ⟨q, hq⟩ : ∃ q, (n + 4099) / 4100 = q := ⟨_, rfl⟩
  have hqi : ((n : Int) + 4096 + 3) / 4100 = (q : Int) := by omega
  obtain ⟨b, hb⟩ : ∃ b : Int, (n : Int) - 4 * (q : Int) = b := ⟨_, rfl⟩
  have hql : (q : Int) ≤ 1125899906842624 := by omega
  have hbl : b ≤ 4611686018427387903 := by omega
  have hbl2 : -4 ≤ b := by omega
  have HM := hide (pagesOf_any 16777216 (by omega))
  rw [show ((16777216 + 4 * ((16777216 + 4095) / 4096) : Nat) : Int) = 16793600 by decide] at HM
  have hcase : (n : Int) < 1 ∨ (¬ (n : Int) < 1 ∧ 16793600 < (n : Int)) ∨ (¬ (n : Int) < 1 ∧ ¬ 16793600 < (n : Int) ∧ b < 1) ∨ (¬ (n : Int) < 1 ∧ ¬ 16793600 < (n : Int) ∧ ¬ b < 1 ∧ 16777216 < b) ∨ (¬ (n : Int) < 1 ∧ ¬ 16793600 < (n : Int) ∧ ¬ b < 1 ∧ ¬ 16777216 < b) := by omega
  rcases hcase with h1 | ⟨h1, h2⟩ | ⟨h1, h2, h3⟩ | ⟨h1, h2, h3, h4⟩ | ⟨h1, h2, h3, h4⟩
  · have d1 : decide ((n : Int) < 1) = true := by simpa using h1
    have HF : Hid ((0 : Int) < 0 ↔ okN n) := by show _ ↔ _; unfold okN; omega
    clear h1 hq
    go_enter Try.func25, Try.ntmps25
    go_wp2_with fail
    go_ret
    exact ⟨⟨0, rfl, HF.out⟩, Below.refl _ _⟩
  · have d1 : decide ((n : Int) < 1) = false := by simpa using h1
    have d2 : decide (16793600 < (n : Int)) = true := by simpa using h2
    have HF : Hid ((0 : Int) < 0 ↔ okN n) := by show _ ↔ _; unfold okN; omega
    clear h1 h2 hq
    go_enter Try.func25, Try.ntmps25
    go_wp2_with fail
    refine (HM.out _).mono ?_
    rintro e w1 ⟨rfl, rfl⟩
    go_wp2_with fail
    go_ret
    exact ⟨⟨0, rfl, HF.out⟩, Below.refl _ _⟩
  · have d1 : decide ((n : Int) < 1) = false := by simpa using h1
    have d2 : decide (16793600 < (n : Int)) = false := by simpa using h2
    have d3 : decide (b < 1) = true := by simpa using h3
    have HF : Hid ((0 : Int) < 0 ↔ okN n) := by show _ ↔ _; unfold okN; omega
    clear h1 h2 h3 hq
    go_enter Try.func25, Try.ntmps25
    go_wp2_with fail
    refine (HM.out _).mono ?_
    rintro e w1 ⟨rfl, rfl⟩
    go_wp2_with fail
    go_ret
    exact ⟨⟨0, rfl, HF.out⟩, Below.refl _ _⟩
  · exfalso; omega
  · obtain ⟨c, rfl⟩ : ∃ c : Nat, b = (c : Int) := ⟨b.toNat, by omega⟩
    obtain ⟨z, hz⟩ : ∃ z : Nat, c + 4 * ((c + 4095) / 4096) = z := ⟨_, rfl⟩
    have HZ : Hid (∀ W, Calls Try.prog 29 #[.int .i64 (c : Int)] W fun e w' => e = .returned (.int .i64 (z : Int)) ∧ w' = W) := fun W => by
      have h := pagesOf_any c (by omega) W
      rw [hz] at h
      exact h
    have d1 : decide ((n : Int) < 1) = false := by simpa using h1
    have d2 : decide (16793600 < (n : Int)) = false := by simpa using h2
    have d3 : decide ((c : Int) < 1) = false := by simpa using h3
    have d4 : decide (16777216 < (c : Int)) = false := by simpa using h4
    by_cases he : z = n
    · subst he
      have d5 : ((z : Int) != (z : Int)) = false := by simp
      have HF : Hid ((0 : Int) < (c : Int) ↔ okN z) := by show _ ↔ _; unfold okN; omega
      clear h1 h2 h3 h4 hq hz
      go_enter Try.func25, Try.ntmps25
      go_wp2_with fail
      refine (HM.out _).mono ?_
      rintro e w1 ⟨rfl, rfl⟩
      go_wp2_with fail
      refine (HZ.out _).mono ?_
      rintro e w2 ⟨rfl, rfl⟩
      go_wp2_with fail
      go_ret
      exact ⟨⟨_, rfl, HF.out⟩, Below.refl _ _⟩
    · have d5 : ((z : Int) != (n : Int)) = true := by rw [bne_iff_ne]; omega
      have HF : Hid ((0 : Int) < 0 ↔ okN n) := by show _ ↔ _; unfold okN; omega
      clear h1 h2 h3 h4 hq hz
      go_enter Try.func25, Try.ntmps25
      go_wp2_with fail
      refine (HM.out _).mono ?_
      rintro e w1 ⟨rfl, rfl⟩
      go_wp2_with fail
      refine (HZ.out _).mono ?_
      rintro e w2 ⟨rfl, rfl⟩
      go_wp2_with fail
      go_ret
      exact ⟨⟨0, rfl, HF.out⟩, Below.refl _ _⟩
end Go.Proofs.Ytjikoamchbmhjaa.Foot
