/-
  The document's Check.
-/
import Derived.Test.YtmndjgmlndpgaaaDoorFiJoin
namespace Go.Proofs.YtmndjgmlndpgaaaDoor.Filt
open Go.ChangeShapes Go.WideShapes Go.ChangeAt Go.RowKit
open Go.Proofs.YtmndjgmlndpgaaaDoor.Base
set_option linter.unusedVariables false
def checkN (A : Bool) (H : Int) (n : Nat) : Int := if kindN A H n = 3 then 70 else 0
theorem check_ok {A : Bool} {H : Int} {n : Nat} (h : (H = 0 ∧ n = 0) ∨ (A = false ∧ 1 ≤ H ∧ H ≤ 8 ∧ 1 ≤ n ∧ n ≤ 4096)) : (0 : Int) = checkN A H n := by
  unfold checkN kindN
  rcases h with ⟨h1, h2⟩ | ⟨h0, h1, h2, h3, h4⟩
  · cases A
    · rw [if_pos (c := _ ∧ _) ⟨rfl, h1, h2⟩]; rfl
    · rw [if_neg (c := true = false ∧ _) (fun e => by cases e.1), if_pos (c := true = true ∧ _) ⟨rfl, h1, h2⟩]; rfl
  · rw [if_neg (c := A = false ∧ H = 0 ∧ n = 0) (by omega), if_neg (c := A = true ∧ _) (by omega), if_pos (c := A = false ∧ 1 ≤ H ∧ _) ⟨h0, h1, h2, h3, h4⟩]; rfl
theorem check_bad {A : Bool} {H : Int} {n : Nat} (h0 : ¬ (H = 0 ∧ n = 0)) (h : A = true ∨ H < 1 ∨ 8 < H ∨ n < 1 ∨ 4096 < n) : (70 : Int) = checkN A H n := by
  unfold checkN
  have : kindN A H n = 3 := by
    rcases kind_range A H n with ⟨_, h1, h2, h3⟩ | ⟨_, h1, h2, h3⟩ | ⟨_, h1, h2, h3, h4, h5⟩ | e
    · exact absurd ⟨h2, h3⟩ h0
    · exact absurd ⟨h2, h3⟩ h0
    · rcases h with h | h | h | h | h
      · rw [h1] at h; cases h
      all_goals omega
    · exact e
  rw [if_pos this]
set_option maxHeartbeats 1000000 in
set_option maxRecDepth 100000 in
theorem refCheck_any (A : Bool) (H : Int) (a : Option Addr) (len cap : Nat) (w : World) (hl : len ≤ 9223372036854775807) :
    Calls Tryd.prog 14 #[.agg #[.bool A, .int .i64 H, .slice a len cap]] w fun e w' => e = .returned (.int .i64 (checkN A H len)) ∧ Below w.heap.size w w' := by
  obtain ⟨w1, hw1⟩ : ∃ w1, w.alloc (.cells #[.bool A, .int .i64 H, .slice a len cap] 24) = w1 := ⟨_, rfl⟩
  have HB1 : Hid (Below w.heap.size w w1) := by rw [← hw1]; exact (Below.refl _ _).alloc (Nat.le_refl _) _
  have hF : FB w1 w.heap.size A H (.slice a len cap) := by rw [← hw1]; exact FB.new _ _ _ _
  obtain ⟨g, hg⟩ : ∃ g, w.heap.size = g := ⟨_, rfl⟩
  rw [hg] at hF
  have f0 := hF.c0
  have f1 := hF.c1
  have f2 := hF.c2
  clear hF
  have HG := hide hg
  have fin : Hid (Below g w w1) := by have := HB1.out; rw [HG.out] at this; exact this
  by_cases hz : H = 0 ∧ len = 0
  · have HE := hide (check_ok (A := A) (.inl hz))
    obtain ⟨rfl, rfl⟩ := hz
    go_enter Tryd.func14, Tryd.ntmps14
    go_wp2_with fail
    go_ret
    exact ⟨ret_int HE.out, by first | exact HB1.out | exact fin.out⟩
  · have hq : ((H == 0) = false) ∨ (H = 0 ∧ ((len : Int) == 0) = false) := by
      by_cases e : H = 0
      · exact .inr ⟨e, by rw [beq_eq_false_iff_ne]; omega⟩
      · exact .inl (by rw [beq_eq_false_iff_ne]; exact e)
    have hcase : A = true ∨ (A = false ∧ H < 1) ∨ (A = false ∧ 1 ≤ H ∧ 8 < H) ∨ (A = false ∧ 1 ≤ H ∧ H ≤ 8 ∧ len < 1) ∨ (A = false ∧ 1 ≤ H ∧ H ≤ 8 ∧ 1 ≤ len ∧ 4096 < len) ∨ (A = false ∧ 1 ≤ H ∧ H ≤ 8 ∧ 1 ≤ len ∧ len ≤ 4096) := by
      cases A
      · simp; omega
      · exact .inl rfl
    have HZ := hide hz
    clear hz
    rcases hcase with rfl | ⟨rfl, h1⟩ | ⟨rfl, h1, h2⟩ | ⟨rfl, h1, h2, h3⟩ | ⟨rfl, h1, h2, h3, h4⟩ | ⟨rfl, h1, h2, h3, h4⟩
    · have HE := hide (check_bad (A := true) HZ.out (by first | exact .inl rfl | exact .inr (by omega)))
      rcases hq with z1 | ⟨z0, z1⟩
      · go_enter Tryd.func14, Tryd.ntmps14
        go_wp2_with fail
        go_ret
        exact ⟨ret_int HE.out, by first | exact HB1.out | exact fin.out⟩
      · have z00 : (H == 0) = true := by rw [beq_iff_eq]; exact z0
        clear z0
        go_enter Tryd.func14, Tryd.ntmps14
        go_wp2_with fail
        go_ret
        exact ⟨ret_int HE.out, by first | exact HB1.out | exact fin.out⟩
    · have HE := hide (check_bad (A := false) HZ.out (by first | exact .inl rfl | exact .inr (by omega)))
      have dH1 : decide (H < 1) = true := by simp; omega
      rcases hq with z1 | ⟨z0, z1⟩
      · go_enter Tryd.func14, Tryd.ntmps14
        go_wp2_with fail
        go_ret
        exact ⟨ret_int HE.out, by first | exact HB1.out | exact fin.out⟩
      · have z00 : (H == 0) = true := by rw [beq_iff_eq]; exact z0
        clear z0
        go_enter Tryd.func14, Tryd.ntmps14
        go_wp2_with fail
        go_ret
        exact ⟨ret_int HE.out, by first | exact HB1.out | exact fin.out⟩
    · have HE := hide (check_bad (A := false) HZ.out (by first | exact .inl rfl | exact .inr (by omega)))
      have dH1 : decide (H < 1) = false := by simp; omega
      have dH8 : decide (8 < H) = true := by simp; omega
      rcases hq with z1 | ⟨z0, z1⟩
      · go_enter Tryd.func14, Tryd.ntmps14
        go_wp2_with fail
        go_ret
        exact ⟨ret_int HE.out, by first | exact HB1.out | exact fin.out⟩
      · have z00 : (H == 0) = true := by rw [beq_iff_eq]; exact z0
        clear z0
        go_enter Tryd.func14, Tryd.ntmps14
        go_wp2_with fail
        go_ret
        exact ⟨ret_int HE.out, by first | exact HB1.out | exact fin.out⟩
    · have HE := hide (check_bad (A := false) HZ.out (by first | exact .inl rfl | exact .inr (by omega)))
      have dH1 : decide (H < 1) = false := by simp; omega
      have dH8 : decide (8 < H) = false := by simp; omega
      have dL1 : decide ((len : Int) < 1) = true := by simp; omega
      rcases hq with z1 | ⟨z0, z1⟩
      · go_enter Tryd.func14, Tryd.ntmps14
        go_wp2_with fail
        go_ret
        exact ⟨ret_int HE.out, by first | exact HB1.out | exact fin.out⟩
      · have z00 : (H == 0) = true := by rw [beq_iff_eq]; exact z0
        clear z0
        go_enter Tryd.func14, Tryd.ntmps14
        go_wp2_with fail
        go_ret
        exact ⟨ret_int HE.out, by first | exact HB1.out | exact fin.out⟩
    · have HE := hide (check_bad (A := false) HZ.out (by first | exact .inl rfl | exact .inr (by omega)))
      have dH1 : decide (H < 1) = false := by simp; omega
      have dH8 : decide (8 < H) = false := by simp; omega
      have dL1 : decide ((len : Int) < 1) = false := by simp; omega
      have dL4 : decide (4096 < (len : Int)) = true := by simp; omega
      rcases hq with z1 | ⟨z0, z1⟩
      · go_enter Tryd.func14, Tryd.ntmps14
        go_wp2_with fail
        go_ret
        exact ⟨ret_int HE.out, by first | exact HB1.out | exact fin.out⟩
      · have z00 : (H == 0) = true := by rw [beq_iff_eq]; exact z0
        clear z0
        go_enter Tryd.func14, Tryd.ntmps14
        go_wp2_with fail
        go_ret
        exact ⟨ret_int HE.out, by first | exact HB1.out | exact fin.out⟩
    · have HE := hide (check_ok (A := false) (.inr ⟨rfl, h1, h2, h3, h4⟩))
      have dH1 : decide (H < 1) = false := by simp; omega
      have dH8 : decide (8 < H) = false := by simp; omega
      have dL1 : decide ((len : Int) < 1) = false := by simp; omega
      have dL4 : decide (4096 < (len : Int)) = false := by simp; omega
      rcases hq with z1 | ⟨z0, z1⟩
      · go_enter Tryd.func14, Tryd.ntmps14
        go_wp2_with fail
        go_ret
        exact ⟨ret_int HE.out, by first | exact HB1.out | exact fin.out⟩
      · have z00 : (H == 0) = true := by rw [beq_iff_eq]; exact z0
        clear z0
        go_enter Tryd.func14, Tryd.ntmps14
        go_wp2_with fail
        go_ret
        exact ⟨ret_int HE.out, by first | exact HB1.out | exact fin.out⟩
end Go.Proofs.YtmndjgmlndpgaaaDoor.Filt
