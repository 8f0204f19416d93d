/-
  The document's own answers: whether the same four bytes stand at two places.
-/
import Derived.Test.YtckfkilpoimikaaLzR4
namespace Go.Proofs.Ytckfkilpoimikaa.Lz
open Go.ChangeShapes Go.WideShapes Go.ChangeAt Go.RowKit
open Go.Proofs.Ytckfkilpoimikaa.Base Go.Proofs.Ytckfkilpoimikaa.Nums
set_option linter.unusedVariables false
theorem beq8 (X Y : BitVec 8) : ((X.toNat : Int) == (Y.toNat : Int)) = decide (Y = X) := by
  by_cases h : Y = X
  · subst h; simp
  · rw [decide_eq_false h, beq_eq_false_iff_ne]; intro e; exact h (BitVec.eq_of_toNat_eq (by omega))
theorem same4_and (x : Txt) (j i : Nat) : same4 x j i = (decide (x.getD j 0 = x.getD i 0) && (decide (x.getD (j + 1) 0 = x.getD (i + 1) 0) && (decide (x.getD (j + 2) 0 = x.getD (i + 2) 0) && decide (x.getD (j + 3) 0 = x.getD (i + 3) 0)))) := by
  unfold same4 gd
  simp only [Bool.decide_and]
set_option maxHeartbeats 2000000 in
set_option maxRecDepth 100000 in
theorem refAlike_any (b off len cap i j : Nat) (x : Txt) (w : World) (hr : Rd w (some ⟨b, off, none⟩) len x) (hcap : len ≤ cap) (hm : cap ≤ 9223372036854775807) (hj : j < i) (hi : i + 4 ≤ len) :
    Calls Try.prog 44 #[.slice (some ⟨b, off, none⟩) len cap, .int .i64 (i : Int), .int .i64 (j : Int)] w fun e w' => e = .returned (.bool (same4 x j i)) ∧ Below w.heap.size w w' := by
  have hlm := hr.2.1
  obtain ⟨b', off', e, _, hc⟩ := hr.2.2 (by omega)
  cases e
  have HE := hide (same4_and x j i)
  have g0 := hc i (by omega)
  have g1 := hc (i + 1) (by omega)
  have g2 := hc (i + 2) (by omega)
  have g3 := hc (i + 3) (by omega)
  have k0 := hc j (by omega)
  have k1 := hc (j + 1) (by omega)
  have k2 := hc (j + 2) (by omega)
  have k3 := hc (j + 3) (by omega)
  clear hc hr
  have q0 := beq8 (x.getD i 0) (x.getD j 0)
  have q1 := beq8 (x.getD (i + 1) 0) (x.getD (j + 1) 0)
  have q2 := beq8 (x.getD (i + 2) 0) (x.getD (j + 2) 0)
  have q3 := beq8 (x.getD (i + 3) 0) (x.getD (j + 3) 0)
  generalize decide (x.getD j 0 = x.getD i 0) = B0 at q0 HE
  generalize decide (x.getD (j + 1) 0 = x.getD (i + 1) 0) = B1 at q1 HE
  generalize decide (x.getD (j + 2) 0 = x.getD (i + 2) 0) = B2 at q2 HE
  generalize decide (x.getD (j + 3) 0 = x.getD (i + 3) 0) = B3 at q3 HE
  generalize x.getD i 0 = X0 at g0 q0
  generalize x.getD (i + 1) 0 = X1 at g1 q1
  generalize x.getD (i + 2) 0 = X2 at g2 q2
  generalize x.getD (i + 3) 0 = X3 at g3 q3
  generalize x.getD j 0 = Y0 at k0 q0
  generalize x.getD (j + 1) 0 = Y1 at k1 q1
  generalize x.getD (j + 2) 0 = Y2 at k2 q2
  generalize x.getD (j + 3) 0 = Y3 at k3 q3
  have w1 : IntKind.i64.wrap ((i : Int) + 1) = ((i + 1 : Nat) : Int) := by rw [IntKind.wrap_i64]; omega
  have w2 : IntKind.i64.wrap ((i : Int) + 2) = ((i + 2 : Nat) : Int) := by rw [IntKind.wrap_i64]; omega
  have w3 : IntKind.i64.wrap ((i : Int) + 3) = ((i + 3 : Nat) : Int) := by rw [IntKind.wrap_i64]; omega
  have v1 : IntKind.i64.wrap ((j : Int) + 1) = ((j + 1 : Nat) : Int) := by rw [IntKind.wrap_i64]; omega
  have v2 : IntKind.i64.wrap ((j : Int) + 2) = ((j + 2 : Nat) : Int) := by rw [IntKind.wrap_i64]; omega
  have v3 : IntKind.i64.wrap ((j : Int) + 3) = ((j + 3 : Nat) : Int) := by rw [IntKind.wrap_i64]; omega
  have hi0 : i < len := by omega
  have hi1 : i + 1 < len := by omega
  have hi2 : i + 2 < len := by omega
  have hi3 : i + 3 < len := by omega
  have hj0 : j < len := by omega
  have hj1 : j + 1 < len := by omega
  have hj2 : j + 2 < len := by omega
  have hj3 : j + 3 < len := by omega
  generalize i + 1 = i1 at w1 g1 hi1
  generalize i + 2 = i2 at w2 g2 hi2
  generalize i + 3 = i3 at w3 g3 hi3
  generalize j + 1 = j1 at v1 k1 hj1
  generalize j + 2 = j2 at v2 k2 hj2
  generalize j + 3 = j3 at v3 k3 hj3
  clear hi hj
  cases B0 with
  | false =>
    go_enter Try.func44, Try.ntmps44
    go_wp2
    go_quiet (fail)
    go_wp2
    go_ret
    exact ⟨by rw [HE.out]; rfl, below_drewN' _ _ _⟩
  | true =>
  cases B1 with
  | false =>
    go_enter Try.func44, Try.ntmps44
    go_wp2
    go_quiet (fail)
    go_wp2
    go_ret
    exact ⟨by rw [HE.out]; rfl, below_drewN' _ _ _⟩
  | true =>
  cases B2 with
  | false =>
    go_enter Try.func44, Try.ntmps44
    go_wp2
    go_quiet (fail)
    go_wp2
    go_ret
    exact ⟨by rw [HE.out]; rfl, below_drewN' _ _ _⟩
  | true =>
  cases B3 with
  | false =>
    go_enter Try.func44, Try.ntmps44
    go_wp2
    go_quiet (fail)
    go_wp2
    go_ret
    exact ⟨by rw [HE.out]; rfl, below_drewN' _ _ _⟩
  | true =>
    go_enter Try.func44, Try.ntmps44
    go_wp2
    go_quiet (fail)
    go_wp2
    go_ret
    exact ⟨by rw [HE.out]; rfl, below_drewN' _ _ _⟩
end Go.Proofs.Ytckfkilpoimikaa.Lz
