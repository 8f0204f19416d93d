/-
  The document's own answers: where a place is kept; whether two places are alike, and how far.
-/
import Derived.Test.YtckfkilpoimikaaLzE1
namespace Go.Proofs.Ytckfkilpoimikaa.Lz
open Go.ChangeShapes Go.WideShapes Go.ChangeAt Go.RowKit
open Go.Proofs.Ytckfkilpoimikaa.Base Go.Proofs.Ytckfkilpoimikaa.Nums
set_option linter.unusedVariables false
def refSlot (x : Txt) (i : Nat) : Nat := ((gd x i).toNat + 7 * (gd x (i + 1)).toNat + 61 * (gd x (i + 2)).toNat + 509 * (gd x (i + 3)).toNat) % 4096
theorem refSlot_lt (x : Txt) (i : Nat) : refSlot x i < 4096 := Nat.mod_lt _ (by omega)
theorem refSlot_same (x : Txt) (j i : Nat) (h : same4 x j i = true) : refSlot x j = refSlot x i := by
  unfold same4 at h
  rw [decide_eq_true_iff] at h
  unfold refSlot
  rw [h.1, h.2.1, h.2.2.1, h.2.2.2]
set_option maxHeartbeats 1000000 in
set_option maxRecDepth 100000 in
theorem refSlot_any (b off len cap i : Nat) (x : Txt) (w : World) (hr : Rd w (some ⟨b, off, none⟩) len x) (hcap : len ≤ cap) (hm : cap ≤ 9223372036854775807) (hi : i + 4 ≤ len) :
    Calls Try.prog 43 #[.slice (some ⟨b, off, none⟩) len cap, .int .i64 (i : Int)] w fun e w' => e = .returned (.int .i64 (refSlot x i : Nat)) ∧ Below w.heap.size w w' := by
  have hlm := hr.2.1
  have hi0 : i < len := by omega
  obtain ⟨b', off', e, _, hc⟩ := hr.2.2 (by omega)
  cases e
  have g0 := hc i (by omega)
  have g1 := hc (i + 1) (by omega)
  have g2 := hc (i + 2) (by omega)
  have g3 := hc (i + 3) (by omega)
  clear hc hr
  have HE : Hid (refSlot x i = ((x.getD i 0).toNat + 7 * (x.getD (i + 1) 0).toNat + 61 * (x.getD (i + 2) 0).toNat + 509 * (x.getD (i + 3) 0).toNat) % 4096) := rfl
  generalize x.getD i 0 = A at g0 HE
  generalize x.getD (i + 1) 0 = B at g1 HE
  generalize x.getD (i + 2) 0 = C at g2 HE
  generalize x.getD (i + 3) 0 = D at g3 HE
  have hA := lt8 A
  have hB := lt8 B
  have hC := lt8 C
  have hD := lt8 D
  have w1 : IntKind.i64.wrap ((i : Int) + 1) = ((i + 1 : Nat) : Int) := by rw [IntKind.wrap_i64]; omega
  have w2 : IntKind.i64.wrap ((i : Int) + 2) = ((i + 2 : Nat) : Int) := by rw [IntKind.wrap_i64]; omega
  have w3 : IntKind.i64.wrap ((i : Int) + 3) = ((i + 3 : Nat) : Int) := by rw [IntKind.wrap_i64]; omega
  have hi1 : i + 1 < len := by omega
  have hi2 : i + 2 < len := by omega
  have hi3 : i + 3 < len := by omega
  have HM : Hid ((A.toNat + 7 * B.toNat + 61 * C.toNat + 509 * D.toNat) < 200000) := by show _ < _; omega
  have vA : IntKind.i64.wrap (A.toNat : Int) = ((A.toNat : Nat) : Int) := by rw [IntKind.wrap_i64]; omega
  have vB : IntKind.i64.wrap (B.toNat : Int) = ((B.toNat : Nat) : Int) := by rw [IntKind.wrap_i64]; omega
  have vC : IntKind.i64.wrap (C.toNat : Int) = ((C.toNat : Nat) : Int) := by rw [IntKind.wrap_i64]; omega
  have vD : IntKind.i64.wrap (D.toNat : Int) = ((D.toNat : Nat) : Int) := by rw [IntKind.wrap_i64]; omega
  have u1 : IntKind.i64.wrap (7 * (B.toNat : Int)) = ((7 * B.toNat : Nat) : Int) := by rw [IntKind.wrap_i64]; omega
  have u2 : IntKind.i64.wrap (61 * (C.toNat : Int)) = ((61 * C.toNat : Nat) : Int) := by rw [IntKind.wrap_i64]; omega
  have u3 : IntKind.i64.wrap (509 * (D.toNat : Int)) = ((509 * D.toNat : Nat) : Int) := by rw [IntKind.wrap_i64]; omega
  have s1 : IntKind.i64.wrap ((A.toNat : Int) + ((7 * B.toNat : Nat) : Int)) = ((A.toNat + 7 * B.toNat : Nat) : Int) := by rw [IntKind.wrap_i64]; omega
  have s2 : IntKind.i64.wrap (((A.toNat + 7 * B.toNat : Nat) : Int) + ((61 * C.toNat : Nat) : Int)) = ((A.toNat + 7 * B.toNat + 61 * C.toNat : Nat) : Int) := by rw [IntKind.wrap_i64]; omega
  have s3 : IntKind.i64.wrap (((A.toNat + 7 * B.toNat + 61 * C.toNat : Nat) : Int) + ((509 * D.toNat : Nat) : Int)) = ((A.toNat + 7 * B.toNat + 61 * C.toNat + 509 * D.toNat : Nat) : Int) := by rw [IntKind.wrap_i64]; omega
  generalize hS3 : A.toNat + 7 * B.toNat + 61 * C.toNat + 509 * D.toNat = S3 at s3 HE HM
  generalize hS2 : A.toNat + 7 * B.toNat + 61 * C.toNat = S2 at s2 s3
  generalize hS1 : A.toNat + 7 * B.toNat = S1 at s1 s2
  generalize hU1 : 7 * B.toNat = U1 at u1 s1
  generalize hU2 : 61 * C.toNat = U2 at u2 s2
  generalize hU3 : 509 * D.toNat = U3 at u3 s3
  generalize hi1' : i + 1 = i1 at w1 g1 hi1
  generalize hi2' : i + 2 = i2 at w2 g2 hi2
  generalize hi3' : i + 3 = i3 at w3 g3 hi3
  clear hS3 hS2 hS1 hU1 hU2 hU3 hi1' hi2' hi3' hA hB hC hD
  have hs3 := HM.out
  go_enter Try.func43, Try.ntmps43
  go_wp2
  go_quiet (fail)
  go_wp2
  go_ret
  exact ⟨ret_int (by rw [HE.out]; omega), below_drewN' _ _ _⟩
set_option maxHeartbeats 1000000 in
set_option maxRecDepth 100000 in
theorem refSame_any (b off len cap i j most : Nat) (x : Txt) (w : World) (hr : Rd w (some ⟨b, off, none⟩) len x) (hcap : len ≤ cap) (hm : cap ≤ 9223372036854775807) (hj : j < i) (hi : i ≤ len) (hmost : most = min 259 (len - i)) :
    Calls Try.prog 45 #[.slice (some ⟨b, off, none⟩) len cap, .int .i64 (i : Int), .int .i64 (j : Int)] w fun e w' => e = .returned (.int .i64 (runFrom x j i most 0 : Nat)) ∧ Below w.heap.size w w' := by
  have HR := hide hr
  have HMO := hide hmost
  have hlm := hr.2.1
  clear hr hmost
  go_enter Try.func45, Try.ntmps45
  go_wp2_with fail
  go_loopw [7] (fun z wr => ∃ k : Nat, k ≤ 259 ∧ Hid (k ≤ most) ∧ z = .int .i64 (k : Int) ∧ Hid (runFrom x j i most 0 = runFrom x j i most k) ∧ ∃ n, wr = w.drewN n) (fun z _ => 259 - (intOf z).toNat)
  case atStart => exact ⟨0, by omega, Nat.zero_le _, rfl, rfl, 0, rfl⟩
  case round =>
    obtain ⟨k, hk, HK, rfl, HE, n, rfl⟩ := hrel
    have hik : IntKind.i64.wrap ((i : Int) + (k : Int)) = ((i + k : Nat) : Int) := by rw [IntKind.wrap_i64]; omega
    have hjk : IntKind.i64.wrap ((j : Int) + (k : Int)) = ((j + k : Nat) : Int) := by rw [IntKind.wrap_i64]; omega
    by_cases hlt : k < 259
    · have hki : (k : Int) < 259 := by omega
      have hdk : decide ((k : Int) < 259) = true := by simpa using hki
      by_cases hlt2 : i + k < len
      · obtain ⟨b', off', e, _, hc⟩ := HR.out.2.2 (by omega)
        cases e
        have g1 := hc (i + k) hlt2
        have g2 := hc (j + k) (by omega)
        clear hc
        have hjl : j + k < len := by omega
        generalize hX : x.getD (i + k) 0 = X at g1
        generalize hY : x.getD (j + k) 0 = Y at g2
        have HX := hide hX
        have HY := hide hY
        have HKM : Hid (k < most) := by show _ < _; have := HMO.out; omega
        clear hX hY
        have hdl : decide (((i + k : Nat) : Int) < (len : Int)) = true := decide_eq_true (by omega)
        have hdl2 : decide (i + k < len) = true := by simpa using hlt2
        generalize hI : i + k = I at hik hlt2 g1 hdl hdl2
        generalize hJ : j + k = J at hjk g2 hjl
        have HI := hide hI
        have HJ := hide hJ
        clear hI hJ
        by_cases hxy : X = Y
        · subst hxy
          have hq : ((X.toNat : Int) == (X.toNat : Int)) = true := by simp
          have HE2 : Hid (runFrom x j i most 0 = runFrom x j i most (k + 1)) := by
            show _ = _; rw [HE.out]; exact runFrom_go x j i most k HKM.out (by unfold gd; rw [HX.out, HY.out])
          go_wp2
          go_quiet (fail)
          go_wp2
          go_roundw
          case rel => exact ⟨k + 1, by omega, by have := HKM.out; show _ ≤ _; omega, by go_num, HE2, n + nq, rfl⟩
          case measure => simp [intOf]; omega
        · have hq : ((X.toNat : Int) == (Y.toNat : Int)) = false := by
            rw [beq_eq_false_iff_ne]; intro h; exact hxy (BitVec.eq_of_toNat_eq (by omega))
          have HE2 : Hid (runFrom x j i most 0 = k) := by
            show _ = _; rw [HE.out]; exact runFrom_stop x j i most k (by unfold gd; rw [HX.out, HY.out]; exact fun h => hxy h.2.symm)
          go_wp2
          go_quiet (fail)
          go_wp2
          go_ret
          exact ⟨ret_int (by rw [HE2.out]), (below_drewN' _ _ _).trans (below_drewN' _ _ _)⟩
      · have HE2 : Hid (runFrom x j i most 0 = k) := by
          show _ = _; rw [HE.out]; exact runFrom_stop x j i most k (by have := HMO.out; omega)
        have hdl : decide (((i + k : Nat) : Int) < (len : Int)) = false := decide_eq_false (by omega)
        have hdl2 : decide (i + k < len) = false := by simpa using hlt2
        generalize hI : i + k = I at hik hlt2 hdl hdl2
        clear hI
        go_wp2
        go_quiet (fail)
        go_wp2
        go_ret
        exact ⟨ret_int (by rw [HE2.out]), (below_drewN' _ _ _).trans (below_drewN' _ _ _)⟩
    · have HE2 : Hid (runFrom x j i most 0 = k) := by
        show _ = _; rw [HE.out]; exact runFrom_stop x j i most k (by have := HMO.out; omega)
      have hki : ¬ (k : Int) < 259 := by omega
      have hdk : decide ((k : Int) < 259) = false := by simpa using hki
      go_wp2
      go_quiet (fail)
      go_wp2
      go_ret
      exact ⟨ret_int (by rw [HE2.out]), (below_drewN' _ _ _).trans (below_drewN' _ _ _)⟩
end Go.Proofs.Ytckfkilpoimikaa.Lz
