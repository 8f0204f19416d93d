/-
  What the program tells of places: their slot, how far they are alike, whether a match pays; the table of places.
-/
import Derived.Test.YthdblnfohbldcaaGreatLzC2
import Derived.Test.YthdblnfohbldcaaGreatLzOwn
import Derived.Test.YthdblnfohbldcaaGreatCrcLen
import Derived.Deep.RegionHeld
namespace Go.Proofs.YthdblnfohbldcaaGreat.Lz
open Go.ChangeShapes Go.WideShapes Go.ChangeAt Go.RowKit
open Go.Proofs.YthdblnfohbldcaaGreat.Base Go.Proofs.YthdblnfohbldcaaGreat.Nums
set_option linter.unusedVariables false
def wstep (W : Nat) (c : BitVec 8) : Nat := (W * 256 % 4294967296) ||| c.toNat
def slotW (W : Nat) : Nat := W * 2654435761 % 4294967296 / 262144
def slotOf (x : Txt) (i : Nat) : Nat := slotW (wstep (wstep (wstep (wstep 0 (gd x i)) (gd x (i + 1))) (gd x (i + 2))) (gd x (i + 3)))
theorem slotOf_lt (x : Txt) (i : Nat) : slotOf x i < 16384 := by unfold slotOf slotW; omega
theorem slotOf_same (x : Txt) (j i : Nat) (h : same4 x j i = true) : slotOf x j = slotOf x i := by
  unfold same4 at h
  rw [decide_eq_true_iff] at h
  unfold slotOf
  rw [h.1, h.2.1, h.2.2.1, h.2.2.2]
theorem wstep_lt (W : Nat) (c : BitVec 8) : wstep W c < 4294967296 := by
  have h : wstep W c < 2 ^ 32 := Nat.or_lt_two_pow (by omega) (by have := lt8 c; omega)
  omega
def wordTo (x : Txt) (i : Nat) : Nat → Nat
  | 0 => 0
  | k + 1 => wstep (wordTo x i k) (gd x (i + k))
theorem wordTo_lt (x : Txt) (i k : Nat) : wordTo x i k < 4294967296 := by
  cases k with
  | zero => simp [wordTo]
  | succ k => exact wstep_lt _ _
theorem wordTo_four (x : Txt) (i : Nat) : slotW (wordTo x i 4) = slotOf x i := rfl
theorem or_step (W : Nat) (c : BitVec 8) : bits .or .u32 ((W : Int) * 256 % 4294967296) (c.toNat : Int) = (wstep W c : Nat) := by
  have e : (W : Int) * 256 % 4294967296 = ((W * 256 % 4294967296 : Nat) : Int) := by omega
  rw [e, u32_or_nat _ _ (by omega) (by have := lt8 c; omega)]; rfl
set_option maxHeartbeats 1000000 in
set_option maxRecDepth 100000 in
theorem slot_any (b off len cap i : Nat) (x : Txt) (w : World) (hr : Rd w (some ⟨b, off, none⟩) len x) (hcap : len ≤ cap) (hm : cap ≤ 9223372036854775807) (hi : i + 4 ≤ len) :
    Calls Tryz.prog 91 #[.slice (some ⟨b, off, none⟩) len cap, .int .i64 (i : Int)] w fun e w' => e = .returned (.int .i64 (slotOf x i : Nat)) ∧ w' = w := by
  have HR := hide hr
  have hlm := hr.2.1
  clear hr
  go_enter Tryz.func91, Tryz.ntmps91
  go_wp2_with fail
  go_loopw [5, 7, 14] (fun o y z wr => ∃ (W k : Nat), k ≤ 4 ∧ W < 4294967296 ∧ o = .int .u32 (W : Int) ∧ z = .int .i64 (k : Int) ∧ wr = w ∧ Hid (W = wordTo x i k)) (fun _ _ z _ => 4 - (intOf z).toNat)
  case atStart => exact ⟨0, 0, by omega, by omega, rfl, rfl, rfl, rfl⟩
  case round =>
    obtain ⟨W, k, hk, hW, rfl, rfl, rfl, HW⟩ := hrel
    have hWi : (W : Int) ≤ 4294967295 := by omega
    clear hW
    by_cases hlt : k < 4
    · have hc := HR.out.2.2 (by omega)
      obtain ⟨b', off', e, _, hc⟩ := hc
      cases e
      have g1 := hc (i + k) (by omega)
      rw [← Nat.add_assoc] at g1
      have hstep := or_step W (x.getD (i + k) 0)
      have HW2 : Hid (wstep W (x.getD (i + k) 0) = wordTo x i (k + 1)) := by show _ = _; rw [HW.out]; rfl
      have hlt2 := wstep_lt W (x.getD (i + k) 0)
      have HLT := hide hlt2
      generalize wstep W (x.getD (i + k) 0) = W2 at hstep HW2 HLT
      generalize x.getD (i + k) 0 = c at g1 hstep
      clear hc hlt2
      go_wp2_with fail
      go_roundw
      case rel => exact ⟨W2, k + 1, by omega, HLT.out, by first | rfl | rw [hstep], by go_num, by first | trivial | rfl, HW2⟩
      case measure => simp [intOf]; omega
    · have hk4 : k = 4 := by omega
      subst hk4
      have HE : Hid (slotOf x i = W * 2654435761 % 4294967296 / 262144) := by
        show _ = _; rw [← wordTo_four, ← HW.out]; rfl
      go_wp2_with fail
      go_ret
      exact ⟨ret_int (by rw [HE.out]; omega), rfl⟩
set_option maxHeartbeats 1000000 in
set_option maxRecDepth 100000 in
theorem alike_any (b off len cap j i most : Nat) (x : Txt) (w : World) (hr : Rd w (some ⟨b, off, none⟩) len x) (hcap : len ≤ cap) (hm : cap ≤ 9223372036854775807) (hj : j < i) (hi : i + most ≤ len) (h4 : 4 ≤ most) :
    Calls Tryz.prog 92 #[.slice (some ⟨b, off, none⟩) len cap, .int .i64 (j : Int), .int .i64 (i : Int), .int .i64 (most : Int)] w fun e w' => e = .returned (.int .i64 (runFrom x j i most 4 : Nat)) ∧ Below w.heap.size w w' := by
  have HR := hide hr
  have hlm := hr.2.1
  clear hr
  go_enter Tryz.func92, Tryz.ntmps92
  go_wp2_with fail
  go_loopw [9] (fun z wr => ∃ k : Nat, k ≤ most ∧ 4 ≤ k ∧ z = .int .i64 (k : Int) ∧ Hid (runFrom x j i most 4 = runFrom x j i most k) ∧ ∃ n, wr = w.drewN n) (fun z _ => most - (intOf z).toNat)
  case atStart => exact ⟨4, h4, by omega, rfl, rfl, 0, rfl⟩
  case round =>
    obtain ⟨k, hk, hk4, rfl, HE, n, rfl⟩ := hrel
    by_cases hlt : k < most
    · obtain ⟨b', off', e, _, hc⟩ := HR.out.2.2 (by omega)
      cases e
      have g1 := hc (j + k) (by omega)
      have g2 := hc (i + k) (by omega)
      clear hc
      have hki : (k : Int) < (most : Int) := by omega
      generalize hX : x.getD (j + k) 0 = X at g1
      generalize hY : x.getD (i + k) 0 = Y at g2
      have HX := hide hX
      have HY := hide hY
      clear hX hY
      have hdk : decide ((k : Int) < (most : Int)) = true := by simpa using hlt
      by_cases hxy : X = Y
      · subst hxy
        have hq : ((X.toNat : Int) == (X.toNat : Int)) = true := by simp
        have HE2 : Hid (runFrom x j i most 4 = runFrom x j i most (k + 1)) := by
          show _ = _; rw [HE.out]; exact runFrom_go x j i most k hlt (by unfold gd; rw [HX.out, HY.out])
        go_wp2
        go_quiet (fail)
        go_wp2
        go_roundw
        case rel => exact ⟨k + 1, by omega, by omega, by go_num, HE2, n + nq, rfl⟩
        case measure => simp [intOf]; omega
      · have hq : ((X.toNat : Int) == (Y.toNat : Int)) = false := by
          rw [beq_eq_false_iff_ne]; intro h; exact hxy (BitVec.eq_of_toNat_eq (by omega))
        have HE2 : Hid (runFrom x j i most 4 = k) := by
          show _ = _; rw [HE.out]; exact runFrom_stop x j i most k (by unfold gd; rw [HX.out, HY.out]; exact fun h => hxy h.2)
        go_wp2
        go_quiet (fail)
        go_wp2
        go_ret
        exact ⟨ret_int (by rw [HE2.out]), (below_drewN' _ _ _).trans (below_drewN' _ _ _)⟩
    · have HE2 : Hid (runFrom x j i most 4 = k) := by
        show _ = _; rw [HE.out]; exact runFrom_stop x j i most k (by omega)
      have hki : ¬ (k : Int) < (most : Int) := by omega
      have hdk : decide ((k : Int) < (most : Int)) = false := by simpa using hlt
      go_wp2
      go_quiet (fail)
      go_wp2
      go_ret
      exact ⟨ret_int (by rw [HE2.out]), (below_drewN' _ _ _).trans (below_drewN' _ _ _)⟩
end Go.Proofs.YthdblnfohbldcaaGreat.Lz
