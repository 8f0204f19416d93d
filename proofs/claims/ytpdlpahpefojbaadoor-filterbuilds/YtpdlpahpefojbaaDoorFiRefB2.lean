/-
  The document's Build.
-/
import Derived.Test.YtpdlpahpefojbaaDoorFiRefB
namespace Go.Proofs.YtpdlpahpefojbaaDoor.Filt
open Go.ChangeShapes Go.WideShapes Go.ChangeAt Go.RowKit
open Go.Proofs.YtpdlpahpefojbaaDoor.Base hiding hide unhide lt8
set_option linter.unusedVariables false
set_option maxHeartbeats 1000000 in
set_option maxRecDepth 100000 in
theorem refBuild_any (a : Option Addr) (len cap : Nat) (ss : List ByteArray) (bits : Int) (w : World) (hr : RdS w a len ss) :
    Calls Tryd.prog 22 #[.slice a len cap, .int .i64 bits] w fun e w' => ∃ v, e = .returned (.tuple #[.agg #[.bool (builtF ss bits).1.all, .int .i64 (builtF ss bits).1.hashes, v], .int .i64 (builtF ss bits).2]) ∧ Own w' w.heap.size v (builtF ss bits).1.data ∧ Below w.heap.size w w' := by
  obtain ⟨w0, hw0⟩ : ∃ w0, w.alloc (.cells #[.bool false, .int .i64 0, .slice none 0 0] 24) = w0 := ⟨_, rfl⟩
  have hb0 : Below w.heap.size w w0 := by rw [← hw0]; exact (Below.refl _ _).alloc (Nat.le_refl _) _
  have hF0 : FB w0 w.heap.size false 0 (.slice none 0 0) := by rw [← hw0]; exact FB.new _ _ _ _
  obtain ⟨r, hr0⟩ : ∃ r, w.heap.size = r := ⟨_, rfl⟩
  rw [hr0] at hF0
  have HRS := hide hr0
  have HF0 := hide hF0
  have HB0 := hide hb0
  have HR := hide hr
  have HL := hide hr.1
  have hlm := hr.2.1
  have r0 := hF0.c0
  have r1 := hF0.c1
  have r2 := hF0.c2
  have z0 := hF0.fz 0
  have z1 := hF0.fz 1
  have z2 := hF0.fz 2
  have HD : Hid (builtF ss bits = if bits < 0 ∨ 16 < bits then (zeroF, 3) else if ss.length = 0 then (zeroF, 0) else if bits = 0 ∨ 65536 < ss.length then (⟨true, 0, []⟩, 0)
    else (⟨false, (hashesOf bits.toNat : Nat), laidBits ss (hashesOf bits.toNat) (List.replicate (bytesOfK (ss.length * bits.toNat)) 0)⟩, 0)) := rfl
  rw [HL.out] at HD
  clear hr hF0 hb0
  have hcase : bits < 0 ∨ (¬ bits < 0 ∧ 16 < bits) ∨ (¬ bits < 0 ∧ ¬ 16 < bits ∧ len = 0) ∨ (¬ bits < 0 ∧ ¬ 16 < bits ∧ len ≠ 0 ∧ bits = 0) ∨ (¬ bits < 0 ∧ ¬ 16 < bits ∧ len ≠ 0 ∧ bits ≠ 0 ∧ 65536 < len) ∨ (¬ bits < 0 ∧ ¬ 16 < bits ∧ len ≠ 0 ∧ bits ≠ 0 ∧ ¬ 65536 < len) := by omega
  rcases hcase with h1 | ⟨h1, h2⟩ | ⟨h1, h2, h3⟩ | ⟨h1, h2, h3, h4⟩ | ⟨h1, h2, h3, h4, h5⟩ | ⟨h1, h2, h3, h4, h5⟩
  · have d1 : decide (bits < 0) = true := by simpa using h1
    have HE : Hid (builtF ss bits = (⟨false, 0, []⟩, 3)) := by show _ = _; rw [HD.out, if_pos (.inl h1)]; rfl
    clear h1 HD
    go_enter Tryd.func22, Tryd.ntmps22
    go_wp2_with fail
    refine bodyPost_ret (fb_ret2 rfl _ _ r false 0 (.slice none 0 0) rfl (HF0.out.set3 false 0 (.slice none 0 0))) rfl ?_
    exact ⟨_, ret_f2 HE.out, by rw [HE.out]; exact own_none _ _, by first | exact below3 HB0.out (by rw [HRS.out]; exact Nat.le_refl _) _ _ _ | (rw [← HRS.out]; exact below3 HB0.out (by rw [HRS.out]; exact Nat.le_refl _) _ _ _)⟩
  · have d1 : decide (bits < 0) = false := by simpa using h1
    have d2 : decide (16 < bits) = true := by simpa using h2
    have HE : Hid (builtF ss bits = (⟨false, 0, []⟩, 3)) := by show _ = _; rw [HD.out, if_pos (.inr h2)]; rfl
    clear h1 h2 HD
    go_enter Tryd.func22, Tryd.ntmps22
    go_wp2_with fail
    refine bodyPost_ret (fb_ret2 rfl _ _ r false 0 (.slice none 0 0) rfl (HF0.out.set3 false 0 (.slice none 0 0))) rfl ?_
    exact ⟨_, ret_f2 HE.out, by rw [HE.out]; exact own_none _ _, by first | exact below3 HB0.out (by rw [HRS.out]; exact Nat.le_refl _) _ _ _ | (rw [← HRS.out]; exact below3 HB0.out (by rw [HRS.out]; exact Nat.le_refl _) _ _ _)⟩
  · have d1 : decide (bits < 0) = false := by simpa using h1
    have d2 : decide (16 < bits) = false := by simpa using h2
    have HE : Hid (builtF ss bits = (⟨false, 0, []⟩, 0)) := by show _ = _; rw [HD.out, if_neg (by omega), if_pos h3]; rfl
    subst h3
    have d3 : (((0 : Nat) : Int) == 0) = true := by simp
    clear h1 h2 HD
    go_enter Tryd.func22, Tryd.ntmps22
    go_wp2_with fail
    refine bodyPost_ret (fb_ret2 rfl _ _ r false 0 (.slice none 0 0) rfl (HF0.out.set3 false 0 (.slice none 0 0))) rfl ?_
    exact ⟨_, ret_f2 HE.out, by rw [HE.out]; exact own_none _ _, by first | exact below3 HB0.out (by rw [HRS.out]; exact Nat.le_refl _) _ _ _ | (rw [← HRS.out]; exact below3 HB0.out (by rw [HRS.out]; exact Nat.le_refl _) _ _ _)⟩
  · have HE : Hid (builtF ss bits = (⟨true, 0, []⟩, 0)) := by show _ = _; rw [HD.out, if_neg (by omega), if_neg h3, if_pos (.inl h4)]
    subst h4
    have d3 : ((len : Int) == 0) = false := by rw [beq_eq_false_iff_ne]; omega
    clear h1 h2 HD
    go_enter Tryd.func22, Tryd.ntmps22
    go_wp2_with fail
    refine bodyPost_ret (fb_ret2 rfl _ _ r true 0 (.slice none 0 0) rfl (HF0.out.set3 true 0 (.slice none 0 0))) rfl ?_
    exact ⟨_, ret_f2 HE.out, by rw [HE.out]; exact own_none _ _, by first | exact below3 HB0.out (by rw [HRS.out]; exact Nat.le_refl _) _ _ _ | (rw [← HRS.out]; exact below3 HB0.out (by rw [HRS.out]; exact Nat.le_refl _) _ _ _)⟩
  · have d1 : decide (bits < 0) = false := by simpa using h1
    have d2 : decide (16 < bits) = false := by simpa using h2
    have d3 : ((len : Int) == 0) = false := by rw [beq_eq_false_iff_ne]; omega
    have d4 : (bits == 0) = false := by rw [beq_eq_false_iff_ne]; exact h4
    have d5 : decide (65536 < (len : Int)) = true := by simpa using (by omega : 65536 < (len : Int))
    have HE : Hid (builtF ss bits = (⟨true, 0, []⟩, 0)) := by show _ = _; rw [HD.out, if_neg (by omega), if_neg h3, if_pos (.inr h5)]
    clear h1 h2 HD
    go_enter Tryd.func22, Tryd.ntmps22
    go_wp2_with fail
    refine bodyPost_ret (fb_ret2 rfl _ _ r true 0 (.slice none 0 0) rfl (HF0.out.set3 true 0 (.slice none 0 0))) rfl ?_
    exact ⟨_, ret_f2 HE.out, by rw [HE.out]; exact own_none _ _, by first | exact below3 HB0.out (by rw [HRS.out]; exact Nat.le_refl _) _ _ _ | (rw [← HRS.out]; exact below3 HB0.out (by rw [HRS.out]; exact Nat.le_refl _) _ _ _)⟩
  · obtain ⟨nb, rfl⟩ : ∃ nb : Nat, bits = (nb : Int) := ⟨bits.toNat, by omega⟩
    have d1 : decide ((nb : Int) < 0) = false := by simp
    have d2 : decide (16 < (nb : Int)) = false := by simpa using h2
    have d3 : ((len : Int) == 0) = false := by rw [beq_eq_false_iff_ne]; omega
    have d4 : ((nb : Int) == 0) = false := by rw [beq_eq_false_iff_ne]; exact h4
    have d5 : decide (65536 < (len : Int)) = false := by simpa using (by omega : (len : Int) ≤ 65536)
    obtain ⟨M, hM⟩ : ∃ M, len * nb = M := ⟨_, rfl⟩
    have hMl : M ≤ 1048576 := by rw [← hM]; exact Nat.le_trans (Nat.mul_le_mul (by omega : len ≤ 65536) (by omega : nb ≤ 16)) (by decide)
    have hMw : IntKind.i64.wrap ((len : Int) * (nb : Int)) = (M : Int) := by
      have e : (len : Int) * (nb : Int) = (M : Int) := by rw [← hM]; simp
      rw [e, IntKind.wrap_i64]; omega
    have HE : Hid (builtF ss (nb : Int) = (⟨false, (hashesOf nb : Nat), laidBits ss (hashesOf nb) (List.replicate (bytesOfK M) 0)⟩, 0)) := by
      show _ = _; rw [HD.out, if_neg (by omega), if_neg h3, if_neg (by omega), Int.toNat_natCast, hM]
    have HNP := hide (bytesOfK_pos M)
    have HHL := hide (hashesOf_le nb)
    obtain ⟨N, hN⟩ : ∃ N, bytesOfK M = N := ⟨_, rfl⟩
    obtain ⟨hs, hhs⟩ : ∃ hs, hashesOf nb = hs := ⟨_, rfl⟩
    have HNE : Hid (max 1 (min ((M + 7) / 8) 4096) = N) := hN
    have HHE : Hid (max 1 (min ((69 * nb + 50) / 100) 8) = hs) := hhs
    rw [hN] at HNP HE
    rw [hhs] at HHL HE
    have hmk := make_row_u8 N (N : Int) rfl (by have := HNP.out.2; omega)
    obtain ⟨Z, hZ⟩ : ∃ Z : List (BitVec 8), List.replicate N 0 = Z := ⟨_, rfl⟩
    have HZL : Hid (Z.length = N) := by show _ = _; rw [← hZ]; simp
    rw [hZ] at HE hmk
    obtain ⟨m1, hm1⟩ : ∃ m1, (M + 7) / 8 = m1 := ⟨_, rfl⟩
    have q1 : ((M : Int) + 7) / 8 = (m1 : Int) := by omega
    obtain ⟨m2, hm2⟩ : ∃ m2, (69 * nb + 50) / 100 = m2 := ⟨_, rfl⟩
    have q2 : (69 * (nb : Int) + 50) / 100 = (m2 : Int) := by omega
    have x1 : min (max (m1 : Int) 1) 4096 = (N : Int) := by have := HNE.out; omega
    have x2 : min (max (m2 : Int) 1) 8 = (hs : Int) := by have := HHE.out; omega
    have hnbi : (nb : Int) ≤ 16 := by omega
    have hMi : (M : Int) ≤ 1048576 := by omega
    obtain ⟨wA, hwA⟩ : ∃ wA, w0.alloc (.cells (vals Z).toArray 5) = wA := ⟨_, rfl⟩
    have hbA : Below w0.heap.size w0 wA := by rw [← hwA]; exact (Below.refl _ _).alloc (Nat.le_refl _) _
    have hoA : Own wA w0.heap.size (.slice (some ⟨w0.heap.size, 0, none⟩) N N) Z := by
      rw [← hwA]
      have h := own_heap (base := w0.heap.size) (bs := Z) (heap_alloc_new w0 _) (Nat.le_refl _) (by have := HZL.out; have := HNP.out.2; unfold maxLen; omega)
      rw [HZL.out] at h
      exact h
    have hszA : wA.heap.size = w0.heap.size + 1 := by rw [← hwA]; simp
    obtain ⟨g, hg⟩ : ∃ g, w0.heap.size = g := ⟨_, rfl⟩
    obtain ⟨wB, hwB⟩ : ∃ wB, wA.alloc (.cells #[.bool false, .int .i64 (hs : Int), .slice (some ⟨g, 0, none⟩) N N] 24) = wB := ⟨_, rfl⟩
    have hbB : Below wA.heap.size wA wB := by rw [← hwB]; exact (Below.refl _ _).alloc (Nat.le_refl _) _
    have hfB : FB wB wA.heap.size false (hs : Int) (.slice (some ⟨g, 0, none⟩) N N) := by rw [← hwB]; exact FB.new _ _ _ _
    obtain ⟨q, hq⟩ : ∃ q, wA.heap.size = q := ⟨_, rfl⟩
    rw [hq] at hfB
    have HFQ := hide hfB
    have HOB : Hid (Own wB w.heap.size (.slice (some ⟨g, 0, none⟩) N N) Z) := by
      have h := (hoA.below hbB).mono HB0.out.size
      rw [hg] at h
      exact h
    have HFR := hide ((HF0.out.below hbA).below hbB)
    have HBB := hide (below_trans (below_trans HB0.out hbA) hbB)
    have HGW : Hid (w.heap.size ≤ g) := by have h := HB0.out.size; show _ ≤ _; omega
    have HSZA := hide hszA
    clear h1 h2 hM hN hhs HD hm1 hm2 hbA hoA hbB hfB hszA r0 r1 r2 z0 z1 z2
    go_enter Tryd.func22, Tryd.ntmps22
    go_wp2_with fail
    rw [q1, q2]
    clear q1 q2 x1 x2 hmk
    go_loopw [8, 9, 10] (fun i _ _ wr => ∃ j : Nat, j ≤ len ∧ i = .int .i64 (j : Int) ∧ Hid (Own wr w.heap.size (.slice (some ⟨g, 0, none⟩) N N) (laidBits (ss.take j) hs Z)) ∧ Hid (FB wr q false (hs : Int) (.slice (some ⟨g, 0, none⟩) N N)) ∧ Hid (FB wr r false 0 (.slice none 0 0)) ∧ Hid (Below w.heap.size w wr)) (fun i _ _ _ => len - (intOf i).toNat)
    case atStart => exact ⟨0, Nat.zero_le _, rfl, by rw [List.take_zero]; exact HOB, HFQ, HFR, HBB⟩
    case round =>
      clear HOB HFQ HFR HBB
      obtain ⟨j, hj, rfl, HO, HQ, HRR, HB⟩ := hrel
      by_cases hlt : j < len
      · have hji : (j : Int) < (len : Int) := by omega
        have HSS := hide (HR.out.2.2.1 _ (getS_mem (i := j) (by rw [HL.out]; exact hlt)))
        have HLT := hide (laidBits_take ss hs Z j (by rw [HL.out]; exact hlt))
        have HKC : Hid (∀ W, Below w.heap.size w W → ∃ kb koff, a = some ⟨kb, koff, none⟩ ∧ W.cell? ⟨kb, koff + j, none⟩ = some (.string (ss.getD j ⟨#[]⟩))) := fun W hW => by
          obtain ⟨kb, koff, e, _, hcell⟩ := (HR.out.below hW).2.2.2 (by omega)
          exact ⟨kb, koff, e, hcell j hlt⟩
        generalize ss.getD j ⟨#[]⟩ = s at HKC HSS HLT
        have HLL : Hid ((laidBits (ss.take j) hs Z).length = N) := by show _ = _; rw [laidBits_len]; exact HZL.out
        generalize laidBits (ss.take j) hs Z = Lb at HO HLT HLL
        go_wp2_with fail
        go_loopw [9, 10] (fun i _ wr2 => ∃ k : Nat, k ≤ hs ∧ i = .int .i64 (k : Int) ∧ Hid (Own wr2 w.heap.size (.slice (some ⟨g, 0, none⟩) N N) (setTo s Lb k)) ∧ Hid (FB wr2 q false (hs : Int) (.slice (some ⟨g, 0, none⟩) N N)) ∧ Hid (FB wr2 r false 0 (.slice none 0 0)) ∧ Hid (Below w.heap.size w wr2)) (fun i _ _ => hs - (intOf i).toNat)
        case atStart => exact ⟨0, Nat.zero_le _, rfl, HO, HQ, HRR, HB⟩
        case round =>
          clear HO HQ HRR HB
          obtain ⟨k, hk, rfl, HO2, HQ2, HR2, HB2⟩ := hrel
          have f1 := HQ2.out.c1
          have f2 := HQ2.out.c2
          by_cases hkl : k < hs
          · have hki : (k : Int) < (hs : Int) := by omega
            obtain ⟨kb, koff, rfl, kc⟩ := HKC.out wr HB2.out
            obtain ⟨B, hB⟩ : ∃ B, posAt s (8 * N) k = B := ⟨_, rfl⟩
            have HPL := hide (place_any s k N wr HSS.out (by have := HHL.out.2; omega) HNP.out.1 HNP.out.2)
            rw [hB] at HPL
            have HBL : Hid (B < 8 * N) := by rw [← hB]; exact posAt_lt s _ k (by have := HNP.out.1; omega)
            have HSN : Hid (setTo s Lb (k + 1) = setOn (setTo s Lb k) B) := by show setOn (setTo s Lb k) (posAt s (8 * Lb.length) k) = _; rw [HLL.out, hB]
            obtain ⟨t, ht⟩ : ∃ t, B / 8 = t := ⟨_, rfl⟩
            obtain ⟨f, hf⟩ : ∃ f, B % 8 = f := ⟨_, rfl⟩
            have g1 := HO2.out.cell t (by have := HBL.out; omega)
            have zt := HO2.out.frozen t
            have HST := hide (HO2.out.store t ((setTo s Lb k).getD t 0 ||| BitVec.ofNat 8 (2 ^ f)))
            have hor := or_u8 ((setTo s Lb k).getD t 0) f (by omega)
            have HEQ : Hid (setOn (setTo s Lb k) B = (setTo s Lb k).set t ((setTo s Lb k).getD t 0 ||| BitVec.ofNat 8 (2 ^ f))) := by show _ = _; unfold setOn; rw [ht, hf]
            rw [← HEQ.out, ← HSN.out] at HST
            generalize (setTo s Lb k).getD t 0 ||| BitVec.ofNat 8 (2 ^ f) = y at hor HST
            generalize (setTo s Lb k).getD t 0 = x at g1 hor
            have hti : (B : Int) / 8 = (t : Int) := by omega
            have hfi : (B : Int) % 8 = (f : Int) := by omega
            have htl : (t : Int) < (N : Int) := by have := HBL.out; omega
            have hf8 : (f : Int) < 64 := by omega
            have htw : IntKind.u64.wrap (t : Int) = (t : Int) := by have := HNP.out.2; rw [IntKind.wrap_u64]; omega
            have hfw : IntKind.u64.wrap (f : Int) = (f : Int) := by rw [IntKind.wrap_u64]; omega
            have hs8 : hs ≤ 8 := HHL.out.2
            have HGD := hide (grown_trans HST.out.2 (grown_of_below ((Below.refl (wr.setCell ⟨g, t, none⟩ (.int .u8 (y.toNat : Int))).heap.size (wr.setCell ⟨g, t, none⟩ (.int .u8 (y.toNat : Int)))).drew)))
            clear hB ht hf HEQ
            go_wp2_with fail
            refine HPL.out.mono ?_
            rintro e w3 ⟨rfl, rfl⟩
            go_wp2_with fail
            go_region
            all_goals
              go_wp2_with fail
              go_roundw
              case rel => exact ⟨k + 1, by omega, by go_num, HST.out.1, fb_turn HQ2.out HO2.out HGD.out, fb_turn HR2.out HO2.out HGD.out, grown_below HB2.out HGD.out HGW.out⟩
              case measure => (simp [intOf] <;> omega)
          · have hkh : k = hs := by omega
            subst hkh
            have hki : ¬ (k : Int) < (k : Int) := by omega
            rw [← HLT.out] at HO2
            go_wp2_with fail
            go_roundw
            case rel => exact ⟨j + 1, by omega, by go_num, HO2, HQ2, HR2, HB2⟩
            case measure => (simp [intOf] <;> omega)
      · have hjl : j = len := by omega
        subst hjl
        have hji : ¬ (j : Int) < (j : Int) := by omega
        have HTK : Hid (ss.take j = ss) := List.take_of_length_le (by rw [HL.out]; exact Nat.le_refl _)
        rw [HTK.out] at HO
        have f0 := HQ.out.c0
        have f1 := HQ.out.c1
        have f2 := HQ.out.c2
        have r0 := HRR.out.c0
        have r1 := HRR.out.c1
        have r2 := HRR.out.c2
        have z0 := HRR.out.fz 0
        have z1 := HRR.out.fz 1
        have z2 := HRR.out.fz 2
        go_wp2_with fail
        refine bodyPost_ret (fb_ret2 rfl _ _ r false (hs : Int) (.slice (some ⟨g, 0, none⟩) N N) rfl (HRR.out.set3 false (hs : Int) (.slice (some ⟨g, 0, none⟩) N N))) rfl ?_
        refine ⟨_, ret_f2 HE.out, ?_, by first | exact below3 HB.out (by rw [HRS.out]; exact Nat.le_refl _) _ _ _ | (rw [← HRS.out]; exact below3 HB.out (by rw [HRS.out]; exact Nat.le_refl _) _ _ _)⟩
        rw [HE.out]
        have hne := fb_ne_own HRR.out HO.out
        have hkp := keep HO.out (grown3 wr r (.bool false) (.int .i64 (hs : Int)) (.slice (some ⟨g, 0, none⟩) N N)) (fun i j e1 e2 e3 => by subst e3; rw [← e2] at e1; exact hne e1)
        first | exact hkp | exact hkp.mono (Nat.le_of_eq HRS.out.symm)
end Go.Proofs.YtpdlpahpefojbaaDoor.Filt
