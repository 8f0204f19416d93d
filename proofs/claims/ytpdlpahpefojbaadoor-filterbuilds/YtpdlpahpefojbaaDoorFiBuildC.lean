/-
  Build, of any keys and bits.
-/
import Derived.Test.YtpdlpahpefojbaaDoorFiStrs
import Derived.Test.YtpdlpahpefojbaaDoorFiTurn
namespace Go.Proofs.YtpdlpahpefojbaaDoor.Filt
open Go.ChangeShapes Go.WideShapes Go.ChangeAt Go.RowKit
open Go.Proofs.YtpdlpahpefojbaaDoor.Base
set_option linter.unusedVariables false
theorem db_turn_fb {w w' : World} {base g b n c : Nat} {xs : List (BitVec 8)} {A : Bool} {H : Int} {v : Value} (h : FB w g A H v) (ho : Own w base (.slice (some ⟨b, 0, none⟩) n c) xs) (hg : w.grownBy w' (some b)) : FB w' g A H v := fb_turn h ho hg
theorem ret_f2 {F : Fw × Int} {A : Bool} {H E : Int} {D : List (BitVec 8)} {v : Value} (h : F = (⟨A, H, D⟩, E)) : Ending.returned (.tuple #[.agg #[.bool A, .int .i64 H, v], .int .i64 E]) = .returned (.tuple #[.agg #[.bool F.1.all, .int .i64 F.1.hashes, v], .int .i64 F.2]) := by rw [h]
set_option maxHeartbeats 1000000 in
set_option maxRecDepth 100000 in
theorem build_any (a : Option Addr) (len cap : Nat) (ss : List ByteArray) (bits : Int) (w : World) (hK : KAt w) (hr : RdS w a len ss) :
    Calls Tryd.prog 16 #[.slice a len cap, .int .i64 bits] w fun e w' => ∃ v, e = .returned (.tuple #[.agg #[.bool (builtF ss bits).1.all, .int .i64 (builtF ss bits).1.hashes, v], .int .i64 (builtF ss bits).2]) ∧ Own w' w.heap.size v (builtF ss bits).1.data ∧ Below w.heap.size w w' := by
  obtain ⟨w0, hw0⟩ : ∃ w0, w.alloc (.cells #[.bool false, .int .i64 0, .slice none 0 0] 24) = w0 := ⟨_, rfl⟩
  have hb0 : Below w.heap.size w w0 := by rw [← hw0]; exact (Below.refl _ _).alloc (Nat.le_refl _) _
  have hF0 : FB w0 w.heap.size false 0 (.slice none 0 0) := by rw [← hw0]; exact FB.new _ _ _ _
  obtain ⟨r, hr0⟩ : ∃ r, w.heap.size = r := ⟨_, rfl⟩
  rw [hr0] at hF0
  have HRS := hide hr0
  have HF0 := hide hF0
  have HB0 := hide hb0
  have HR := hide hr
  have HL := hide hr.1
  have hlm := hr.2.1
  have HK0 := hide (kat_below hK hb0)
  have r0 := hF0.c0
  have r1 := hF0.c1
  have r2 := hF0.c2
  have z0 := hF0.fz 0
  have z1 := hF0.fz 1
  have z2 := hF0.fz 2
  have HD : Hid (builtF ss bits = if bits < 0 ∨ 16 < bits then (zeroF, 3) else if ss.length = 0 then (zeroF, 0) else if bits = 0 ∨ 65536 < ss.length then (⟨true, 0, []⟩, 0)
    else (⟨false, (hashesOf bits.toNat : Nat), laidBits ss (hashesOf bits.toNat) (List.replicate (bytesOfK (ss.length * bits.toNat)) 0)⟩, 0)) := rfl
  rw [HL.out] at HD
  clear hr hK hF0 hb0
  have hcase : bits < 0 ∨ (¬ bits < 0 ∧ 16 < bits) ∨ (¬ bits < 0 ∧ ¬ 16 < bits ∧ len = 0) ∨ (¬ bits < 0 ∧ ¬ 16 < bits ∧ len ≠ 0 ∧ bits = 0) ∨ (¬ bits < 0 ∧ ¬ 16 < bits ∧ len ≠ 0 ∧ bits ≠ 0 ∧ 65536 < len) ∨ (¬ bits < 0 ∧ ¬ 16 < bits ∧ len ≠ 0 ∧ bits ≠ 0 ∧ ¬ 65536 < len) := by omega
  rcases hcase with h1 | ⟨h1, h2⟩ | ⟨h1, h2, h3⟩ | ⟨h1, h2, h3, h4⟩ | ⟨h1, h2, h3, h4, h5⟩ | ⟨h1, h2, h3, h4, h5⟩
  · have d1 : decide (bits < 0) = true := by simpa using h1
    have HE : Hid (builtF ss bits = (⟨false, 0, []⟩, 3)) := by show _ = _; rw [HD.out, if_pos (.inl h1)]; rfl
    clear h1 HD
    go_enter Tryd.func16, Tryd.ntmps16
    go_wp2_with fail
    refine bodyPost_ret (fb_ret2 rfl _ _ r false 0 (.slice none 0 0) rfl (HF0.out.set3 false 0 (.slice none 0 0))) rfl ?_
    exact ⟨_, ret_f2 HE.out, by rw [HE.out]; exact own_none _ _, by first | exact below3 HB0.out (by rw [HRS.out]; exact Nat.le_refl _) _ _ _ | (rw [← HRS.out]; exact below3 HB0.out (by rw [HRS.out]; exact Nat.le_refl _) _ _ _)⟩
  · have d1 : decide (bits < 0) = false := by simpa using h1
    have d2 : decide (16 < bits) = true := by simpa using h2
    have HE : Hid (builtF ss bits = (⟨false, 0, []⟩, 3)) := by show _ = _; rw [HD.out, if_pos (.inr h2)]; rfl
    clear h1 h2 HD
    go_enter Tryd.func16, Tryd.ntmps16
    go_wp2_with fail
    refine bodyPost_ret (fb_ret2 rfl _ _ r false 0 (.slice none 0 0) rfl (HF0.out.set3 false 0 (.slice none 0 0))) rfl ?_
    exact ⟨_, ret_f2 HE.out, by rw [HE.out]; exact own_none _ _, by first | exact below3 HB0.out (by rw [HRS.out]; exact Nat.le_refl _) _ _ _ | (rw [← HRS.out]; exact below3 HB0.out (by rw [HRS.out]; exact Nat.le_refl _) _ _ _)⟩
  · have d1 : decide (bits < 0) = false := by simpa using h1
    have d2 : decide (16 < bits) = false := by simpa using h2
    have HE : Hid (builtF ss bits = (⟨false, 0, []⟩, 0)) := by show _ = _; rw [HD.out, if_neg (by omega), if_pos h3]; rfl
    subst h3
    have d3 : (((0 : Nat) : Int) == 0) = true := by simp
    clear h1 h2 HD
    go_enter Tryd.func16, Tryd.ntmps16
    go_wp2_with fail
    refine bodyPost_ret (fb_ret2 rfl _ _ r false 0 (.slice none 0 0) rfl (HF0.out.set3 false 0 (.slice none 0 0))) rfl ?_
    exact ⟨_, ret_f2 HE.out, by rw [HE.out]; exact own_none _ _, by first | exact below3 HB0.out (by rw [HRS.out]; exact Nat.le_refl _) _ _ _ | (rw [← HRS.out]; exact below3 HB0.out (by rw [HRS.out]; exact Nat.le_refl _) _ _ _)⟩
  · have HE : Hid (builtF ss bits = (⟨true, 0, []⟩, 0)) := by show _ = _; rw [HD.out, if_neg (by omega), if_neg h3, if_pos (.inl h4)]
    subst h4
    have d3 : ((len : Int) == 0) = false := by rw [beq_eq_false_iff_ne]; omega
    clear h1 h2 HD
    go_enter Tryd.func16, Tryd.ntmps16
    go_wp2_with fail
    refine bodyPost_ret (fb_ret2 rfl _ _ r true 0 (.slice none 0 0) rfl (HF0.out.set3 true 0 (.slice none 0 0))) rfl ?_
    exact ⟨_, ret_f2 HE.out, by rw [HE.out]; exact own_none _ _, by first | exact below3 HB0.out (by rw [HRS.out]; exact Nat.le_refl _) _ _ _ | (rw [← HRS.out]; exact below3 HB0.out (by rw [HRS.out]; exact Nat.le_refl _) _ _ _)⟩
  · have d1 : decide (bits < 0) = false := by simpa using h1
    have d2 : decide (16 < bits) = false := by simpa using h2
    have d3 : ((len : Int) == 0) = false := by rw [beq_eq_false_iff_ne]; omega
    have d4 : (bits == 0) = false := by rw [beq_eq_false_iff_ne]; exact h4
    have d5 : decide (65536 < (len : Int)) = true := by simpa using (by omega : 65536 < (len : Int))
    have HE : Hid (builtF ss bits = (⟨true, 0, []⟩, 0)) := by show _ = _; rw [HD.out, if_neg (by omega), if_neg h3, if_pos (.inr h5)]
    clear h1 h2 HD
    go_enter Tryd.func16, Tryd.ntmps16
    go_wp2_with fail
    refine bodyPost_ret (fb_ret2 rfl _ _ r true 0 (.slice none 0 0) rfl (HF0.out.set3 true 0 (.slice none 0 0))) rfl ?_
    exact ⟨_, ret_f2 HE.out, by rw [HE.out]; exact own_none _ _, by first | exact below3 HB0.out (by rw [HRS.out]; exact Nat.le_refl _) _ _ _ | (rw [← HRS.out]; exact below3 HB0.out (by rw [HRS.out]; exact Nat.le_refl _) _ _ _)⟩
  · obtain ⟨nb, rfl⟩ : ∃ nb : Nat, bits = (nb : Int) := ⟨bits.toNat, by omega⟩
    have d1 : decide ((nb : Int) < 0) = false := by simp
    have d2 : decide (16 < (nb : Int)) = false := by simpa using h2
    have d3 : ((len : Int) == 0) = false := by rw [beq_eq_false_iff_ne]; omega
    have d4 : ((nb : Int) == 0) = false := by rw [beq_eq_false_iff_ne]; exact h4
    have d5 : decide (65536 < (len : Int)) = false := by simpa using (by omega : (len : Int) ≤ 65536)
    obtain ⟨M, hM⟩ : ∃ M, len * nb = M := ⟨_, rfl⟩
    have hMl : M ≤ 1048576 := by rw [← hM]; exact Nat.le_trans (Nat.mul_le_mul (by omega : len ≤ 65536) (by omega : nb ≤ 16)) (by decide)
    have hMw : IntKind.i64.wrap ((len : Int) * (nb : Int)) = (M : Int) := by
      have e : (len : Int) * (nb : Int) = (M : Int) := by rw [← hM]; simp
      rw [e, IntKind.wrap_i64]; omega
    have HE : Hid (builtF ss (nb : Int) = (⟨false, (hashesOf nb : Nat), laidBits ss (hashesOf nb) (List.replicate (bytesOfK M) 0)⟩, 0)) := by
      show _ = _; rw [HD.out, if_neg (by omega), if_neg h3, if_neg (by omega), Int.toNat_natCast, hM]
    have HBL := hide (blank_any M nb w0 HK0.out (by omega) (by omega) hMl)
    have HNP := hide (bytesOfK_pos M)
    have HHL := hide (hashesOf_le nb)
    obtain ⟨N, hN⟩ : ∃ N, bytesOfK M = N := ⟨_, rfl⟩
    obtain ⟨hs, hhs⟩ : ∃ hs, hashesOf nb = hs := ⟨_, rfl⟩
    rw [hN] at HNP HBL HE
    rw [hhs] at HBL HHL HE
    obtain ⟨Z, hZ⟩ : ∃ Z : List (BitVec 8), List.replicate N 0 = Z := ⟨_, rfl⟩
    have HZL : Hid (Z.length = N) := by show _ = _; rw [← hZ]; simp
    rw [hZ] at HBL HE
    clear h1 h2 hM hN hhs hZ HD
    go_enter Tryd.func16, Tryd.ntmps16
    go_wp2_with fail
    refine HBL.out.mono ?_
    rintro e w1 ⟨g, rfl, ho1, hb1⟩
    obtain ⟨w2, hw2⟩ : ∃ w2, w1.alloc (.cells #[.bool false, .int .i64 (hs : Int), .slice (some ⟨g, 0, none⟩) N N] 24) = w2 := ⟨_, rfl⟩
    have hb2 : Below w1.heap.size w1 w2 := by rw [← hw2]; exact (Below.refl _ _).alloc (Nat.le_refl _) _
    have HQ2 : Hid (FB w2 w1.heap.size false (hs : Int) (.slice (some ⟨g, 0, none⟩) N N)) := by rw [← hw2]; exact FB.new _ _ _ _
    obtain ⟨q, hq⟩ : ∃ q, w1.heap.size = q := ⟨_, rfl⟩
    rw [hq] at HQ2
    have HR2 := hide ((HF0.out.below hb1).below hb2)
    have HO2 := hide ((ho1.below hb2).mono HB0.out.size)
    have HB2 := hide (below_trans (below_trans HB0.out hb1) hb2)
    have HGE : Hid (w0.heap.size ≤ g) := ho1.lt'.1
    clear ho1 hb1 hb2 r0 r1 r2 z0 z1 z2
    have q2 := HQ2.out.c2
    go_wp2_with fail
    refine (setting_any (some ⟨g, 0, none⟩) N N w2).mono ?_
    rintro e w3 ⟨rfl, hd3, hb3⟩
    obtain ⟨d, hd⟩ : ∃ d, w2.heap.size = d := ⟨_, rfl⟩
    rw [hd] at hd3 ⊢
    have HD3 := hide hd3
    have HQ3 := hide (HQ2.out.below hb3)
    have HR3 := hide (HR2.out.below hb3)
    have HO3 := hide (HO2.out.below hb3)
    have HB3 := hide (below_trans HB2.out hb3)
    clear hd3 hb3 q2
    go_wp2_with fail
    have HGW : Hid (w.heap.size ≤ g) := by have h1 := HB0.out.size; have h2 := HGE.out; show _ ≤ _; omega
    go_loopw [9, 40] (fun _ i wr => ∃ k : Nat, k ≤ len ∧ i = .int .i64 (k : Int) ∧ Hid (Own wr w.heap.size (.slice (some ⟨g, 0, none⟩) N N) (laidBits (ss.take k) hs Z)) ∧ Hid (DB wr d (.slice (some ⟨g, 0, none⟩) N N)) ∧ Hid (FB wr q false (hs : Int) (.slice (some ⟨g, 0, none⟩) N N)) ∧ Hid (FB wr r false 0 (.slice none 0 0)) ∧ Hid (Below w.heap.size w wr)) (fun _ i _ => len - (intOf i).toNat)
    case atStart => exact ⟨0, Nat.zero_le _, rfl, by rw [List.take_zero]; exact HO3, HD3, HQ3, HR3, HB3⟩
    case round =>
      clear HO3 HD3 HQ3 HR3 HB3 HO2 HQ2 HR2 HB2
      obtain ⟨k, hk, rfl, HO, HDD, HQ, HRR, HB⟩ := hrel
      by_cases hlt : k < len
      · have hki : (k : Int) < (len : Int) := by omega
        have HRk := hide (HR.out.below HB.out)
        obtain ⟨kb, koff, rfl, hkb, hcell⟩ := HRk.out.2.2.2 (by omega)
        have kc := hcell k hlt
        have HSS := hide (HRk.out.2.2.1 _ (getS_mem (i := k) (by rw [HL.out]; exact hlt)))
        have HLT := hide (laidBits_take ss hs Z k (by rw [HL.out]; exact hlt))
        generalize ss.getD k ⟨#[]⟩ = s at kc HSS HLT
        clear hcell hkb
        have f0 := HQ.out.c0
        have f1 := HQ.out.c1
        have f2 := HQ.out.c2
        go_wp2_with fail
        refine (each_set w.heap.size false hs g N N d _ s wr HDD.out HO.out HNP.out.1 (by have := HNP.out.2; omega) HSS.out HHL.out.2).mono ?_
        rintro e w4 ⟨rfl, ho4, hg4⟩
        have HO4 := hide ho4
        have HD4 := hide (HDD.out.turn HO.out hg4)
        have HQ4 := hide (fb_turn HQ.out HO.out hg4)
        have HR4 := hide (fb_turn HRR.out HO.out hg4)
        have HB4 := hide (grown_below HB.out hg4 HGW.out)
        rw [← HLT.out] at HO4
        clear ho4 hg4
        go_wp2_with fail
        go_roundw
        case rel => exact ⟨k + 1, by omega, by go_num, HO4, HD4, HQ4, HR4, HB4⟩
        case measure => simp [intOf]; omega
      · have hkl : k = len := by omega
        subst hkl
        have hki : ¬ (k : Int) < (k : Int) := by omega
        have HTK : Hid (ss.take k = ss) := List.take_of_length_le (by rw [HL.out]; exact Nat.le_refl _)
        rw [HTK.out] at HO
        have f0 := HQ.out.c0
        have f1 := HQ.out.c1
        have f2 := HQ.out.c2
        have r0 := HRR.out.c0
        have r1 := HRR.out.c1
        have r2 := HRR.out.c2
        have z0 := HRR.out.fz 0
        have z1 := HRR.out.fz 1
        have z2 := HRR.out.fz 2
        go_wp2_with fail
        refine bodyPost_ret (fb_ret2 rfl _ _ r false (hs : Int) (.slice (some ⟨g, 0, none⟩) N N) rfl (HRR.out.set3 false (hs : Int) (.slice (some ⟨g, 0, none⟩) N N))) rfl ?_
        refine ⟨_, ret_f2 HE.out, ?_, by first | exact below3 HB.out (by rw [HRS.out]; exact Nat.le_refl _) _ _ _ | (rw [← HRS.out]; exact below3 HB.out (by rw [HRS.out]; exact Nat.le_refl _) _ _ _)⟩
        rw [HE.out]
        have hne := fb_ne_own HRR.out HO.out
        have hkp := keep HO.out (grown3 wr r (.bool false) (.int .i64 (hs : Int)) (.slice (some ⟨g, 0, none⟩) N N)) (fun i j e1 e2 e3 => by subst e3; rw [← e2] at e1; exact hne e1)
        first | exact hkp | exact hkp.mono (Nat.le_of_eq HRS.out.symm)
end Go.Proofs.YtpdlpahpefojbaaDoor.Filt
