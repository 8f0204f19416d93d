/-
  The walk of the statement CrcBurst.
-/
import Derived.Test.YtkooijlldpiljaaCrcRefused
import Derived.Test.YtkooijlldpiljaaCrcBurstMath
import Derived.Deep.RegionHeld
namespace Go.Proofs.Ytkooijlldpiljaa.crcBurst
open Go.ChangeShapes Go.WideShapes Go.ChangeAt Go.RowKit
open Go.Proofs.Ytkooijlldpiljaa.Crc
set_option linter.unusedVariables false
theorem mod_range (n N : Int) (hN : 0 < N) : -N < n.tmod N ∧ n.tmod N < N := by
  rcases Int.le_total 0 n with h | h
  · rw [Int.tmod_eq_emod_of_nonneg h]
    exact ⟨by have := Int.emod_nonneg n (by omega : N ≠ 0); omega, Int.emod_lt_of_pos n hN⟩
  · obtain ⟨m, rfl⟩ : ∃ m, n = -m := ⟨-n, by omega⟩
    rw [Int.neg_tmod, Int.tmod_eq_emod_of_nonneg (by omega)]
    have h1 := Int.emod_nonneg m (by omega : N ≠ 0)
    have h2 := Int.emod_lt_of_pos m hN
    omega
theorem bit_val (x : BitVec 32) (k : Nat) : (((x.toNat : Int) / (2 : Int) ^ k).tmod 2 == 1) = x.getLsbD k := by
  have e1 : (x.toNat : Int) / (2 : Int) ^ k = ((x.toNat / 2 ^ k : Nat) : Int) := by
    rw [Int.natCast_ediv, Int.natCast_pow]; rfl
  rw [e1, Int.tmod_eq_emod_of_nonneg (Int.natCast_nonneg _), BitVec.getLsbD, Nat.testBit_eq_decide_div_mod_eq]
  rw [Bool.eq_iff_iff]
  simp
  omega
theorem flip_val (c : BitVec 8) (B : Nat) : bits .xor .u8 (c.toNat : Int) ((2 : Int) ^ B % 256) = ((c ^^^ (BitVec.ofNat 8 1 <<< B)).toNat : Int) := by
  have e : (2 : Int) ^ B % 256 = ((BitVec.ofNat 8 1 <<< B).toNat : Int) := by
    rw [BitVec.toNat_shiftLeft, Nat.shiftLeft_eq]
    simp
  rw [e, u8_xor_nat _ _ (lt8 c) (lt8 _), BitVec.toNat_xor]
set_option maxHeartbeats 2000000 in
theorem walk (a0 : Option Addr) (len0 cap0 : Nat) (b0 : List (BitVec 8)) (n1 : Int) (x2 : BitVec 32) (w : World) (r0 : Rd w a0 len0 b0) (l0 : len0 ≤ cap0) (m0 : cap0 ≤ 140737488351232) (z0 : a0 = none → len0 = 0 ∧ cap0 = 0)
    (w1 : (Lit.int .i64 n1).wf = true) :
    Calls Try.prog 8 #[.slice a0 len0 cap0, .int .i64 n1, .int .u32 (x2.toNat : Int)] w fun e w' => e = .returned (.bool true) ∧ Below w.heap.size w w' := by
  have HL := hide r0.1
  have R0 := hide r0
  have Z0 := hide z0
  clear r0 z0
  have hb1 := bounds_i64 w1
  obtain ⟨N, hN⟩ : ∃ N : Nat, N = 8 * (len0 + 4) := ⟨_, rfl⟩
  have HN := hide hN
  have hn8 : 8 * ((len0 : Int) + 4) = (N : Int) := by omega
  have hN32 : 32 ≤ N := by omega
  have hNm : N ≤ 1125899906809888 := by omega
  clear hN
  have hr := mod_range n1 N (by omega)
  generalize hR : n1.tmod (N : Int) = r at hr
  obtain ⟨q1, q2⟩ := hr
  obtain ⟨A, hAN, hA⟩ : ∃ A : Nat, A < N ∧ ((r < 0 ∧ r + (N : Int) = (A : Int)) ∨ (¬ r < 0 ∧ r = (A : Int))) := by
    by_cases h : r < 0
    · exact ⟨(r + N).toNat, by omega, .inl ⟨h, by omega⟩⟩
    · exact ⟨r.toNat, by omega, .inr ⟨h, by omega⟩⟩
  rcases hA with ⟨hneg, hA⟩ | ⟨hneg, rfl⟩
  all_goals
    go_enter Try.func8, Try.ntmps8
    go_wp2_with fail
    refine (seal_any _ _ _ _ _ R0.out Z0.out (by omega)).mono ?_
    rintro e w2 ⟨g, rfl, hg, ho, hb⟩
    have HO := hide ho
    have HB := hide hb
    clear ho hb
    go_wp2_with fail
    go_loopw [9, 10] (fun t i wr => ∃ k : Nat, k ≤ 32 ∧ i = .int .i64 k ∧ ∃ tb : Bool, t = .bool tb ∧ Hid (tb = true ↔ below x2 k ≠ BitVec.ofNat 32 0) ∧ ∃ L : List (BitVec 8), Hid (Own wr w.heap.size (.slice (some ⟨g, 0, none⟩) (len0 + 4) (len0 + 4)) L) ∧ Hid (Turned (tile b0) L A (below x2 k)) ∧ Hid (Below w.heap.size w wr)) (fun _ i _ => 32 - (intOf i).toNat)
    case atStart => exact ⟨0, Nat.zero_le _, rfl, false, rfl, by simp [Hid, below], tile b0, HO, turned_start _ _, HB⟩
    case round =>
      clear HO HB
      obtain ⟨k, hk, rfl, tb, rfl, HT, L, HO, HL2, HB⟩ := hrel
      by_cases hin : k < 32 ∧ A + k < N
      · obtain ⟨h32, hAk⟩ := hin
        have d1 : decide ((k : Int) < 32) = true := by simp; omega
        have d2 : decide ((A : Int) + (k : Int) < (N : Int)) = true := by simp; omega
        have hbv := bit_val x2 k
        cases hbit : x2.getLsbD k
        · rw [hbit] at hbv
          have HK := hide (turned_skip _ _ _ _ _ HL2.out hbit)
          have HT' : Hid (tb = true ↔ below x2 (k + 1) ≠ BitVec.ofNat 32 0) := by
            show _ ↔ _
            rw [HT.out]
            show _ ↔ (if x2.getLsbD k then below x2 k ^^^ (BitVec.ofNat 32 1 <<< k) else below x2 k) ≠ _
            rw [hbit]; simp
          clear hbit
          go_wp2_with fail
          go_roundw
          case rel => exact ⟨k + 1, by omega, by go_num, tb, rfl, HT', L, HO, HK, HB⟩
          case measure => simp [intOf]; omega
        · rw [hbit] at hbv
          have HK := hide (turned_step _ _ _ _ _ HL2.out h32 (by rw [length_tile]; have := HL.out; have := HN.out; omega) hbit)
          have HT' := hide (below_turned x2 k h32 hbit)
          clear hbit
          obtain ⟨J, hJ, HJ⟩ : ∃ J : Nat, ((A : Int) + (k : Int)) / 8 = (J : Int) ∧ Hid (J = (A + k) / 8) := ⟨(A + k) / 8, by omega, rfl⟩
          obtain ⟨B, hBv, HBv⟩ : ∃ B : Nat, ((A : Int) + (k : Int)) % 8 = (B : Int) ∧ Hid (B = (A + k) % 8) := ⟨(A + k) % 8, by omega, rfl⟩
          have hJ2 : ((A : Int) + (k : Int)).tdiv 8 = (J : Int) := by rw [Int.tdiv_eq_ediv_of_nonneg (by omega)]; exact hJ
          have hB2 : ((A : Int) + (k : Int)).tmod 8 = (B : Int) := by rw [Int.tmod_eq_emod_of_nonneg (by omega)]; exact hBv
          have hJl : J < len0 + 4 := by have := HJ.out; have := HN.out; omega
          have g1 := HO.out.cell J hJl
          have g2 := HO.out.frozen J
          generalize hC : L.getD J 0 = c at g1
          have HC := hide hC
          clear hC
          have hJi : (J : Int) < (len0 : Int) + 4 := by omega
          have hB8 : B < 8 := by have := HBv.out; omega
          have hD := flip_val c B
          have HF : Hid (flipAt L (A + k) = L.set J (c ^^^ (BitVec.ofNat 8 1 <<< B))) := by
            show flipAt L (A + k) = _
            unfold flipAt
            rw [← HJ.out, ← HBv.out, HC.out]
          have hst := HO.out.store J (c ^^^ (BitVec.ofNat 8 1 <<< B))
          rw [← HF.out] at hst
          generalize c ^^^ (BitVec.ofNat 8 1 <<< B) = d at hD hst
          have HS := hide hst
          clear hst HF
          go_wp2_with fail
          go_region
          go_wp2_with fail
          go_roundw
          case rel =>
            refine ⟨k + 1, by omega, by go_num, true, rfl, ⟨fun _ => HT'.out, fun _ => rfl⟩, flipAt L (A + k), ?_, HK, ?_⟩
            · exact World.ownsRow.drew HS.out.1
            · exact (grown_below HB.out HS.out.2 hg).drew
          case measure => simp [intOf]; omega
      · by_cases h32 : k < 32
        · have d1 : decide ((k : Int) < 32) = true := by simp; omega
          have d2 : decide ((A : Int) + (k : Int) < (N : Int)) = false := by simp; omega
          have HLL : Hid (L.length = len0 + 4) := by
            show L.length = _
            rw [HL2.out.1, length_tile, HL.out]
          go_wp2_with fail
          refine (open_any _ _ _ _ _ (HO.out.rd (by rw [HLL.out]; omega)) (Nat.le_refl _) (by omega)).mono ?_
          rintro e w3 ⟨v, rfl, ⟨av, nv, cv, rfl, hnv, ho3⟩, hb3⟩
          have HO3 := hide ho3
          have HP := hide (HO.out.below hb3)
          have HB3 := hide (below_trans HB.out hb3)
          clear ho3 hb3 HB HO hnv
          cases tb
          · have hz : below x2 k = BitVec.ofNat 32 0 := by
              by_cases h : below x2 k = BitVec.ofNat 32 0
              · exact h
              · exact absurd (HT.out.2 h) (by simp)
            have hLT : L = tile b0 := HL2.out.2.2 hz
            subst hLT
            rw [openErr_tile]
            rw [openBody_tile] at HO3
            have q3 : decide (b0 = b0) = true := by simp
            clear hz
            go_wp2_with fail
            refine (same_any _ _ _ _ _ _ _ _ _ (Got.rd HO3.out (by have := HL.out; omega)) (R0.out.below HB3.out)).mono ?_
            rintro e w4 ⟨rfl, hb4⟩
            have HB4 := hide (below_trans HB3.out hb4)
            clear hb4 HB3 HO3
            go_wp2_with fail
            go_ret
            exact ⟨rfl, HB4.out⟩
          · have H10 := hide (turned_told _ _ _ _ HL2.out (HT.out.1 rfl))
            clear HO3
            go_wp2_with fail
            refine (works_any _).mono ?_
            rintro e w4 ⟨rfl, hb4⟩
            have HB4 := hide (below_trans HB3.out hb4)
            have HP4 := hide (HP.out.below hb4)
            clear hb4 HB3 HP
            go_wp2_with fail
            refine (refused_any _ _ _ _ _ (HP4.out.rd (by rw [HLL.out]; omega)) (Nat.le_refl _) (by omega) H10.out).mono ?_
            rintro e w5 ⟨rfl, hb5⟩
            have HB5 := hide (below_trans HB4.out hb5)
            clear hb5 HB4 HP4
            go_wp2_with fail
            go_ret
            exact ⟨rfl, HB5.out⟩
        · have d1 : decide ((k : Int) < 32) = false := by simp; omega
          have HLL : Hid (L.length = len0 + 4) := by
            show L.length = _
            rw [HL2.out.1, length_tile, HL.out]
          go_wp2_with fail
          refine (open_any _ _ _ _ _ (HO.out.rd (by rw [HLL.out]; omega)) (Nat.le_refl _) (by omega)).mono ?_
          rintro e w3 ⟨v, rfl, ⟨av, nv, cv, rfl, hnv, ho3⟩, hb3⟩
          have HO3 := hide ho3
          have HP := hide (HO.out.below hb3)
          have HB3 := hide (below_trans HB.out hb3)
          clear ho3 hb3 HB HO hnv
          cases tb
          · have hz : below x2 k = BitVec.ofNat 32 0 := by
              by_cases h : below x2 k = BitVec.ofNat 32 0
              · exact h
              · exact absurd (HT.out.2 h) (by simp)
            have hLT : L = tile b0 := HL2.out.2.2 hz
            subst hLT
            rw [openErr_tile]
            rw [openBody_tile] at HO3
            have q3 : decide (b0 = b0) = true := by simp
            clear hz
            go_wp2_with fail
            refine (same_any _ _ _ _ _ _ _ _ _ (Got.rd HO3.out (by have := HL.out; omega)) (R0.out.below HB3.out)).mono ?_
            rintro e w4 ⟨rfl, hb4⟩
            have HB4 := hide (below_trans HB3.out hb4)
            clear hb4 HB3 HO3
            go_wp2_with fail
            go_ret
            exact ⟨rfl, HB4.out⟩
          · have H10 := hide (turned_told _ _ _ _ HL2.out (HT.out.1 rfl))
            clear HO3
            go_wp2_with fail
            refine (works_any _).mono ?_
            rintro e w4 ⟨rfl, hb4⟩
            have HB4 := hide (below_trans HB3.out hb4)
            have HP4 := hide (HP.out.below hb4)
            clear hb4 HB3 HP
            go_wp2_with fail
            refine (refused_any _ _ _ _ _ (HP4.out.rd (by rw [HLL.out]; omega)) (Nat.le_refl _) (by omega) H10.out).mono ?_
            rintro e w5 ⟨rfl, hb5⟩
            have HB5 := hide (below_trans HB4.out hb5)
            clear hb5 HB4 HP4
            go_wp2_with fail
            go_ret
            exact ⟨rfl, HB5.out⟩
end Go.Proofs.Ytkooijlldpiljaa.crcBurst
