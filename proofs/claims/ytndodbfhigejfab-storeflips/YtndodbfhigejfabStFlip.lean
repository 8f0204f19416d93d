/-
  Turning bits of a blob.
-/
import Derived.Test.YtndodbfhigejfabStFlipM
import Derived.Test.YtndodbfhigejfabStMeter
namespace Go.Proofs.Ytndodbfhigejfab.St
open Go.ChangeShapes Go.WideShapes Go.ChangeAt Go.RowKit Go.MuLone
open Go.Proofs.Ytndodbfhigejfab.Base
set_option linter.unusedVariables false
set_option maxHeartbeats 2000000
theorem band32 (x y : BitVec 32) : bits .and .u32 (x.toNat : Int) (y.toNat : Int) = ((x &&& y).toNat : Int) := by
  rw [u32_and_nat _ _ (lt32 x) (lt32 y), BitVec.toNat_and]
theorem low_bit32 (x : BitVec 32) : (x.toNat : Int) % 2 = if x.getLsbD 0 then 1 else 0 := by
  have : x.getLsbD 0 = decide (x.toNat % 2 = 1) := by
    rw [BitVec.getLsbD, Nat.testBit_zero]
  rw [this]
  by_cases h : x.toNat % 2 = 1
  · simp [h]; omega
  · simp [h]; omega
theorem and_one32 (x : BitVec 32) : bits .and .u32 (x.toNat : Int) 1 = if x.getLsbD 0 then 1 else 0 := by
  have h := band32 x (BitVec.ofNat 32 1)
  have e : ((BitVec.ofNat 32 1).toNat : Int) = 1 := by decide
  rw [e] at h
  rw [h, ← low_bit32, BitVec.toNat_and]
  show ((x.toNat &&& 1 : Nat) : Int) = _
  rw [Nat.and_one_is_mod]; rfl
theorem mask_bit (mask X : BitVec 32) (k : Nat) (h : mask >>> k = X) : bits .and .u32 (X.toNat : Int) 1 = if mask.getLsbD k then 1 else 0 := by
  rw [and_one32, ← h, BitVec.getLsbD_ushiftRight, Nat.add_zero]
theorem shl8 : ∀ r : Fin 8, (2 : Int) ^ r.val % 256 = ((1#8 <<< r.val).toNat : Int) := by decide
theorem shl_at (p : Nat) : (2 : Int) ^ (p % 8) % 256 = ((1#8 <<< (p % 8)).toNat : Int) := shl8 ⟨p % 8, Nat.mod_lt _ (by omega)⟩
theorem flip_one_in (bs : List (BitVec 8)) (bit k : Nat) (mask : BitVec 32) (h : mask.getLsbD k = true) (h2 : bit + k < 8 * bs.length) : flipTo bs bit mask (k + 1) = flipOne (flipTo bs bit mask k) (bit + k) := by
  show (if _ then _ else _) = _
  rw [if_pos ⟨h, h2⟩]
theorem flip_one_out (bs : List (BitVec 8)) (bit k : Nat) (mask : BitVec 32) (h : ¬ (mask.getLsbD k = true ∧ bit + k < 8 * bs.length)) : flipTo bs bit mask (k + 1) = flipTo bs bit mask k := by
  show (if _ then _ else _) = _
  rw [if_neg h]
theorem bshr32 (k : Nat) (x : BitVec 32) : (x.toNat : Int) / (2 : Int) ^ k = ((x >>> k).toNat : Int) := by
  rw [BitVec.toNat_ushiftRight, Nat.shiftRight_eq_div_pow, Int.natCast_ediv, Int.natCast_pow]; rfl
set_option maxRecDepth 100000 in
theorem flip_ok (b g L cap base bit : Nat) (bs : List (BitVec 8)) (mask : BitVec 32) (w : World) (h : BAt w b (.slice (some ⟨g, 0, none⟩) L cap) 2 (-1) false) (ho : Own w base (.slice (some ⟨g, 0, none⟩) L cap) bs) (hl : L ≤ 268435456) (hbit : bit < 8 * L) (hgb : g ≠ b) :
    Calls Try.prog 57 #[.pointer (some ⟨b, 0, none⟩), .int .i64 (bit : Int), .int .u32 (mask.toNat : Int)] w fun e w' => e = .returned (.int .i64 0) ∧ Own w' base (.slice (some ⟨g, 0, none⟩) L cap) (flipTo bs bit mask 32) ∧ w.grownBy w' (some g) := by
  have HSZ := hide (fun W (hW : BAt W b (.slice (some ⟨g, 0, none⟩) L cap) 2 (-1) false) => size_any b (some ⟨g, 0, none⟩) L cap 2 (-1) false W hW (by omega))
  have HB := hide h
  have HO := hide ho
  have HL : Hid (bs.length = L) := (Own.len ho).symm
  have hLi : (L : Int) ≤ 268435456 := by omega
  have h0 : ¬ (bit : Int) < 0 := by omega
  have h1 : ¬ 8 * (L : Int) ≤ (bit : Int) := by omega
  have hbi : (bit : Int) ≤ 2147483648 := by omega
  clear h ho
  go_enter Try.func57, Try.ntmps57
  go_wp2_with (go_at_call 64; refine (HSZ.out _ HB.out).mono ?_; rintro e w1 ⟨rfl, rfl⟩)
  go_loopw [18] (fun i wr => ∃ k : Nat, k ≤ 32 ∧ i = .int .i64 (k : Int) ∧ Hid (Own wr base (.slice (some ⟨g, 0, none⟩) L cap) (flipTo bs bit mask k) ∧ w1.grownBy wr (some g))) (fun i _ => 32 - (intOf i).toNat)
  case atStart => exact ⟨0, Nat.zero_le _, rfl, HO.out, World.grownBy.refl _ _⟩
  case round =>
    obtain ⟨k, hk, rfl, HI⟩ := hrel
    have HBr := hide (HB.out.grown HI.out.2 (fun e => hgb (Option.some.inj e)))
    by_cases hlt : k < 32
    · have hki : (k : Int) < 32 := by omega
      obtain ⟨p, hp⟩ : ∃ p : Nat, (bit : Int) + (k : Int) = (p : Int) := ⟨bit + k, by omega⟩
      have hpi : (p : Int) ≤ 2147483680 := by omega
      obtain ⟨X, hX⟩ : ∃ X, mask >>> k = X := ⟨_, rfl⟩
      have m1 : (mask.toNat : Int) / (2 : Int) ^ k = (X.toNat : Int) := by rw [bshr32, hX]
      by_cases hm : mask.getLsbD k = true
      · have m2 : bits .and .u32 (X.toNat : Int) 1 = 1 := by rw [mask_bit mask X k hX, if_pos hm]
        clear hX
        by_cases hin : p < 8 * L
        · have hini : (p : Int) < 8 * (L : Int) := by omega
          have h8 : (p : Int) / 8 < (L : Int) := by omega
          obtain ⟨d0, d1, d2, d3⟩ := HBr.out.cells
          have g1 := HI.out.1.cell (p / 8) (by omega)
          have f1 := HI.out.1.frozen (p / 8)
          go_wp2_with (go_at_call 64; refine (HSZ.out _ HBr.out).mono ?_; rintro e w2 ⟨rfl, rfl⟩)
          obtain ⟨c, hc⟩ : ∃ c, (flipTo bs bit mask k).getD (p / 8) 0 = c := ⟨_, rfl⟩
          rw [hc] at g1
          obtain ⟨Y, hY⟩ : ∃ Y, 1#8 <<< (p % 8) = Y := ⟨_, rfl⟩
          have y1 : (2 : Int) ^ (p % 8) % 256 = (Y.toNat : Int) := by rw [shl_at, hY]
          have y2 := bxor_u8 c Y
          obtain ⟨Z, hZ⟩ : ∃ Z, c ^^^ Y = Z := ⟨_, rfl⟩
          rw [hZ] at y2
          have HZ : Hid ((flipTo bs bit mask k).set (p / 8) Z = flipTo bs bit mask (k + 1)) := by
            show _ = _
            obtain rfl : p = bit + k := by omega
            rw [flip_one_in bs bit k mask hm (by rw [HL.out]; exact hin), ← hZ, ← hc, ← hY]; rfl
          clear hZ hY hc
          go_region
          go_wp2_with fail
          go_roundw
          case rel =>
            have h9 := HI.out.1.store (p / 8) Z
            rw [HZ.out] at h9
            exact ⟨k + 1, by omega, by go_num, h9.1.below ((Below.refl _ _).drew), grown_trans (grown_trans HI.out.2 h9.2) (grown_of_below ((Below.refl _ _).drew))⟩
          case measure => simp [intOf]; omega
        · have hini : ¬ (p : Int) < 8 * (L : Int) := by omega
          go_wp2_with (go_at_call 64; refine (HSZ.out _ HBr.out).mono ?_; rintro e w2 ⟨rfl, rfl⟩)
          go_roundw
          case rel => exact ⟨k + 1, by omega, by go_num, by rw [flip_one_out bs bit k mask (fun h => by have h1 := h.2; rw [HL.out] at h1; omega)]; exact HI.out⟩
          case measure => simp [intOf]; omega
      · have m2 : bits .and .u32 (X.toNat : Int) 1 = 0 := by rw [mask_bit mask X k hX, if_neg hm]
        clear hX
        go_wp2_with fail
        go_roundw
        case rel => exact ⟨k + 1, by omega, by go_num, by rw [flip_one_out bs bit k mask (fun h => hm h.1)]; exact HI.out⟩
        case measure => simp [intOf]; omega
    · have hki : ¬ (k : Int) < 32 := by omega
      obtain rfl : k = 32 := by omega
      go_wp2_with fail
      go_ret
      exact ⟨rfl, HI.out.1, HI.out.2⟩
end Go.Proofs.Ytndodbfhigejfab.St
