/-
  What the program tells of Join.
-/
import Derived.Test.YtpoholpedkikhabCrcHalves
import Derived.Test.YtpoholpedkikhabCrcExtend
import Derived.Test.YtpoholpedkikhabCrcLen
import Derived.WalkSmall
import Derived.Test.YtpoholpedkikhabCrcJoinMath
namespace Go.Proofs.Ytpoholpedkikhab.Crc
open Go.ChangeShapes Go.WideShapes Go.ChangeAt Go.RowKit
theorem top_bit (x : BitVec 32) : (bits .and .u32 (x.toNat : Int) 2147483648 != 0) = x.getLsbD 31 := by
  have e : (2147483648 : Int) = (((BitVec.ofNat 32 1 <<< 31).toNat : Nat) : Int) := by decide
  rw [e, band, Bool.eq_iff_iff, bne_iff_ne]
  have key : (x &&& BitVec.ofNat 32 1 <<< 31) = if x.getLsbD 31 then BitVec.ofNat 32 1 <<< 31 else BitVec.ofNat 32 0 := by
    apply BitVec.eq_of_getLsbD_eq
    intro i hi
    rw [BitVec.getLsbD_and, unit_bit 31 i (by omega)]
    by_cases h : i = 31
    · subst h
      cases hx : x.getLsbD 31
      · simp
      · rw [if_pos rfl, unit_bit 31 31 (by omega)]; simp
    · cases hx : x.getLsbD 31
      · simp [h]
      · rw [if_pos rfl, unit_bit 31 i (by omega)]; simp [h]
  rw [key]
  cases x.getLsbD 31
  · simp
  · simp
theorem shl_one (x : BitVec 32) : (x.toNat : Int) * (2 : Int) % (4294967296 : Int) = ((x <<< 1).toNat : Int) := by
  rw [BitVec.toNat_shiftLeft, Nat.shiftLeft_eq]; rfl
theorem shl_bit (A : BitVec 32) (k : Nat) (hk : k < 32) : (A <<< k).getLsbD 31 = A.getLsbD (31 - k) := by
  rw [BitVec.getLsbD_shiftLeft]
  simp [show ¬ 31 < k by omega]
set_option maxHeartbeats 1000000 in
set_option maxRecDepth 100000 in
theorem times_any (A B : BitVec 32) (w : World) :
    Calls Try.prog 61 #[.int .u32 (A.toNat : Int), .int .u32 (B.toNat : Int)] w fun e w' => e = .returned (.int .u32 ((op A B).toNat : Int)) ∧ w' = w := by
  go_enter Try.func61, Try.ntmps61
  go_wp2
  go_loopw [0, 1, 5, 6] (fun a b p i wr => ∃ k : Nat, k ≤ 32 ∧ i = .int .i64 k ∧ (∃ X Y Z : BitVec 32, a = .int .u32 (X.toNat : Int) ∧ b = .int .u32 (Y.toNat : Int) ∧ p = .int .u32 (Z.toNat : Int) ∧ Hid (X = A <<< k ∧ Y = Mn k B ∧ Z = opTo A B k)) ∧ wr = w) (fun _ _ _ i _ => 32 - (intOf i).toNat)
  case atStart => exact ⟨0, Nat.zero_le _, rfl, ⟨A, B, BitVec.ofNat 32 0, rfl, rfl, rfl, by simp [Hid, Mn, opTo]⟩, rfl⟩
  case round =>
    obtain ⟨k, hk, rfl, ⟨X, Y, Z, rfl, rfl, rfl, HH⟩, rfl⟩ := hrel
    by_cases hlt : k < 32
    · have ht := top_bit X
      have hs := shl_one X
      obtain ⟨X', HX'⟩ : ∃ X', Hid (X' = X <<< 1) := ⟨_, rfl⟩
      rw [← HX'.out] at hs
      have hbx := bxor Z Y
      obtain ⟨Z', HZ'⟩ : ∃ Z', Hid (Z' = Z ^^^ Y) := ⟨_, rfl⟩
      rw [← HZ'.out] at hbx
      have hcb : X.getLsbD 31 = A.getLsbD (31 - k) := by rw [HH.out.1, shl_bit A k hlt]
      have eX : Hid (X' = A <<< (k + 1)) := by
        show X' = _
        rw [HX'.out, HH.out.1, ← BitVec.shiftLeft_add]
      have eY : Hid (M Y = Mn (k + 1) B) := by
        show M Y = _
        rw [HH.out.2.1, Mn_succ]
      cases hb : A.getLsbD (31 - k)
      · rw [hcb, hb] at ht
        have eZ : Hid (Z = opTo A B (k + 1)) := by
          show Z = (if A.getLsbD (31 - k) then opTo A B k ^^^ Mn k B else opTo A B k)
          rw [hb]; exact HH.out.2.2
        clear hb hcb
        go_wp2_with fail
        refine (shift_any _ _).mono ?_
        rintro e w' ⟨rfl, rfl⟩
        go_wp2_with fail
        go_roundw
        case rel => exact ⟨k + 1, by omega, by go_num, ⟨X', M Y, Z, rfl, rfl, rfl, eX.out, eY.out, eZ.out⟩, trivial⟩
        case measure => simp [intOf]; omega
      · rw [hcb, hb] at ht
        have eZ : Hid (Z' = opTo A B (k + 1)) := by
          show Z' = (if A.getLsbD (31 - k) then opTo A B k ^^^ Mn k B else opTo A B k)
          rw [hb, if_pos rfl, HZ'.out, HH.out.2.2, HH.out.2.1]
        clear hb hcb
        go_wp2_with fail
        refine (shift_any _ _).mono ?_
        rintro e w' ⟨rfl, rfl⟩
        go_wp2_with fail
        go_roundw
        case rel => exact ⟨k + 1, by omega, by go_num, ⟨X', M Y, Z', rfl, rfl, rfl, eX.out, eY.out, eZ.out⟩, trivial⟩
        case measure => simp [intOf]; omega
    · have hk' : k = 32 := by omega
      subst hk'
      go_wp2
      go_ret
      exact ⟨ret_int (by rw [HH.out.2.2]; rfl), rfl⟩
/-- The part of the count that k digits tell. -/
theorem count_bit (c k : Nat) (hc : c ≤ 9223372036854775807) : bits .and .u64 ((c : Int) / (2 : Int) ^ k) 1 = ((c / 2 ^ k % 2 : Nat) : Int) := by
  have e1 : (c : Int) / (2 : Int) ^ k = ((c / 2 ^ k : Nat) : Int) := by
    rw [Int.natCast_ediv, Int.natCast_pow]; rfl
  rw [e1, and_one_u64 _ (Int.natCast_nonneg _) (by have := Nat.div_le_self c (2 ^ k); omega)]
  rfl
theorem mod_step (c k : Nat) : c % 2 ^ (k + 1) = c % 2 ^ k + 2 ^ k * (c / 2 ^ k % 2) := by
  rw [Nat.pow_succ, Nat.mod_mul]
set_option maxHeartbeats 1000000 in
set_option maxRecDepth 100000 in
theorem join_any (a b : BitVec 32) (n : Int) (w : World) (hn : n ≤ 9223372036854775807) :
    Calls Try.prog 27 #[.int .u32 (a.toNat : Int), .int .u32 (b.toNat : Int), .int .i64 n] w fun e w' => e = .returned (.int .u32 ((join a b n.toNat).toNat : Int)) ∧ w' = w := by
  obtain ⟨c, HC⟩ : ∃ c, Hid (c = n.toNat) := ⟨_, rfl⟩
  have hc : c ≤ 9223372036854775807 := by have := HC.out; omega
  have hmax : ∀ ts t wx, (Builtin.max_ ts t #[.int .i64 n, .int .i64 0]).run Try.prog wx = .ok (.int .i64 (c : Int)) wx := by
    intro ts t wx
    have e : (if (0 : Int) > n then (0 : Int) else n) = (c : Int) := by
      have := HC.out
      split <;> omega
    simp only [gt_iff_lt] at e
    simp [Builtin.max_, Builtin.max2, e]
  have HD := hide (bitLen_64 c (by omega))
  have HD2 := hide (lt_bitLen c (by omega))
  go_enter Try.func27, Try.ntmps27
  go_wp2_with fail
  refine (len_any c w (by omega)).mono ?_
  rintro e w' ⟨rfl, rfl⟩
  generalize Lib.bitLen c = D at HD HD2
  have hD := HD.out
  go_wp2_with fail
  go_loopw [0, 8, 15] (fun x p i wr => ∃ k : Nat, k ≤ D ∧ i = .int .i64 k ∧ (∃ X P : BitVec 32, x = .int .u32 (X.toNat : Int) ∧ p = .int .u32 (P.toNat : Int) ∧ Hid (X = Mn (8 * (c % 2 ^ k)) a ∧ P = Mn (8 * 2 ^ k) one31)) ∧ wr = w') (fun _ _ i _ => D - (intOf i).toNat)
  case atStart => exact ⟨0, Nat.zero_le _, rfl, ⟨a, BitVec.ofNat 32 8388608, rfl, rfl, by simp [Hid, Nat.mod_one, Mn, power8]⟩, rfl⟩
  case round =>
    obtain ⟨k, hk, rfl, ⟨X, P, rfl, rfl, HH⟩, rfl⟩ := hrel
    by_cases hlt : k < D
    · have hcb := count_bit c k hc
      have ho := op_power (8 * 2 ^ k)
      rw [← HH.out.2] at ho
      have eP : Hid (op P P = Mn (8 * 2 ^ (k + 1)) one31) := by
        show op P P = _
        rw [ho, HH.out.2, ← Mn_add, Nat.pow_succ]
        congr 1
        omega
      have eX : Hid (op P X = Mn (8 * 2 ^ k) X) := ho X
      clear ho
      have hms := mod_step c k
      have hd : decide ((k : Int) < (D : Int)) = true := by simp; omega
      rcases (by omega : c / 2 ^ k % 2 = 0 ∨ c / 2 ^ k % 2 = 1) with h2 | h2
      · rw [h2] at hcb hms
        have q1 : (bits .and .u64 ((c : Int) / (2 : Int) ^ k) 1 == 1) = false := by rw [hcb]; rfl
        have HM := hide hms
        clear hcb hms h2
        have eX' : Hid (X = Mn (8 * (c % 2 ^ (k + 1))) a) := by
          show X = _
          rw [HM.out, Nat.mul_zero, Nat.add_zero]; exact HH.out.1
        go_wp2_with fail
        refine (times_any _ _ _).mono ?_
        rintro e w' ⟨rfl, rfl⟩
        go_wp2_with fail
        go_roundw
        case rel => exact ⟨k + 1, by omega, by go_num, ⟨X, op P P, rfl, rfl, eX'.out, eP.out⟩, trivial⟩
        case measure => simp [intOf]; omega
      · rw [h2] at hcb hms
        have q1 : (bits .and .u64 ((c : Int) / (2 : Int) ^ k) 1 == 1) = true := by rw [hcb]; rfl
        have HM := hide hms
        clear hcb hms h2
        have eX' : Hid (op P X = Mn (8 * (c % 2 ^ (k + 1))) a) := by
          show op P X = _
          rw [HM.out, eX.out, HH.out.1, ← Mn_add, Nat.mul_one, Nat.mul_add]
        go_wp2_with fail
        refine (times_any _ _ _).mono ?_
        rintro e w' ⟨rfl, rfl⟩
        go_wp2_with fail
        refine (times_any _ _ _).mono ?_
        rintro e w' ⟨rfl, rfl⟩
        go_wp2_with fail
        go_roundw
        case rel => exact ⟨k + 1, by omega, by go_num, ⟨op P X, op P P, rfl, rfl, eX'.out, eP.out⟩, trivial⟩
        case measure => simp [intOf]; omega
    · have hk' : k = D := by omega
      subst hk'
      have hbx := bxor X b
      obtain ⟨Z, HZ⟩ : ∃ Z, Hid (Z = X ^^^ b) := ⟨_, rfl⟩
      rw [← HZ.out] at hbx
      have hd : decide ((k : Int) < (k : Int)) = false := by simp
      go_wp2_with fail
      go_ret
      refine ⟨ret_int ?_, rfl⟩
      rw [HZ.out, HH.out.1, Nat.mod_eq_of_lt HD2.out, HC.out]
      rfl
end Go.Proofs.Ytpoholpedkikhab.Crc
