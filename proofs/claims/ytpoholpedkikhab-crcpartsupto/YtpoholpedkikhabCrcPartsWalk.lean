/-
  The walk of the statement CrcParts, where what comes in is small.
-/
import Derived.Test.YtpoholpedkikhabCrcRun
import Derived.Test.YtpoholpedkikhabCrcJoin
import Derived.Test.YtpoholpedkikhabCrcBurstMath
import Derived.Test.YtpoholpedkikhabBase
namespace Go.Proofs.Ytpoholpedkikhab.crcParts
open Go.ChangeShapes Go.WideShapes Go.ChangeAt Go.RowKit
open Go.Proofs.Ytpoholpedkikhab.Crc
set_option linter.unusedVariables false
theorem extend_join (s : BitVec 32) (b : List (BitVec 8)) : extend s b = join s (sum b) b.length := by
  unfold sum extend join
  have e : ~~~ s = ~~~ (BitVec.ofNat 32 0) ^^^ s := by
    rw [show ~~~ (BitVec.ofNat 32 0) = BitVec.allOnes 32 by decide, BitVec.allOnes_xor]
  rw [e, run_xor]
  generalize run (~~~ (BitVec.ofNat 32 0)) b = r
  generalize Mn (8 * b.length) s = m
  rw [← BitVec.allOnes_xor, ← BitVec.allOnes_xor (x := r), ← BitVec.xor_assoc, BitVec.xor_comm]
theorem join_join (a b c : BitVec 32) (m n : Nat) : join (join a b m) c n = join a (join b c n) (m + n) := by
  unfold join
  rw [Mn_xor, ← Mn_add, Nat.mul_add, BitVec.xor_assoc]
theorem sum_two (a b : List (BitVec 8)) : join (sum a) (sum b) b.length = sum (a ++ b) := by rw [sum_append, extend_join]
theorem sum_three (a b c : List (BitVec 8)) : join (join (sum a) (sum b) b.length) (sum c) c.length = sum (a ++ b ++ c) := by rw [sum_two, sum_two]
theorem extend_ext (a b c : List (BitVec 8)) : extend (extend (sum a) b) c = sum (a ++ b ++ c) := by rw [← sum_append, ← sum_append]
theorem extend_zero (a b c : List (BitVec 8)) : extend (extend (extend (BitVec.ofNat 32 0) a) b) c = sum (a ++ b ++ c) := by
  rw [← extend_ext]; rfl
theorem own_nothing (w : World) (base : Nat) (hb : base ≤ w.heap.size) : Base.Own (w.alloc (.cells #[] 5)) base (.slice (some ⟨w.heap.size, 0, none⟩) 0 0) [] := Base.own_empty w base hb
theorem to_rd {w : World} {a : Option Addr} {n : Nat} {bs : List (BitVec 8)} (h : Base.Rd w a n bs) : Rd w a n bs := h
theorem of_rd {w : World} {a : Option Addr} {n : Nat} {bs : List (BitVec 8)} (h : Rd w a n bs) : Base.Rd w a n bs := h
theorem Runs.other {w w' : World} {g n : Nat} {S : BitVec 32} (h : Runs w g S n) (hb : Below w.heap.size w w') : Runs w' g S n := h.below hb
set_option maxHeartbeats 4000000 in
set_option maxRecDepth 100000 in
theorem walk (a0 : Option Addr) (len0 cap0 : Nat) (b0 : List (BitVec 8)) (a1 : Option Addr) (len1 cap1 : Nat) (b1 : List (BitVec 8)) (a2 : Option Addr) (len2 cap2 : Nat) (b2 : List (BitVec 8)) (w : World)
    (r0 : Rd w a0 len0 b0) (l0 : len0 ≤ cap0) (m0 : cap0 ≤ 1048576) (z0 : a0 = none → len0 = 0 ∧ cap0 = 0)
    (r1 : Rd w a1 len1 b1) (l1 : len1 ≤ cap1) (m1 : cap1 ≤ 1048576) (z1 : a1 = none → len1 = 0 ∧ cap1 = 0)
    (r2 : Rd w a2 len2 b2) (l2 : len2 ≤ cap2) (m2 : cap2 ≤ 1048576) (z2 : a2 = none → len2 = 0 ∧ cap2 = 0) :
    Calls Try.prog 5 #[.slice a0 len0 cap0, .slice a1 len1 cap1, .slice a2 len2 cap2] w fun e w' => e = .returned (.bool true) ∧ Below w.heap.size w w' := by
  have R0 := hide r0
  have R1 := hide r1
  have R2 := hide r2
  have E0 := hide r0.1
  have E1 := hide r1.1
  have E2 := hide r2.1
  have Z0 := hide z0
  have Z1 := hide z1
  have Z2 := hide z2
  clear r0 r1 r2 z0 z1 z2
  have hk0 : len0 ≤ 1048576 := by omega
  have hk1 : len1 ≤ 1048576 := by omega
  have hk2 : len2 ≤ 1048576 := by omega
  go_enter Try.func5, Try.ntmps5
  go_wp2_with (first
    | (at_builtin; refine Base.join _ rfl _ _ rfl w.heap.size _ [] rfl (own_nothing w w.heap.size (Nat.le_refl _)) a0 len0 cap0 b0 rfl (of_rd (R0.out.below ((Below.refl _ _).alloc (Nat.le_refl _) _))) Z0.out (by simp; omega) (by simp) ?_
       intro v' w2 hown hgrow
       rw [List.nil_append] at hown
       obtain ⟨aq, cq, hv'⟩ := hown.shape
       rw [E0.out] at hv'
       subst hv'
       have HQ := hide hown
       have HB2 : Hid (Below w.heap.size w w2) := ((Below.refl w.heap.size w).alloc (Nat.le_refl _) _).grown hgrow (by simp) (fun k e => by cases e; exact Nat.le_refl _)
       clear hown hgrow)
    | (at_builtin; refine Base.join _ rfl _ _ rfl w.heap.size _ b0 rfl HQ.out a1 len1 cap1 b1 rfl (of_rd (R1.out.below HB2.out)) Z1.out (by rw [E0.out]; omega) HB2.out.size ?_
       intro v' w3 hown hgrow
       obtain ⟨ar, cr, hv'⟩ := hown.shape
       rw [show (b0 ++ b1).length = len0 + len1 by rw [List.length_append, E0.out, E1.out]] at hv'
       subst hv'
       have HR := hide hown
       have HB3 : Hid (Below w.heap.size w w3) := HB2.out.grown hgrow HB2.out.size (Base.own_blk HQ.out)
       clear hown hgrow)
    | (at_builtin; refine Base.join _ rfl _ _ rfl w.heap.size _ (b0 ++ b1) rfl HR.out a2 len2 cap2 b2 rfl (of_rd (R2.out.below HB3.out)) Z2.out (by rw [List.length_append, E0.out, E1.out]; omega) HB3.out.size ?_
       intro v' w4 hown hgrow
       obtain ⟨at3, ct3, hv'⟩ := hown.shape
       rw [show (b0 ++ b1 ++ b2).length = len0 + len1 + len2 by rw [List.length_append, List.length_append, E0.out, E1.out, E2.out]] at hv'
       subst hv'
       have HS := hide hown
       have HB4 : Hid (Below w.heap.size w w4) := HB3.out.grown hgrow HB3.out.size (Base.own_blk HR.out)
       clear hown hgrow)
    | fail)
  refine (sum_any _ _ _ _ _ (to_rd (Base.Got.rd HS.out (by rw [List.length_append, List.length_append, E0.out, E1.out, E2.out]; omega)))).mono ?_
  rintro e w5 ⟨rfl, hb⟩
  have HB5 := hide (below_trans HB4.out hb)
  clear hb HB4 HB3 HB2 HQ HR HS
  generalize hS : sum (b0 ++ b1 ++ b2) = S
  have HSS := hide hS
  clear hS
  go_wp2_with fail
  refine (new_any _).mono ?_
  rintro e w6 ⟨g, rfl, rfl, hr, hb⟩
  have HRun0 := hide hr
  have HB6 := hide (below_trans HB5.out hb)
  have hg6 : w.heap.size ≤ w5.heap.size := HB5.out.size
  clear hr hb HB5
  generalize w5.heap.size = g at HRun0 hg6
  go_wp2_with fail
  refine (write_any _ _ _ _ _ _ _ _ HRun0.out (R0.out.below HB6.out) (by omega)).mono ?_
  rintro e w7 ⟨rfl, hr, hgr⟩
  have HRun1 := hide hr
  have HB7 : Hid (Below w.heap.size w w7) := HB6.out.grown hgr HB6.out.size (fun k e => by cases e; exact hg6)
  clear hr hgr HB6 HRun0
  go_wp2_with fail
  refine (write_any _ _ _ _ _ _ _ _ HRun1.out (R1.out.below HB7.out) (by omega)).mono ?_
  rintro e w8 ⟨rfl, hr, hgr⟩
  have HRun2 := hide hr
  have HB8 : Hid (Below w.heap.size w w8) := HB7.out.grown hgr HB7.out.size (fun k e => by cases e; exact hg6)
  clear hr hgr HB7 HRun1
  go_wp2_with fail
  refine (write_any _ _ _ _ _ _ _ _ HRun2.out (R2.out.below HB8.out) (by omega)).mono ?_
  rintro e w9 ⟨rfl, hr, hgr⟩
  rw [extend_zero, HSS.out] at hr
  have HRun3 := hide hr
  have HB9 : Hid (Below w.heap.size w w9) := HB8.out.grown hgr HB8.out.size (fun k e => by cases e; exact hg6)
  clear hr hgr HB8 HRun2
  have hT := extend_ext b0 b1 b2
  have hJ := sum_three b0 b1 b2
  rw [HSS.out] at hT hJ
  have hJ2 := join_join (sum b0) (sum b1) (sum b2) b1.length b2.length
  rw [hJ] at hJ2
  rw [E1.out, E2.out] at hJ hJ2
  have HT := hide hT
  have HJ := hide hJ
  have HJ2 := hide hJ2
  clear hT hJ hJ2
  have HK : Hid (∀ W, Below w9.heap.size w9 W → Runs W g S (len0 + len1 + len2)) := fun W hW => by
    have h := HRun3.out.below hW
    rw [Nat.zero_add] at h
    exact h
  clear HRun3
  have s0 : Hid (∀ W, Below w9.heap.size w9 W → Calls Try.prog 23 #[.slice a0 len0 cap0] W fun e w' => e = .returned (.int .u32 ((sum b0).toNat : Int)) ∧ Below W.heap.size W w') := fun W hW => sum_any _ _ _ _ _ (R0.out.below (below_trans HB9.out hW))
  have s1 : Hid (∀ W, Below w9.heap.size w9 W → Calls Try.prog 23 #[.slice a1 len1 cap1] W fun e w' => e = .returned (.int .u32 ((sum b1).toNat : Int)) ∧ Below W.heap.size W w') := fun W hW => sum_any _ _ _ _ _ (R1.out.below (below_trans HB9.out hW))
  have s2 : Hid (∀ W, Below w9.heap.size w9 W → Calls Try.prog 23 #[.slice a2 len2 cap2] W fun e w' => e = .returned (.int .u32 ((sum b2).toNat : Int)) ∧ Below W.heap.size W w') := fun W hW => sum_any _ _ _ _ _ (R2.out.below (below_trans HB9.out hW))
  generalize hX0 : sum b0 = X0 at s0 HT HJ HJ2
  generalize hX1 : sum b1 = X1 at s1 HJ HJ2
  generalize hX2 : sum b2 = X2 at s2 HJ HJ2
  clear hX0 hX1 hX2
  -- x
  go_wp2_with fail
  refine (s0.out _ (Below.refl _ _)).mono ?_
  rintro e u1 ⟨rfl, hb⟩
  have HU1 := hide hb
  clear hb
  go_wp2_with fail
  refine (extend_any _ _ _ _ _ _ (R1.out.below (below_trans HB9.out HU1.out))).mono ?_
  rintro e u2 ⟨rfl, hb⟩
  have HU2 := hide (below_trans HU1.out hb)
  clear hb HU1
  go_wp2_with fail
  refine (extend_any _ _ _ _ _ _ (R2.out.below (below_trans HB9.out HU2.out))).mono ?_
  rintro e u3 ⟨rfl, hb⟩
  have HU3 := hide (below_trans HU2.out hb)
  clear hb HU2
  rw [HT.out]
  -- y
  go_wp2_with fail
  refine (s0.out _ HU3.out).mono ?_
  rintro e u4 ⟨rfl, hb⟩
  have HU4 := hide (below_trans HU3.out hb)
  clear hb HU3
  go_wp2_with fail
  refine (s1.out _ HU4.out).mono ?_
  rintro e u5 ⟨rfl, hb⟩
  have HU5 := hide (below_trans HU4.out hb)
  clear hb HU4
  go_wp2_with fail
  refine (join_any _ _ _ _ (by omega)).mono ?_
  rintro e u6 ⟨rfl, rfl⟩
  rw [Int.toNat_natCast]
  generalize hy : join X0 X1 len1 = Y at HJ
  clear hy
  go_wp2_with fail
  refine (s2.out _ HU5.out).mono ?_
  rintro e u7 ⟨rfl, hb⟩
  have HU7 := hide (below_trans HU5.out hb)
  clear hb HU5
  go_wp2_with fail
  refine (join_any _ _ _ _ (by omega)).mono ?_
  rintro e u8 ⟨rfl, rfl⟩
  rw [Int.toNat_natCast, HJ.out]
  -- z
  go_wp2_with fail
  refine (s0.out _ HU7.out).mono ?_
  rintro e u9 ⟨rfl, hb⟩
  have HU9 := hide (below_trans HU7.out hb)
  clear hb HU7
  go_wp2_with fail
  refine (s1.out _ HU9.out).mono ?_
  rintro e v1 ⟨rfl, hb⟩
  have HV1 := hide (below_trans HU9.out hb)
  clear hb HU9
  go_wp2_with fail
  refine (s2.out _ HV1.out).mono ?_
  rintro e v2 ⟨rfl, hb⟩
  have HV2 := hide (below_trans HV1.out hb)
  clear hb HV1
  go_wp2_with fail
  refine (join_any _ _ _ _ (by omega)).mono ?_
  rintro e v3 ⟨rfl, rfl⟩
  rw [Int.toNat_natCast]
  generalize hz : join X1 X2 len2 = Z at HJ2
  clear hz
  go_wp2_with fail
  refine (join_any _ _ _ _ (by omega)).mono ?_
  rintro e v4 ⟨rfl, rfl⟩
  rw [show ((len1 : Int) + (len2 : Int)).toNat = len1 + len2 by omega, ← HJ2.out]
  have q1 : ((S.toNat : Int) == (S.toNat : Int)) = true := by simp
  go_wp2_with fail
  refine (works_any _).mono ?_
  rintro e v5 ⟨rfl, hb⟩
  have HV5 := hide (below_trans HV2.out hb)
  clear hb HV2
  go_wp2_with fail
  refine (rsum_any _ _ _ _ (HK.out _ HV5.out)).mono ?_
  rintro e v6 ⟨rfl, rfl⟩
  go_wp2_with fail
  refine (rlen_any _ _ _ _ (HK.out _ HV5.out)).mono ?_
  rintro e v7 ⟨rfl, rfl⟩
  have q2 : (((len0 + len1 + len2 : Nat) : Int) == ((len0 + len1 + len2 : Nat) : Int)) = true := by simp
  go_wp2_with fail
  go_ret
  exact ⟨rfl, below_trans HB9.out HV5.out⟩
end Go.Proofs.Ytpoholpedkikhab.crcParts
