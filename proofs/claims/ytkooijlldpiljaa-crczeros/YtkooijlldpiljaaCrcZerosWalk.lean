/-
  The walk of the statement CrcZeros.
-/
import Derived.Test.YtkooijlldpiljaaCrcWorks
import Derived.Test.YtkooijlldpiljaaCrcZerosMath
namespace Go.Proofs.Ytkooijlldpiljaa.crcZeros
open Go.ChangeShapes Go.WideShapes Go.ChangeAt Go.RowKit
open Go.Proofs.Ytkooijlldpiljaa.Crc
set_option linter.unusedVariables false
theorem mod_small (n : Int) : -5000 < n.tmod 5000 ∧ n.tmod 5000 < 5000 := by
  rcases Int.le_total 0 n with h | h
  · rw [Int.tmod_eq_emod_of_nonneg h]; omega
  · obtain ⟨m, rfl⟩ : ∃ m, n = -m := ⟨-n, by omega⟩
    rw [Int.neg_tmod, Int.tmod_eq_emod_of_nonneg (by omega)]; omega
/-- What stands behind the length, for the zeros that the statement makes. -/
def zs (m : Nat) : List (BitVec 8) := List.replicate m (BitVec.ofNat 8 0)
theorem zs_own {w1 : World} {base g m : Nat} (h : w1.ownsRow base 5 1 (.slice (some ⟨g, 0, none⟩) m m) m (madeCells (Value.int .u8 0).cells (m * 1)).toList) : Own w1 base (.slice (some ⟨g, 0, none⟩) m m) (zs m) := by
  unfold Own zs; rw [List.length_replicate, ← vals_replicate]; exact h
theorem zs_err (m : Nat) (h : m < 5000) : openErr (zs m) = if m < 4 then 11 else if m = 4 then 0 else 10 := openErr_zeros m h
theorem length_zs (m : Nat) : (zs m).length = m := by simp [zs]
set_option maxHeartbeats 1000000 in
theorem walk (n0 : Int) (w : World) (w0 : (Lit.int .i64 n0).wf = true) :
    Calls Try.prog 6 #[.int .i64 n0] w fun e w' => e = .returned (.bool true) ∧ Below w.heap.size w w' := by
  have hm := mod_small n0
  obtain ⟨i0, hi, hz0, hz1, hz2⟩ := info_parts info8
  generalize hr : n0.tmod 5000 = r at hm
  obtain ⟨m1, m2⟩ := hm
  by_cases hneg : r < 0
  · obtain ⟨m, rfl⟩ : ∃ m : Nat, r = -(m : Int) := ⟨(-r).toNat, by omega⟩
    by_cases h4 : m = 4
    · subst h4
      go_enter Try.func6, Try.ntmps6
      go_wp2_with (at_make; refine wpList_make_full _ rfl _ _ 25 rfl w.heap.size 5 i0 (.int .u8 0) 1 Try.underlying25 hi hz0 hz1 .i64 .i64 _ _ 4 rfl rfl rfl rfl (by rw [hz2]; omega) (by unfold maxLen; omega) (Nat.le_refl _) ?_; intro w1 hown hgrow)
      have HO := hide (zs_own hown)
      have HB1 : Hid (Below w.heap.size w w1) := (Below.refl _ _).grown hgrow (Nat.le_refl _) (by intro k h; cases h)
      clear hown hgrow
      refine (open_any _ _ _ _ _ (HO.out.rd (by rw [length_zs]; omega)) (by omega) (by omega)).mono ?_
      rintro e w2 ⟨v, rfl, ⟨av, nv, cv, rfl, hnv, ho2⟩, hb2⟩
      have hz : nv = 0 := by rw [hnv]; decide
      subst hz
      have HB2 := hide (below_trans HB1.out hb2)
      clear hnv ho2 hb2 HB1 HO
      rw [zs_err 4 (by omega)]
      go_wp2_with fail
      refine (works_any _).mono ?_
      rintro e w3 ⟨rfl, hb3⟩
      have HB3 := hide (below_trans HB2.out hb3)
      clear hb3 HB2
      go_wp2_with fail
      go_ret
      exact ⟨rfl, HB3.out⟩
    · obtain ⟨er, her, hne⟩ : ∃ er : Nat, openErr (zs m) = er ∧ er ≠ 0 := by
        refine ⟨_, rfl, ?_⟩
        rw [zs_err m (by omega), if_neg h4]
        split <;> omega
      have hq : ((m : Int) == 4) = false := by simp; omega
      have hq2 : ((er : Int) != 0) = true := by rw [bne_iff_ne]; omega
      have HE := hide her
      have hbody : openBody (zs m) = [] := by unfold openBody; rw [her, if_neg hne]
      have HY := hide hbody
      clear her hne hbody
      go_enter Try.func6, Try.ntmps6
      go_wp2_with (at_make; refine wpList_make_full _ rfl _ _ 25 rfl w.heap.size 5 i0 (.int .u8 0) 1 Try.underlying25 hi hz0 hz1 .i64 .i64 _ _ m rfl rfl rfl rfl (by rw [hz2]; omega) (by unfold maxLen; omega) (Nat.le_refl _) ?_; intro w1 hown hgrow)
      have HO := hide (zs_own hown)
      have HB1 : Hid (Below w.heap.size w w1) := (Below.refl _ _).grown hgrow (Nat.le_refl _) (by intro k h; cases h)
      clear hown hgrow
      refine (open_any _ _ _ _ _ (HO.out.rd (by rw [length_zs]; omega)) (by omega) (by omega)).mono ?_
      rintro e w2 ⟨v, rfl, ⟨av, nv, cv, rfl, hnv, ho2⟩, hb2⟩
      have hz : nv = 0 := by rw [hnv, HY.out]; rfl
      subst hz
      have HB2 := hide (below_trans HB1.out hb2)
      clear hnv ho2 hb2 HB1 HO
      rw [HE.out]
      go_wp2_with fail
      go_ret
      exact ⟨rfl, HB2.out⟩
  · obtain ⟨m, rfl⟩ : ∃ m : Nat, r = (m : Int) := ⟨r.toNat, by omega⟩
    by_cases h4 : m = 4
    · subst h4
      go_enter Try.func6, Try.ntmps6
      go_wp2_with (at_make; refine wpList_make_full _ rfl _ _ 25 rfl w.heap.size 5 i0 (.int .u8 0) 1 Try.underlying25 hi hz0 hz1 .i64 .i64 _ _ 4 rfl rfl rfl rfl (by rw [hz2]; omega) (by unfold maxLen; omega) (Nat.le_refl _) ?_; intro w1 hown hgrow)
      have HO := hide (zs_own hown)
      have HB1 : Hid (Below w.heap.size w w1) := (Below.refl _ _).grown hgrow (Nat.le_refl _) (by intro k h; cases h)
      clear hown hgrow
      refine (open_any _ _ _ _ _ (HO.out.rd (by rw [length_zs]; omega)) (by omega) (by omega)).mono ?_
      rintro e w2 ⟨v, rfl, ⟨av, nv, cv, rfl, hnv, ho2⟩, hb2⟩
      have hz : nv = 0 := by rw [hnv]; decide
      subst hz
      have HB2 := hide (below_trans HB1.out hb2)
      clear hnv ho2 hb2 HB1 HO
      rw [zs_err 4 (by omega)]
      go_wp2_with fail
      refine (works_any _).mono ?_
      rintro e w3 ⟨rfl, hb3⟩
      have HB3 := hide (below_trans HB2.out hb3)
      clear hb3 HB2
      go_wp2_with fail
      go_ret
      exact ⟨rfl, HB3.out⟩
    · obtain ⟨er, her, hne⟩ : ∃ er : Nat, openErr (zs m) = er ∧ er ≠ 0 := by
        refine ⟨_, rfl, ?_⟩
        rw [zs_err m (by omega), if_neg h4]
        split <;> omega
      have hq : ((m : Int) == 4) = false := by simp; omega
      have hq2 : ((er : Int) != 0) = true := by rw [bne_iff_ne]; omega
      have HE := hide her
      have hbody : openBody (zs m) = [] := by unfold openBody; rw [her, if_neg hne]
      have HY := hide hbody
      clear her hne hbody
      go_enter Try.func6, Try.ntmps6
      go_wp2_with (at_make; refine wpList_make_full _ rfl _ _ 25 rfl w.heap.size 5 i0 (.int .u8 0) 1 Try.underlying25 hi hz0 hz1 .i64 .i64 _ _ m rfl rfl rfl rfl (by rw [hz2]; omega) (by unfold maxLen; omega) (Nat.le_refl _) ?_; intro w1 hown hgrow)
      have HO := hide (zs_own hown)
      have HB1 : Hid (Below w.heap.size w w1) := (Below.refl _ _).grown hgrow (Nat.le_refl _) (by intro k h; cases h)
      clear hown hgrow
      refine (open_any _ _ _ _ _ (HO.out.rd (by rw [length_zs]; omega)) (by omega) (by omega)).mono ?_
      rintro e w2 ⟨v, rfl, ⟨av, nv, cv, rfl, hnv, ho2⟩, hb2⟩
      have hz : nv = 0 := by rw [hnv, HY.out]; rfl
      subst hz
      have HB2 := hide (below_trans HB1.out hb2)
      clear hnv ho2 hb2 HB1 HO
      rw [HE.out]
      go_wp2_with fail
      go_ret
      exact ⟨rfl, HB2.out⟩
end Go.Proofs.Ytkooijlldpiljaa.crcZeros
