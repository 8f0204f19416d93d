/-
  What the program tells of Put, Get, Fixed and Word.
-/
import Derived.Test.YthdblnfohbldcaaGreatNumsNum
namespace Go.Proofs.YthdblnfohbldcaaGreat.Nums
set_option linter.unusedVariables false
open Go.ChangeShapes Go.WideShapes Go.ChangeAt Go.RowKit
open Go.Proofs.YthdblnfohbldcaaGreat.Base
/-- The bytes of any number. -/
def putI (n : Int) : List (BitVec 8) := if n < 0 then [] else put n.toNat
theorem putI_neg (n : Int) (h : n < 0) : putI n = [] := by unfold putI; rw [if_pos h]
theorem putI_nat (m : Nat) : putI (m : Int) = put m := by unfold putI; rw [if_neg (by omega)]; simp
theorem or128 : ∀ c : BitVec 8, (c ||| BitVec.ofNat 8 128).toNat = c.toNat % 128 + 128 := by decide +kernel
theorem put_step (m : Nat) : ∃ d : BitVec 8, bits .or .u8 ((m : Int) % 256) 128 = (d.toNat : Int) ∧ Hid (d = B8 (m % 128 + 128)) := by
  refine ⟨B8 (m % 128 + 128), ?_, rfl⟩
  have e : ((m : Int) % 256) = ((B8 m).toNat : Int) := by unfold B8; rw [BitVec.toNat_ofNat]; omega
  have e2 : (128 : Int) = ((BitVec.ofNat 8 128).toNat : Int) := by decide
  rw [e, e2, u8_or_nat _ _ (lt8 _) (by decide), ← BitVec.toNat_or, or128, B8_toNat (m % 128 + 128) (by omega)]
  unfold B8; rw [BitVec.toNat_ofNat]; omega
theorem last_step (m : Nat) (h : m < 128) : ∃ d : BitVec 8, (m : Int) % 256 = (d.toNat : Int) ∧ Hid (d = B8 m) := by
  refine ⟨B8 m, ?_, rfl⟩
  rw [B8_toNat m (by omega)]; omega
set_option maxHeartbeats 1000000 in
set_option maxRecDepth 10000 in
theorem put_any (n : Int) (w : World) (hw : (Lit.int .i64 n).wf = true) :
    Calls Tryz.prog 94 #[.int .i64 n] w fun e w' => ∃ v, e = .returned v ∧ Own w' w.heap.size v (putI n) ∧ Below w.heap.size w w' := by
  have hbd := bounds_i64 hw
  obtain ⟨i0, hi, hz0, hz1, hz2⟩ := info_parts info8
  by_cases h0 : n < 0
  · have HP := hide (putI_neg n h0)
    go_enter Tryz.func94, Tryz.ntmps94
    go_wp2
    go_ret
    exact ⟨_, rfl, by rw [HP.out]; exact own_none _ _, Below.refl _ _⟩
  · obtain ⟨m, rfl⟩ := Int.eq_ofNat_of_zero_le (by omega : 0 ≤ n)
    have HP := hide (putI_nat m)
    have hm : m < 9223372036854775808 := by omega
    have HL := hide (put_nine m hm)
    go_enter Tryz.func94, Tryz.ntmps94
    go_wp2_with (at_make; refine wpList_make_own _ rfl _ _ 24 rfl w.heap.size 5 i0 (.int .u8 0) 1 Tryz.underlying24 hi hz0 hz1 .i64 .i64 _ 9 rfl rfl (by omega) (by rw [hz2]; omega) (by unfold maxLen; omega) (Nat.le_refl _) ?_
                 intro w1 hown1 hgrow1
                 have HO1 := hide hown1
                 have HB1 : Hid (Below w.heap.size w w1) := (Below.refl _ _).grown hgrow1 (Nat.le_refl _) (by intro k h; cases h)
                 clear hown1 hgrow1)
    go_loopw [0, 3] (fun x o wr => ∃ (k : Nat) (pre : List (BitVec 8)) (a : Option Addr) (c : Nat), x = .int .i64 (k : Int) ∧ o = .slice a pre.length c ∧ k < 9223372036854775808 ∧ Hid (pre ++ put k = put m) ∧ Hid (Own wr w.heap.size (.slice a pre.length c) pre) ∧ Hid (Below w.heap.size w wr)) (fun x _ _ => (intOf x).toNat)
    case atStart => exact ⟨m, [], _, _, rfl, rfl, hm, rfl, HO1.out, HB1⟩
    case round =>
      clear HO1 HB1
      obtain ⟨k, pre, a, c, rfl, rfl, hk, HE, HO, HB⟩ := hrel
      have hsz := HB.out.size
      have hlen : pre.length + (put k).length ≤ 9 := by
        have h := congrArg List.length HE.out
        rw [List.length_append] at h
        have := HL.out.2
        omega
      by_cases hlt : 128 ≤ k
      · obtain ⟨d, hd, HD⟩ := put_step k
        go_wp2_with (at_builtin; refine push _ rfl _ _ rfl w.heap.size _ pre rfl (HO.out.below ((Below.refl wr.heap.size wr).alloc (Nat.le_refl _) _)) ⟨wr.heap.size, 0, none⟩ 1 d rfl ?_ (by omega) (by simp; omega) ?_
                     · exact cell_one_new _ _ _ 0 _ rfl
                     intro v' w4 hown4 hgrow4
                     have HO4 := hide hown4
                     have HG4 := hide hgrow4
                     clear hown4 hgrow4)
        obtain ⟨a', c', hv'⟩ := HO4.out.shape
        subst hv'
        go_roundw
        case rel =>
          refine ⟨k / 128, pre ++ [d], a', c', by go_num, by rw [List.length_append], by omega, ?_, ?_, ?_⟩
          · show pre ++ [d] ++ put (k / 128) = put m
            rw [← HE.out, put_large k hlt, HD.out, List.append_assoc]; rfl
          · show Own _ _ _ _
            exact HO4.out
          · exact ((HB.out.alloc hsz _).grown HG4.out (by simp; omega) (own_blk HO.out))
        case measure => simp [intOf]; omega
      · have hkk : k < 128 := by omega
        have hki : (k : Int) < 128 := by omega
        go_wp2_with (at_builtin; refine push _ rfl _ _ rfl w.heap.size _ pre rfl (HO.out.below ((Below.refl wr.heap.size wr).alloc (Nat.le_refl _) _)) ⟨wr.heap.size, 0, none⟩ 1 (B8 k) rfl ?_ (by omega) (by simp; omega) ?_
                     · rw [B8_toNat k (by omega)]; exact cell_one_new _ _ _ 0 _ rfl
                     intro v' w4 hown4 hgrow4
                     have HO4 := hide hown4
                     have HG4 := hide hgrow4
                     clear hown4 hgrow4)
        obtain ⟨a', c', hv'⟩ := HO4.out.shape
        subst hv'
        go_ret
        refine ⟨_, rfl, ?_, ?_⟩
        · rw [HP.out, ← HE.out, put_small k (by omega)]; exact HO4.out
        · exact ((HB.out.alloc hsz _).grown HG4.out (by simp; omega) (own_blk HO.out))
end Go.Proofs.YthdblnfohbldcaaGreat.Nums
