/-
  What the document's answer tells of numbers: Put alone.
-/
import Derived.Test.YtalnhhpcncjflaaNumsPZ
namespace Go.Proofs.Ytalnhhpcncjflaa.Nums
set_option linter.unusedVariables false
open Go.ChangeShapes Go.WideShapes Go.ChangeAt Go.RowKit
open Go.Proofs.Ytalnhhpcncjflaa.Base
theorem b8_int (n : Nat) (h : n < 256) : (((B8 n).toNat : Nat) : Int) = (n : Int) := by rw [B8_toNat n h]
set_option maxHeartbeats 1000000 in
set_option maxRecDepth 10000 in
theorem refPut_any (n : Int) (w : World) (hw : (Lit.int .i64 n).wf = true) :
    Calls Try.prog 55 #[.int .i64 n] w fun e w' => ∃ v, e = .returned v ∧ Own w' w.heap.size v (putI n) ∧ Below w.heap.size w w' := by
  have hbd := bounds_i64 hw
  clear hw
  by_cases h0 : n < 0
  · have HP := hide (putI_neg n h0)
    go_enter Try.func55, Try.ntmps55
    go_wp2
    go_ret
    exact ⟨_, rfl, by rw [HP.out]; exact own_none _ _, Below.refl _ _⟩
  · obtain ⟨m, rfl⟩ := Int.eq_ofNat_of_zero_le (by omega : 0 ≤ n)
    have HP := hide (putI_nat m)
    have hm : m ≤ 9223372036854775807 := by omega
    have HL := hide (put_nine m (by omega))
    clear hbd
    go_enter Try.func55, Try.ntmps55
    go_wp2
    go_loopw [0, 3] (fun x o wr => ∃ (k : Nat) (pre : List (BitVec 8)) (a : Option Addr) (c : Nat), x = .int .i64 (k : Int) ∧ o = .slice a pre.length c ∧ k ≤ 9223372036854775807 ∧ Hid (pre ++ put k = put m) ∧ Hid (Own wr w.heap.size (.slice a pre.length c) pre) ∧ Hid (Below w.heap.size w wr)) (fun x _ _ => (intOf x).toNat)
    case atStart => exact ⟨m, [], _, _, rfl, rfl, hm, rfl, own_none _ _, Below.refl _ _⟩
    case round =>
      obtain ⟨k, pre, a, c, rfl, rfl, hk, HE, HO, HB⟩ := hrel
      have hsz := HB.out.size
      have hlen : pre.length + (put k).length ≤ 9 := by
        have h := congrArg List.length HE.out
        rw [List.length_append] at h
        have := HL.out.2
        omega
      have hki : (k : Int) ≤ 9223372036854775807 := by omega
      by_cases hlt : 128 ≤ k
      · go_wp2_with (at_builtin; refine push _ rfl _ _ rfl w.heap.size _ pre rfl (HO.out.below ((Below.refl wr.heap.size wr).alloc (Nat.le_refl _) _)) ⟨wr.heap.size, 0, none⟩ 1 (B8 (k % 128 + 128)) rfl ?_ (by omega) (by simp; omega) ?_
                     · rw [show (((B8 (k % 128 + 128)).toNat : Nat) : Int) = (k : Int) % 128 + 128 by rw [b8_int _ (by omega)]; omega]; exact cell_one_new _ _ _ 0 _ rfl
                     intro v' w4 hown4 hgrow4
                     have HG4 := hide hgrow4
                     obtain ⟨a', c', hv'⟩ := hown4.shape
                     rw [List.length_append, List.length_singleton] at hv'
                     subst hv'
                     have HO4 := hide hown4
                     clear hown4 hgrow4)
        go_roundw
        case rel =>
          refine ⟨k / 128, pre ++ [B8 (k % 128 + 128)], a', c', by go_num, by rw [List.length_append, List.length_singleton], by omega, ?_, ?_, ?_⟩
          · show pre ++ [B8 (k % 128 + 128)] ++ put (k / 128) = put m
            rw [← HE.out, put_large k hlt, List.append_assoc]; rfl
          · show Own _ _ _ _
            rw [List.length_append, List.length_singleton]
            exact HO4.out
          · exact ((HB.out.alloc hsz _).grown HG4.out (by simp; omega) (own_blk HO.out))
        case measure => simp [intOf]; omega
      · have hkk : k < 128 := by omega
        have hkj : (k : Int) < 128 := by omega
        go_wp2_with (at_builtin; refine push _ rfl _ _ rfl w.heap.size _ pre rfl (HO.out.below ((Below.refl wr.heap.size wr).alloc (Nat.le_refl _) _)) ⟨wr.heap.size, 0, none⟩ 1 (B8 k) rfl ?_ (by omega) (by simp; omega) ?_
                     · rw [B8_toNat k (by omega)]; exact cell_one_new _ _ _ 0 _ rfl
                     intro v' w4 hown4 hgrow4
                     have HG4 := hide hgrow4
                     obtain ⟨a', c', hv'⟩ := hown4.shape
                     rw [List.length_append, List.length_singleton] at hv'
                     subst hv'
                     have HO4 := hide hown4
                     clear hown4 hgrow4)
        go_ret
        refine ⟨_, rfl, ?_, ?_⟩
        · rw [HP.out, ← HE.out, put_small k (by omega)]; exact HO4.out
        · exact ((HB.out.alloc hsz _).grown HG4.out (by simp; omega) (own_blk HO.out))
end Go.Proofs.Ytalnhhpcncjflaa.Nums
