/-
  What the document's answer tells of numbers: Put, Get, Fixed, Word.
-/
import Derived.Test.YtbmbhcjocgbbpabNumsFixC
namespace Go.Proofs.Ytbmbhcjocgbbpab.Nums
set_option linter.unusedVariables false
open Go.ChangeShapes Go.WideShapes Go.ChangeAt Go.RowKit
open Go.Proofs.Ytbmbhcjocgbbpab.Base
theorem b8_int (n : Nat) (h : n < 256) : (((B8 n).toNat : Nat) : Int) = (n : Int) := by rw [B8_toNat n h]
set_option maxHeartbeats 1000000 in
set_option maxRecDepth 10000 in
theorem refPut_any (n : Int) (w : World) (hw : (Lit.int .i64 n).wf = true) :
    Calls Try.prog 20 #[.int .i64 n] w fun e w' => ∃ v, e = .returned v ∧ Own w' w.heap.size v (putI n) ∧ Below w.heap.size w w' := by
  have hbd := bounds_i64 hw
  clear hw
  by_cases h0 : n < 0
  · have HP := hide (putI_neg n h0)
    go_enter Try.func20, Try.ntmps20
    go_wp2
    go_ret
    exact ⟨_, rfl, by rw [HP.out]; exact own_none _ _, Below.refl _ _⟩
  · obtain ⟨m, rfl⟩ := Int.eq_ofNat_of_zero_le (by omega : 0 ≤ n)
    have HP := hide (putI_nat m)
    have hm : m ≤ 9223372036854775807 := by omega
    have HL := hide (put_nine m (by omega))
    clear hbd
    go_enter Try.func20, Try.ntmps20
    go_wp2
    go_loopw [0, 3] (fun x o wr => ∃ (k : Nat) (pre : List (BitVec 8)) (a : Option Addr) (c : Nat), x = .int .i64 (k : Int) ∧ o = .slice a pre.length c ∧ k ≤ 9223372036854775807 ∧ Hid (pre ++ put k = put m) ∧ Hid (Own wr w.heap.size (.slice a pre.length c) pre) ∧ Hid (Below w.heap.size w wr)) (fun x _ _ => (intOf x).toNat)
    case atStart => exact ⟨m, [], _, _, rfl, rfl, hm, rfl, own_none _ _, Below.refl _ _⟩
    case round =>
      obtain ⟨k, pre, a, c, rfl, rfl, hk, HE, HO, HB⟩ := hrel
      have hsz := HB.out.size
      have hlen : pre.length + (put k).length ≤ 9 := by
        have h := congrArg List.length HE.out
        rw [List.length_append] at h
        have := HL.out.2
        omega
      have hki : (k : Int) ≤ 9223372036854775807 := by omega
      by_cases hlt : 128 ≤ k
      · go_wp2_with (at_builtin; refine push _ rfl _ _ rfl w.heap.size _ pre rfl (HO.out.below ((Below.refl wr.heap.size wr).alloc (Nat.le_refl _) _)) ⟨wr.heap.size, 0, none⟩ 1 (B8 (k % 128 + 128)) rfl ?_ (by omega) (by simp; omega) ?_
                     · rw [show (((B8 (k % 128 + 128)).toNat : Nat) : Int) = (k : Int) % 128 + 128 by rw [b8_int _ (by omega)]; omega]; exact cell_one_new _ _ _ 0 _ rfl
                     intro v' w4 hown4 hgrow4
                     have HG4 := hide hgrow4
                     obtain ⟨a', c', hv'⟩ := hown4.shape
                     rw [List.length_append, List.length_singleton] at hv'
                     subst hv'
                     have HO4 := hide hown4
                     clear hown4 hgrow4)
        go_roundw
        case rel =>
          refine ⟨k / 128, pre ++ [B8 (k % 128 + 128)], a', c', by go_num, by rw [List.length_append, List.length_singleton], by omega, ?_, ?_, ?_⟩
          · show pre ++ [B8 (k % 128 + 128)] ++ put (k / 128) = put m
            rw [← HE.out, put_large k hlt, List.append_assoc]; rfl
          · show Own _ _ _ _
            rw [List.length_append, List.length_singleton]
            exact HO4.out
          · exact ((HB.out.alloc hsz _).grown HG4.out (by simp; omega) (own_blk HO.out))
        case measure => simp [intOf]; omega
      · have hkk : k < 128 := by omega
        have hkj : (k : Int) < 128 := by omega
        go_wp2_with (at_builtin; refine push _ rfl _ _ rfl w.heap.size _ pre rfl (HO.out.below ((Below.refl wr.heap.size wr).alloc (Nat.le_refl _) _)) ⟨wr.heap.size, 0, none⟩ 1 (B8 k) rfl ?_ (by omega) (by simp; omega) ?_
                     · rw [B8_toNat k (by omega)]; exact cell_one_new _ _ _ 0 _ rfl
                     intro v' w4 hown4 hgrow4
                     have HG4 := hide hgrow4
                     obtain ⟨a', c', hv'⟩ := hown4.shape
                     rw [List.length_append, List.length_singleton] at hv'
                     subst hv'
                     have HO4 := hide hown4
                     clear hown4 hgrow4)
        go_ret
        refine ⟨_, rfl, ?_, ?_⟩
        · rw [HP.out, ← HE.out, put_small k (by omega)]; exact HO4.out
        · exact ((HB.out.alloc hsz _).grown HG4.out (by simp; omega) (own_blk HO.out))
theorem refGet_step (c : BitVec 8) (k V U : Nat) (hk : k < 9) (hV : V < 128 ^ k) (hU : U = 128 ^ k) : ∃ d X V' U' : Nat, (c.toNat : Int) % 128 = (d : Int) ∧ (d : Int) * (U : Int) = (X : Int) ∧ (X : Int) ≤ 9223372036854775807 ∧
    (V : Int) + (X : Int) = (V' : Int) ∧ (V' : Int) ≤ 9223372036854775807 ∧ (k < 8 → (U : Int) * 128 = (U' : Int) ∧ (U' : Int) ≤ 9223372036854775807) ∧ Hid (V' = V + c.toNat % 128 * 128 ^ k) ∧ Hid (V' < 128 ^ (k + 1)) ∧ Hid (k < 8 → U' = 128 ^ (k + 1)) := by
  have hlt := lt_pow k V (c.toNat % 128) hV (by omega)
  have h9 := pow_nine (k + 1) (by omega)
  have hX : c.toNat % 128 * 128 ^ k < 9223372036854775808 := by omega
  refine ⟨c.toNat % 128, c.toNat % 128 * 128 ^ k, V + c.toNat % 128 * 128 ^ k, 128 ^ (k + 1), by omega, by rw [hU]; simp, by omega, by omega, by omega, ?_, rfl, hlt, fun _ => rfl⟩
  intro h8
  have h8' : (128 : Nat) ^ (k + 1) ≤ 128 ^ 8 := Nat.pow_le_pow_right (by omega) (by omega)
  have e8 : (128 : Nat) ^ 8 = 72057594037927936 := by decide
  refine ⟨?_, by omega⟩
  rw [hU, Nat.pow_succ]; omega
set_option maxHeartbeats 1000000 in
set_option maxRecDepth 10000 in
theorem refGet_any (a : Option Addr) (len cap : Nat) (bs : List (BitVec 8)) (w : World) (hr : Rd w a len bs) :
    Calls Try.prog 36 #[.slice a len cap] w fun e w' => e = .returned (.tuple #[.int .i64 ((get bs).1 : Nat), .int .i64 ((get bs).2.1 : Nat), .int .i64 ((get bs).2.2 : Nat)]) ∧ Below w.heap.size w w' := by
  obtain ⟨hl, hm, hc⟩ := hr
  have HL := hide hl
  have HC := hide hc
  clear hl hc
  go_enter Try.func36, Try.ntmps36
  go_wp2
  go_loopw [5, 6, 7] (fun v u i wr => ∃ k V U : Nat, k ≤ len ∧ k ≤ 8 ∧ i = .int .i64 k ∧ v = .int .i64 V ∧ u = .int .i64 U ∧ (V : Int) ≤ 9223372036854775807 ∧ Hid (V < 128 ^ k) ∧ Hid (U = 128 ^ k) ∧ Hid (getFrom k V (bs.drop k) = get bs) ∧ wr = w) (fun _ _ i _ => len - (intOf i).toNat)
  case atStart => exact ⟨0, 0, 1, Nat.zero_le _, Nat.zero_le _, rfl, rfl, rfl, by decide, show 0 < 128 ^ 0 by decide, rfl, rfl, rfl⟩
  case round =>
    obtain ⟨k, V, U, hk, hk9, rfl, rfl, rfl, hVb, HV, HU, HG, rfl⟩ := hrel
    by_cases h1 : k < len
    · obtain ⟨b1, o1, rfl, hb1, hc1⟩ := unhide HC (by omega)
      have g1 := hc1 k h1
      clear hc1
      have HS := hide (getFrom_step bs k V (by have := HL.out; omega) (by omega))
      generalize bs.getD k 0 = c at g1 HS
      obtain ⟨d, X, V', U', q1, q2, q3, q4, q5, q6, HV', HVL, HUU⟩ := refGet_step c k V U (by omega) HV.out HU.out
      have hkl : (k : Int) < (len : Int) := by omega
      by_cases hc : c.toNat < 128
      · have hci : (c.toNat : Int) < 128 := by omega
        have hcd : decide (c.toNat < 128) = true := by simpa using hc
        clear q6
        by_cases h0 : c.toNat = 0 ∧ 0 < k
        · have HE : Hid (get bs = (0, 0, 21)) := by
            have := HG.out
            rw [HS.out, if_pos hc, if_pos h0] at this
            exact this.symm
          obtain ⟨h01, h02⟩ := h0
          have h04 : ((c.toNat : Int) == 0) = true := by rw [beq_iff_eq]; omega
          have h05 : (0 : Int) < (k : Int) := by omega
          clear h01
          go_wp2
          go_ret3
          exact ⟨ret3 HE.out rfl rfl rfl, Below.refl _ _⟩
        · have HE : Hid (get bs = (V', k + 1, 0)) := by
            have := HG.out
            rw [HS.out, if_pos hc, if_neg h0] at this
            have e := HV'.out
            rw [Nat.mod_eq_of_lt hc] at e
            rw [e]
            exact this.symm
          by_cases h02 : 0 < k
          · have h01 : ((c.toNat : Int) == 0) = false := by rw [beq_eq_false_iff_ne]; omega
            have h05 : (0 : Int) < (k : Int) := by omega
            go_wp2
            go_ret3
            exact ⟨ret3 HE.out rfl (by omega) rfl, Below.refl _ _⟩
          · have h05 : ¬ (0 : Int) < (k : Int) := by omega
            go_wp2
            go_ret3
            exact ⟨ret3 HE.out rfl (by omega) rfl, Below.refl _ _⟩
      · have hci : (128 : Int) ≤ (c.toNat : Int) := by omega
        have HE : Hid (getFrom (k + 1) V' (bs.drop (k + 1)) = get bs) := by
          have := HG.out
          rw [HS.out, if_neg hc] at this
          rw [HV'.out]
          exact this
        by_cases h8 : k = 8
        · have h8i : ((k : Int) == 8) = true := by rw [beq_iff_eq]; omega
          have HE2 : Hid (get bs = (0, 0, 21)) := by
            have h := HE.out
            show get bs = _
            rw [← h]
            cases bs.drop (k + 1) with
            | nil => simp only [getFrom]; rw [if_pos (by omega)]
            | cons x xs => simp only [getFrom]; rw [if_pos (by omega)]
          clear h8 q6
          go_wp2
          go_ret3
          exact ⟨ret3 HE2.out rfl rfl rfl, Below.refl _ _⟩
        · have h8i : ((k : Int) == 8) = false := by rw [beq_eq_false_iff_ne]; omega
          obtain ⟨q7, q8⟩ := q6 (by omega)
          have HU' := hide (HUU.out (by omega))
          go_wp2
          go_roundw
          case rel => exact ⟨k + 1, V', U', by omega, by omega, by go_num, rfl, rfl, q5, HVL, HU', HE, by first | trivial | rfl⟩
          case measure => simp [intOf]; omega
    · have HE : Hid (get bs = (0, 0, 20)) := by
        have h := HG.out
        have hl := HL.out
        show get bs = _
        rw [← h, show bs.drop k = [] from List.drop_eq_nil_of_le (by omega)]
        simp only [getFrom]; rw [if_neg (by omega)]
      have hki : ¬ (k : Int) < (len : Int) := by omega
      go_wp2
      go_ret3
      exact ⟨ret3 HE.out rfl rfl rfl, Below.refl _ _⟩
theorem refWord_step (c : BitVec 8) (k V U : Nat) (hk : k < 8) (hV : V < 256 ^ k) (hU : U = 256 ^ k) : ∃ X V' U' : Nat, (c.toNat : Int) * (U : Int) = (X : Int) ∧ (X : Int) ≤ 18446744073709551615 ∧
    (V : Int) + (X : Int) = (V' : Int) ∧ (V' : Int) ≤ 18446744073709551615 ∧ IntKind.u64.wrap ((U : Int) * 256) = (U' : Int) ∧ Hid (V' = V + c.toNat * 256 ^ k) ∧ Hid (V' < 256 ^ (k + 1)) ∧ Hid (k + 1 < 8 → U' = 256 ^ (k + 1)) := by
  have hlt := lt_pow8 k V c.toNat hV (lt8 c)
  have h9 := pow_eight (k + 1) (by omega)
  have hX : c.toNat * 256 ^ k < 18446744073709551616 := by omega
  refine ⟨c.toNat * 256 ^ k, V + c.toNat * 256 ^ k, U * 256 % 18446744073709551616, by rw [hU]; simp, by omega, by omega, by omega, by rw [IntKind.wrap_u64]; omega, rfl, hlt, ?_⟩
  intro h8
  have h8' : (256 : Nat) ^ (k + 1) ≤ 256 ^ 7 := Nat.pow_le_pow_right (by omega) (by omega)
  have e8 : (256 : Nat) ^ 7 = 72057594037927936 := by decide
  show _ = _
  rw [hU, ← Nat.pow_succ, Nat.mod_eq_of_lt (by omega)]
end Go.Proofs.Ytbmbhcjocgbbpab.Nums
