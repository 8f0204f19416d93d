/-
  The document's own answers: a short number, whether a token is right.
-/
import Derived.Test.YtckfkilpoimikaaLzC6
namespace Go.Proofs.Ytckfkilpoimikaa.Lz
open Go.ChangeShapes Go.WideShapes Go.ChangeAt Go.RowKit
open Go.Proofs.Ytckfkilpoimikaa.Base Go.Proofs.Ytckfkilpoimikaa.Nums
set_option linter.unusedVariables false
theorem b8_int (n : Nat) (h : n < 256) : (((B8 n).toNat : Nat) : Int) = (n : Int) := by rw [B8_toNat n h]
set_option maxHeartbeats 1000000 in
set_option maxRecDepth 10000 in
theorem refPut_any (n : Int) (w : World) (hw : (Lit.int .i64 n).wf = true) :
    Calls Try.prog 34 #[.int .i64 n] w fun e w' => ∃ v, e = .returned v ∧ Own w' w.heap.size v (putI n) ∧ Below w.heap.size w w' := by
  have hbd := bounds_i64 hw
  clear hw
  by_cases h0 : n < 0
  · have HP := hide (putI_neg n h0)
    go_enter Try.func34, Try.ntmps34
    go_wp2
    go_ret
    exact ⟨_, rfl, by rw [HP.out]; exact own_none _ _, Below.refl _ _⟩
  · obtain ⟨m, rfl⟩ := Int.eq_ofNat_of_zero_le (by omega : 0 ≤ n)
    have HP := hide (putI_nat m)
    have hm : m ≤ 9223372036854775807 := by omega
    have HL := hide (put_nine m (by omega))
    clear hbd
    go_enter Try.func34, Try.ntmps34
    go_wp2
    go_loopw [0, 3] (fun x o wr => ∃ (k : Nat) (pre : List (BitVec 8)) (a : Option Addr) (c : Nat), x = .int .i64 (k : Int) ∧ o = .slice a pre.length c ∧ k ≤ 9223372036854775807 ∧ Hid (pre ++ put k = put m) ∧ Hid (Own wr w.heap.size (.slice a pre.length c) pre) ∧ Hid (Below w.heap.size w wr)) (fun x _ _ => (intOf x).toNat)
    case atStart => exact ⟨m, [], _, _, rfl, rfl, hm, rfl, own_none _ _, Below.refl _ _⟩
    case round =>
      obtain ⟨k, pre, a, c, rfl, rfl, hk, HE, HO, HB⟩ := hrel
      have hsz := HB.out.size
      have hlen : pre.length + (put k).length ≤ 9 := by
        have h := congrArg List.length HE.out
        rw [List.length_append] at h
        have := HL.out.2
        omega
      have hki : (k : Int) ≤ 9223372036854775807 := by omega
      by_cases hlt : 128 ≤ k
      · go_wp2_with (at_builtin; refine push _ rfl _ _ rfl w.heap.size _ pre rfl (HO.out.below ((Below.refl wr.heap.size wr).alloc (Nat.le_refl _) _)) ⟨wr.heap.size, 0, none⟩ 1 (B8 (k % 128 + 128)) rfl ?_ (by omega) (by simp; omega) ?_
                     · rw [show (((B8 (k % 128 + 128)).toNat : Nat) : Int) = (k : Int) % 128 + 128 by rw [b8_int _ (by omega)]; omega]; exact cell_one_new _ _ _ 0 _ rfl
                     intro v' w4 hown4 hgrow4
                     have HG4 := hide hgrow4
                     obtain ⟨a', c', hv'⟩ := hown4.shape
                     rw [List.length_append, List.length_singleton] at hv'
                     subst hv'
                     have HO4 := hide hown4
                     clear hown4 hgrow4)
        go_roundw
        case rel =>
          refine ⟨k / 128, pre ++ [B8 (k % 128 + 128)], a', c', by go_num, by rw [List.length_append, List.length_singleton], by omega, ?_, ?_, ?_⟩
          · show pre ++ [B8 (k % 128 + 128)] ++ put (k / 128) = put m
            rw [← HE.out, put_large k hlt, List.append_assoc]; rfl
          · show Own _ _ _ _
            rw [List.length_append, List.length_singleton]
            exact HO4.out
          · exact ((HB.out.alloc hsz _).grown HG4.out (by simp; omega) (own_blk HO.out))
        case measure => simp [intOf]; omega
      · have hkk : k < 128 := by omega
        have hkj : (k : Int) < 128 := by omega
        go_wp2_with (at_builtin; refine push _ rfl _ _ rfl w.heap.size _ pre rfl (HO.out.below ((Below.refl wr.heap.size wr).alloc (Nat.le_refl _) _)) ⟨wr.heap.size, 0, none⟩ 1 (B8 k) rfl ?_ (by omega) (by simp; omega) ?_
                     · rw [B8_toNat k (by omega)]; exact cell_one_new _ _ _ 0 _ rfl
                     intro v' w4 hown4 hgrow4
                     have HG4 := hide hgrow4
                     obtain ⟨a', c', hv'⟩ := hown4.shape
                     rw [List.length_append, List.length_singleton] at hv'
                     subst hv'
                     have HO4 := hide hown4
                     clear hown4 hgrow4)
        go_ret
        refine ⟨_, rfl, ?_, ?_⟩
        · rw [HP.out, ← HE.out, put_small k (by omega)]; exact HO4.out
        · exact ((HB.out.alloc hsz _).grown HG4.out (by simp; omega) (own_blk HO.out))
set_option maxHeartbeats 1000000 in
set_option maxRecDepth 100000 in
theorem fits_any (a : Option Addr) (c : Nat) (t : Tok) (n : Nat) (last : Bool) (w : World) (hm : n + t.lit.length ≤ 9007199254740992) :
    Calls Try.prog 33 #[.agg #[.slice a t.lit.length c, .int .i64 t.dist, .int .i64 t.len], .int .i64 (n : Int), .bool last] w fun e w' => e = .returned (.bool (right t (n + t.lit.length) last)) ∧ Below w.heap.size w w' := by
  obtain ⟨lit, d, l⟩ := t
  simp only at hm ⊢
  have HB : Hid (Below w.heap.size w (w.alloc (.cells #[.slice a lit.length c, .int .i64 d, .int .i64 l] 32))) := (Below.refl _ _).alloc (Nat.le_refl _) _
  have HR : Hid (right ⟨lit, d, l⟩ (n + lit.length) last = if d = 0 ∧ l = 0 then last && decide (0 < lit.length) else decide (4 ≤ l ∧ l ≤ 259 ∧ 1 ≤ d ∧ d ≤ 32768 ∧ d ≤ ((n + lit.length : Nat) : Int))) := rfl
  obtain ⟨m, hmm⟩ : ∃ m, n + lit.length = m := ⟨_, rfl⟩
  rw [hmm] at HR hm
  rw [hmm]
  have hsum : (n : Int) + (lit.length : Int) = (m : Int) := by omega
  have hmi : (m : Int) ≤ 9007199254740992 := by omega
  have hni : (n : Int) ≤ 9007199254740992 := by omega
  clear hmm hm
  by_cases hd0 : d = 0 ∧ l = 0
  · obtain ⟨rfl, rfl⟩ := hd0
    rw [if_pos ⟨rfl, rfl⟩] at HR
    cases last with
    | true =>
      go_enter Try.func33, Try.ntmps33
      go_wp2_with fail
      go_ret
      exact ⟨ret_bool (by rw [HR.out]; simp), HB.out⟩
    | false =>
      go_enter Try.func33, Try.ntmps33
      go_wp2_with fail
      go_ret
      exact ⟨ret_bool (by rw [HR.out]; simp), HB.out⟩
  · rw [if_neg hd0] at HR
    have hbr : (d == 0) = false ∨ ((d == 0) = true ∧ (l == 0) = false) := by
      by_cases h1 : d = 0
      · exact .inr ⟨by rw [beq_iff_eq]; exact h1, by rw [beq_eq_false_iff_ne]; intro h2; exact hd0 ⟨h1, h2⟩⟩
      · exact .inl (by rw [beq_eq_false_iff_ne]; exact h1)
    clear hd0
    by_cases g1 : 4 ≤ l
    · by_cases g2 : l ≤ 259
      · by_cases g3 : 1 ≤ d
        · have hbz : (d == 0) = false := by rw [beq_eq_false_iff_ne]; omega
          clear hbr
          by_cases g4 : d ≤ 32768
          · go_enter Try.func33, Try.ntmps33
            go_wp2_with fail
            go_ret
            exact ⟨ret_bool (by rw [HR.out]; apply decide_eq_decide.2; omega), HB.out⟩
          · go_enter Try.func33, Try.ntmps33
            go_wp2_with fail
            go_ret
            exact ⟨ret_bool (by rw [HR.out]; symm; rw [decide_eq_false_iff_not]; omega), HB.out⟩
        · rcases hbr with hb | ⟨hb, hb2⟩
          all_goals
            go_enter Try.func33, Try.ntmps33
            go_wp2_with fail
            go_ret
            exact ⟨ret_bool (by rw [HR.out]; symm; rw [decide_eq_false_iff_not]; omega), HB.out⟩
      · rcases hbr with hb | ⟨hb, hb2⟩
        all_goals
          go_enter Try.func33, Try.ntmps33
          go_wp2_with fail
          go_ret
          exact ⟨ret_bool (by rw [HR.out]; symm; rw [decide_eq_false_iff_not]; omega), HB.out⟩
    · rcases hbr with hb | ⟨hb, hb2⟩
      all_goals
        go_enter Try.func33, Try.ntmps33
        go_wp2_with fail
        go_ret
        exact ⟨ret_bool (by rw [HR.out]; symm; rw [decide_eq_false_iff_not]; omega), HB.out⟩
end Go.Proofs.Ytckfkilpoimikaa.Lz
