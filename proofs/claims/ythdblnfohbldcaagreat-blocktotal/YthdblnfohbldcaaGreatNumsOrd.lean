/-
  What the program and the document's answer tell of two texts: Compare and Common.
-/
import Derived.Test.YthdblnfohbldcaaGreatNumsMath
namespace Go.Proofs.YthdblnfohbldcaaGreat.Nums
set_option linter.unusedVariables false
open Go.ChangeShapes Go.WideShapes Go.ChangeAt Go.RowKit
open Go.Proofs.YthdblnfohbldcaaGreat.Base
def sgn (a b : Int) : Int := if a < b then -1 else if b < a then 1 else 0
theorem nan8_any (k : Int) (w : World) : Calls Tryz.prog 143 #[.int .u8 k] w fun e w' => e = .returned (.bool false) ∧ w' = w := by
  have h : (k != k) = false := by simp
  go_enter Tryz.func143, Tryz.ntmps143
  go_wp2
  go_ret
  exact ⟨rfl, rfl⟩
theorem nanI_any (k : Int) (w : World) : Calls Tryz.prog 144 #[.int .i64 k] w fun e w' => e = .returned (.bool false) ∧ w' = w := by
  have h : (k != k) = false := by simp
  go_enter Tryz.func144, Tryz.ntmps144
  go_wp2
  go_ret
  exact ⟨rfl, rfl⟩
theorem cmp8_any (a b : Int) (w : World) : Calls Tryz.prog 105 #[.int .u8 a, .int .u8 b] w fun e w' => e = .returned (.int .i64 (sgn a b)) ∧ w' = w := by
  go_enter Tryz.func105, Tryz.ntmps105
  go_wp2_with fail
  refine (nan8_any _ _).mono ?_
  rintro e w1 ⟨rfl, rfl⟩
  go_wp2_with fail
  refine (nan8_any _ _).mono ?_
  rintro e w1 ⟨rfl, rfl⟩
  by_cases h1 : a < b
  · go_wp2
    go_ret
    exact ⟨ret_int (by unfold sgn; rw [if_pos (by omega)]), rfl⟩
  · by_cases h2 : b < a
    · go_wp2
      go_ret
      exact ⟨ret_int (by unfold sgn; rw [if_neg (by omega), if_pos (by omega)]), rfl⟩
    · go_wp2
      go_ret
      exact ⟨ret_int (by unfold sgn; rw [if_neg (by omega), if_neg (by omega)]), rfl⟩
theorem cmpI_any (a b : Int) (w : World) : Calls Tryz.prog 106 #[.int .i64 a, .int .i64 b] w fun e w' => e = .returned (.int .i64 (sgn a b)) ∧ w' = w := by
  go_enter Tryz.func106, Tryz.ntmps106
  go_wp2_with fail
  refine (nanI_any _ _).mono ?_
  rintro e w1 ⟨rfl, rfl⟩
  go_wp2_with fail
  refine (nanI_any _ _).mono ?_
  rintro e w1 ⟨rfl, rfl⟩
  by_cases h1 : a < b
  · go_wp2
    go_ret
    exact ⟨ret_int (by unfold sgn; rw [if_pos (by omega)]), rfl⟩
  · by_cases h2 : b < a
    · go_wp2
      go_ret
      exact ⟨ret_int (by unfold sgn; rw [if_neg (by omega), if_pos (by omega)]), rfl⟩
    · go_wp2
      go_ret
      exact ⟨ret_int (by unfold sgn; rw [if_neg (by omega), if_neg (by omega)]), rfl⟩
/-- A text's bytes. -/
def txt (s : ByteArray) : List UInt8 := s.data.toList
theorem length_txt (s : ByteArray) : (txt s).length = s.size := Array.length_toList
theorem txt_get (s : ByteArray) (k : Nat) (h : k < s.size) : (txt s).getD k 0 = s[k] := by
  have hl : k < (txt s).length := by rw [length_txt]; exact h
  rw [List.getD_eq_getElem?_getD, List.getElem?_eq_getElem hl]
  rfl
theorem txt_take (s : ByteArray) (k : Nat) (h : k < s.size) : (txt s).take (k + 1) = (txt s).take k ++ [s[k]] := by
  have hl : k < (txt s).length := by rw [length_txt]; exact h
  rw [List.take_succ_eq_append_getElem hl]
  rfl
theorem sgn_byte (a b : UInt8) (h : a ≠ b) : sgn (a.toNat : Int) (b.toNat : Int) = if a.toNat < b.toNat then -1 else 1 := by
  have := u8_ne h
  unfold sgn
  by_cases h1 : a.toNat < b.toNat
  · rw [if_pos (by omega), if_pos h1]
  · rw [if_neg (by omega), if_pos (by omega), if_neg h1]
theorem sgn_len (m n : Nat) : sgn (m : Int) (n : Int) = if m < n then -1 else if m = n then 0 else 1 := by
  unfold sgn
  by_cases h1 : m < n
  · rw [if_pos (by omega), if_pos h1]
  · by_cases h2 : m = n
    · rw [if_neg (by omega), if_neg (by omega), if_neg h1, if_pos h2]
    · rw [if_neg (by omega), if_pos (by omega), if_neg h1, if_neg h2]
theorem cond_take {s t : ByteArray} {k : Nat} (h1 : k < s.size) (h2 : k < t.size) (ht : (txt s).take k = (txt t).take k) (h : s[k] = t[k]) : (txt s).take (k + 1) = (txt t).take (k + 1) := by
  rw [txt_take s k h1, txt_take t k h2, ht, h]
theorem order_here {s t : ByteArray} {k : Nat} (h1 : k < s.size) (h2 : k < t.size) (ht : (txt s).take k = (txt t).take k) (h : ¬ s[k] = t[k]) : order (txt s) (txt t) = sgn (s[k].toNat : Int) (t[k].toNat : Int) ∧ common (txt s) (txt t) = k := by
  have := order_at (txt s) (txt t) k (by rw [length_txt]; exact h1) (by rw [length_txt]; exact h2) ht (by rw [txt_get s k h1, txt_get t k h2]; exact h)
  rw [txt_get s k h1, txt_get t k h2] at this
  rw [sgn_byte _ _ h]; exact this
theorem order_stop {s t : ByteArray} {k : Nat} (hk : k = min s.size t.size) (ht : (txt s).take k = (txt t).take k) : order (txt s) (txt t) = sgn (s.size : Int) (t.size : Int) ∧ common (txt s) (txt t) = k := by
  have := order_end (txt s) (txt t) k (by rw [length_txt, length_txt]; exact hk) ht
  rw [length_txt, length_txt] at this
  rw [sgn_len]; exact this
set_option maxHeartbeats 1000000 in
theorem compare_any (s t : ByteArray) (w : World) (hs : s.size ≤ 9223372036854775807) (ht : t.size ≤ 9223372036854775807) :
    Calls Tryz.prog 59 #[.string s, .string t] w fun e w' => e = .returned (.int .i64 (order (txt s) (txt t))) ∧ Below w.heap.size w w' := by
  rcases Nat.lt_or_ge t.size s.size with hle | hle
  all_goals
    go_enter Tryz.func59, Tryz.ntmps59
    go_wp2
    go_loopw [11] (fun i wr => ∃ k : Nat, k ≤ s.size ∧ k ≤ t.size ∧ i = .int .i64 k ∧ Hid ((txt s).take k = (txt t).take k) ∧ ∃ n, wr = w.drewN n) (fun i _ => s.size - (intOf i).toNat)
    case atStart => exact ⟨0, Nat.zero_le _, Nat.zero_le _, rfl, rfl, 0, rfl⟩
    case round =>
      obtain ⟨k, hk, hk2, rfl, HT, n, rfl⟩ := hrel
      by_cases hlt : k < s.size ∧ k < t.size
      · obtain ⟨h1, h2⟩ := hlt
        have h1i : (k : Int) < (s.size : Int) := by omega
        have h2i : (k : Int) < (t.size : Int) := by omega
        by_cases hne : s[k] = t[k]
        · have hq : ((s[k].toNat : Int) != (t[k].toNat : Int)) = false := by rw [hne]; simp
          have HN := hide (cond_take h1 h2 HT.out hne)
          clear hne
          go_wp2
          go_quiet (fail)
          go_wp2
          go_roundw
          case rel => exact ⟨k + 1, by omega, by omega, by go_num, HN, n + nq, rfl⟩
          case measure => simp [intOf]; omega
        · have hq : ((s[k].toNat : Int) != (t[k].toNat : Int)) = true := by
            rw [bne_iff_ne]; intro h; exact u8_ne hne (by omega)
          have HN := hide (order_here h1 h2 HT.out hne)
          clear hne
          go_wp2
          go_quiet (fail)
          go_wp2
          go_region_held (fun _ => True) (trivial) (first | (go_at_call 105; refine (cmp8_any _ _ _).mono ?_; rintro e w1 ⟨rfl, rfl⟩))
          all_goals
            go_wp2
            go_ret
            exact ⟨ret_int HN.out.1.symm, below_drewN' _ _ _⟩
      · have HE := hide (order_stop (k := k) (by omega) HT.out)
        go_wp2_with fail
        refine (cmpI_any _ _ _).mono ?_
        rintro e w1 ⟨rfl, rfl⟩
        go_wp2
        go_ret
        exact ⟨ret_int HE.out.1.symm, below_drewN' _ _ _⟩
set_option maxHeartbeats 1000000 in
theorem common_any (s t : ByteArray) (w : World) (hs : s.size ≤ 9223372036854775807) (ht : t.size ≤ 9223372036854775807) :
    Calls Tryz.prog 61 #[.string s, .string t] w fun e w' => e = .returned (.int .i64 (common (txt s) (txt t) : Nat)) ∧ Below w.heap.size w w' := by
  rcases Nat.lt_or_ge t.size s.size with hle | hle
  all_goals
    go_enter Tryz.func61, Tryz.ntmps61
    go_wp2
    go_loopw [13] (fun i wr => ∃ k : Nat, k ≤ s.size ∧ k ≤ t.size ∧ i = .int .i64 k ∧ Hid ((txt s).take k = (txt t).take k) ∧ ∃ n, wr = w.drewN n) (fun i _ => s.size - (intOf i).toNat)
    case atStart => exact ⟨0, Nat.zero_le _, Nat.zero_le _, rfl, rfl, 0, rfl⟩
    case round =>
      obtain ⟨k, hk, hk2, rfl, HT, n, rfl⟩ := hrel
      by_cases hlt : k < s.size ∧ k < t.size
      · obtain ⟨h1, h2⟩ := hlt
        have h1i : (k : Int) < (s.size : Int) := by omega
        have h2i : (k : Int) < (t.size : Int) := by omega
        by_cases hne : s[k] = t[k]
        · have hq : ((s[k].toNat : Int) != (t[k].toNat : Int)) = false := by rw [hne]; simp
          have HN := hide (cond_take h1 h2 HT.out hne)
          clear hne
          go_wp2
          go_quiet (fail)
          go_wp2
          go_roundw
          case rel => exact ⟨k + 1, by omega, by omega, by go_num, HN, n + nq, rfl⟩
          case measure => simp [intOf]; omega
        · have hq : ((s[k].toNat : Int) != (t[k].toNat : Int)) = true := by
            rw [bne_iff_ne]; intro h; exact u8_ne hne (by omega)
          have HN := hide (order_here h1 h2 HT.out hne)
          clear hne
          go_wp2
          go_quiet (fail)
          go_wp2
          go_ret
          exact ⟨ret_int (by rw [HN.out.2]), (below_drewN' _ _ _).trans (below_drewN' _ _ _)⟩
      · have HE := hide (order_stop (k := k) (by omega) HT.out)
        go_wp2
        go_ret
        exact ⟨ret_int (by rw [HE.out.2]; omega), below_drewN' _ _ _⟩
theorem common_sizes (s t : ByteArray) : common (txt s) (txt t) ≤ s.size ∧ common (txt s) (txt t) ≤ t.size := by
  have := common_le (txt s) (txt t)
  rw [length_txt, length_txt] at this
  exact this
end Go.Proofs.YthdblnfohbldcaaGreat.Nums
