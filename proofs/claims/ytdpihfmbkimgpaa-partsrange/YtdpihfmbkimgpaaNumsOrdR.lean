/-
  What the document's answer tells of two texts: Compare and Common.
-/
import Derived.Test.YtdpihfmbkimgpaaNumsOrd
namespace Go.Proofs.Ytdpihfmbkimgpaa.Nums
set_option linter.unusedVariables false
open Go.ChangeShapes Go.WideShapes Go.ChangeAt Go.RowKit
open Go.Proofs.Ytdpihfmbkimgpaa.Base
set_option maxHeartbeats 1000000 in
theorem refCommon_any (s t : ByteArray) (w : World) (hs : s.size ≤ 9223372036854775807) (ht : t.size ≤ 9223372036854775807) :
    Calls Try.prog 55 #[.string s, .string t] w fun e w' => e = .returned (.int .i64 (common (txt s) (txt t) : Nat)) ∧ Below w.heap.size w w' := by
  go_enter Try.func55, Try.ntmps55
  go_wp2
  go_loopw [5] (fun i wr => ∃ k : Nat, k ≤ s.size ∧ k ≤ t.size ∧ i = .int .i64 k ∧ Hid ((txt s).take k = (txt t).take k) ∧ ∃ n, wr = w.drewN n) (fun i _ => s.size - (intOf i).toNat)
  case atStart => exact ⟨0, Nat.zero_le _, Nat.zero_le _, rfl, rfl, 0, rfl⟩
  case round =>
    obtain ⟨k, hk, hk2, rfl, HT, n, rfl⟩ := hrel
    by_cases h1 : k < s.size
    · have h1i : (k : Int) < (s.size : Int) := by omega
      have d1 : decide ((k : Int) < (s.size : Int)) = true := by simpa using h1
      by_cases h2 : k < t.size
      · have h2i : (k : Int) < (t.size : Int) := by omega
        have d2 : decide ((k : Int) < (t.size : Int)) = true := by simpa using h2
        by_cases hne : s[k] = t[k]
        · have hq : ((s[k].toNat : Int) == (t[k].toNat : Int)) = true := by rw [hne]; simp
          have HN := hide (cond_take h1 h2 HT.out hne)
          clear hne
          go_wp2
          go_quiet (fail)
          go_wp2
          go_roundw
          case rel => exact ⟨k + 1, by omega, by omega, by go_num, HN, n + nq, rfl⟩
          case measure => simp [intOf]; omega
        · have hq : ((s[k].toNat : Int) == (t[k].toNat : Int)) = false := by
            rw [beq_eq_false_iff_ne]; intro h; exact u8_ne hne (by omega)
          have HN := hide (order_here h1 h2 HT.out hne)
          clear hne
          go_wp2
          go_quiet (fail)
          go_wp2
          go_ret
          exact ⟨ret_int (by rw [HN.out.2]), (below_drewN' _ _ _).trans (below_drewN' _ _ _)⟩
      · have d2 : decide ((k : Int) < (t.size : Int)) = false := by simpa using h2
        have HE := hide (order_stop (k := k) (by omega) HT.out)
        go_wp2
        go_quiet (fail)
        go_wp2
        go_ret
        exact ⟨ret_int (by rw [HE.out.2]), (below_drewN' _ _ _).trans (below_drewN' _ _ _)⟩
    · have d1 : decide ((k : Int) < (s.size : Int)) = false := by simpa using h1
      have HE := hide (order_stop (k := k) (by omega) HT.out)
      go_wp2
      go_quiet (fail)
      go_wp2
      go_ret
      exact ⟨ret_int (by rw [HE.out.2]), (below_drewN' _ _ _).trans (below_drewN' _ _ _)⟩
set_option maxHeartbeats 1000000 in
theorem refCompare_any (s t : ByteArray) (w : World) (hs : s.size ≤ 9223372036854775807) (ht : t.size ≤ 9223372036854775807) :
    Calls Try.prog 40 #[.string s, .string t] w fun e w' => e = .returned (.int .i64 (order (txt s) (txt t))) ∧ Below w.heap.size w w' := by
  obtain ⟨hc1, hc2⟩ := common_sizes s t
  have HT := hide (common_take (txt s) (txt t))
  go_enter Try.func40, Try.ntmps40
  go_wp2_with fail
  refine (refCommon_any _ _ _ hs ht).mono ?_
  rintro e w1 ⟨rfl, hb⟩
  have HB := hide hb
  have HK := hide (fun (h1 : common (txt s) (txt t) < s.size) (h2 : common (txt s) (txt t) < t.size) (hne : ¬ s[common (txt s) (txt t)] = t[common (txt s) (txt t)]) => (order_here h1 h2 HT.out hne).1)
  have HE := hide (fun (h : common (txt s) (txt t) = min s.size t.size) => (order_stop h HT.out).1)
  have HP := hide (fun (h1 : common (txt s) (txt t) < s.size) (h2 : common (txt s) (txt t) < t.size) => show ¬ s[common (txt s) (txt t)] = t[common (txt s) (txt t)] from by
    have := common_part (txt s) (txt t) (by rw [length_txt]; exact h1) (by rw [length_txt]; exact h2)
    rwa [txt_get s _ h1, txt_get t _ h2] at this)
  clear hb HT
  generalize common (txt s) (txt t) = k at hc1 hc2 HK HE HP
  by_cases e1 : k = s.size
  · subst e1
    by_cases e2 : s.size = t.size
    · have q2 : ((s.size : Int) == (t.size : Int)) = true := by rw [e2]; simp
      have H := hide (HE.out (by omega))
      go_wp2
      go_ret
      exact ⟨ret_int (by rw [H.out, sgn_len, if_neg (by omega), if_pos e2]), HB.out⟩
    · have q2 : ((s.size : Int) == (t.size : Int)) = false := by rw [beq_eq_false_iff_ne]; omega
      have H := hide (HE.out (by omega))
      go_wp2
      go_ret
      exact ⟨ret_int (by rw [H.out, sgn_len, if_pos (by omega)]), HB.out⟩
  · have q1 : ((k : Int) == (s.size : Int)) = false := by rw [beq_eq_false_iff_ne]; omega
    by_cases e2 : k = t.size
    · subst e2
      have H := hide (HE.out (by omega))
      go_wp2
      go_ret
      exact ⟨ret_int (by rw [H.out, sgn_len, if_neg (by omega), if_neg (by omega)]), HB.out⟩
    · have q2 : ((k : Int) == (t.size : Int)) = false := by rw [beq_eq_false_iff_ne]; omega
      have h1 : k < s.size := by omega
      have h2 : k < t.size := by omega
      have h1i : (k : Int) < (s.size : Int) := by omega
      have h2i : (k : Int) < (t.size : Int) := by omega
      have hne := HP.out h1 h2
      have H := hide (HK.out h1 h2 hne)
      have hnn := u8_ne hne
      by_cases hl : s[k].toNat < t[k].toNat
      · have dl : decide (s[k].toNat < t[k].toNat) = true := by simpa using hl
        have HH : Hid (order (txt s) (txt t) = -1) := by
          rw [H.out, sgn_byte _ _ hne, if_pos hl]; exact rfl
        clear hne hnn hl
        go_wp2
        go_quiet (fail)
        go_wp2
        go_ret
        exact ⟨ret_int HH.out.symm, HB.out.trans (below_drewN (Below.refl _ _) _)⟩
      · have dl : decide (s[k].toNat < t[k].toNat) = false := by simpa using hl
        have HH : Hid (order (txt s) (txt t) = 1) := by
          rw [H.out, sgn_byte _ _ hne, if_neg hl]; exact rfl
        clear hne hnn hl
        go_wp2
        go_quiet (fail)
        go_wp2
        go_ret
        exact ⟨ret_int HH.out.symm, HB.out.trans (below_drewN (Below.refl _ _) _)⟩
end Go.Proofs.Ytdpihfmbkimgpaa.Nums
