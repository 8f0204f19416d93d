/-
  The order of texts: nums.Compare, told with the world behind it; how many of some texts are not above one.
-/
import Derived.Test.YtdpihfmbkimgpaaPaStrs
import Derived.Test.YtdpihfmbkimgpaaNumsOrdR
namespace Go.Proofs.Ytdpihfmbkimgpaa.Pa
open Go.ChangeShapes Go.WideShapes Go.ChangeAt Go.RowKit
open Go.Proofs.Ytdpihfmbkimgpaa.Base Go.Proofs.Ytdpihfmbkimgpaa.Nums
set_option linter.unusedVariables false
/-- The order of two texts. -/
def cmpT (s t : ByteArray) : Int := order (txt s) (txt t)
theorem cmpT_swap (a b : ByteArray) : cmpT b a = - cmpT a b := order_swap _ _
theorem cmpT_trans {a b c : ByteArray} (h1 : cmpT a b ≤ 0) (h2 : cmpT b c ≤ 0) : cmpT a c ≤ 0 := (order_trans _ _ _).1 h1 h2
theorem cmpT_eq {a b : ByteArray} : cmpT a b = 0 ↔ a = b := by
  unfold cmpT
  rw [order_zero]
  constructor
  · intro h
    cases a; cases b
    exact congrArg _ (Array.toList_inj.1 h)
  · intro h; rw [h]
theorem cmpT_range (a b : ByteArray) : cmpT a b = -1 ∨ cmpT a b = 0 ∨ cmpT a b = 1 := order_range _ _
set_option maxHeartbeats 1000000 in
theorem compareD (s t : ByteArray) (w : World) (hs : s.size ≤ 9223372036854775807) (ht : t.size ≤ 9223372036854775807) :
    Calls Try.prog 17 #[.string s, .string t] w fun e w' => e = .returned (.int .i64 (cmpT s t)) ∧ ∃ q, w' = w.drewN q := by
  rcases Nat.lt_or_ge t.size s.size with hle | hle
  all_goals
    go_enter Try.func17, Try.ntmps17
    go_wp2
    go_loopw [11] (fun i wr => ∃ k : Nat, k ≤ s.size ∧ k ≤ t.size ∧ i = .int .i64 k ∧ Hid ((txt s).take k = (txt t).take k) ∧ ∃ n, wr = w.drewN n) (fun i _ => s.size - (intOf i).toNat)
    case atStart => exact ⟨0, Nat.zero_le _, Nat.zero_le _, rfl, rfl, 0, rfl⟩
    case round =>
      obtain ⟨k, hk, hk2, rfl, HT, n, rfl⟩ := hrel
      by_cases hlt : k < s.size ∧ k < t.size
      · obtain ⟨h1, h2⟩ := hlt
        have h1i : (k : Int) < (s.size : Int) := by omega
        have h2i : (k : Int) < (t.size : Int) := by omega
        by_cases hne : s[k] = t[k]
        · have hq : ((s[k].toNat : Int) != (t[k].toNat : Int)) = false := by rw [hne]; simp
          have HN := hide (cond_take h1 h2 HT.out hne)
          clear hne
          go_wp2
          go_quiet (fail)
          go_wp2
          go_roundw
          case rel => exact ⟨k + 1, by omega, by omega, by go_num, HN, n + nq, rfl⟩
          case measure => simp [intOf]; omega
        · have hq : ((s[k].toNat : Int) != (t[k].toNat : Int)) = true := by
            rw [bne_iff_ne]; intro h; exact u8_ne hne (by omega)
          have HN := hide (order_here h1 h2 HT.out hne)
          clear hne
          go_wp2
          go_quiet (fail)
          go_wp2
          go_region_held (fun _ => True) (trivial) (first | (go_at_call 33; refine (cmp8_any _ _ _).mono ?_; rintro e w1 ⟨rfl, rfl⟩))
          all_goals
            go_wp2
            go_ret
            exact ⟨ret_int HN.out.1.symm, _, rfl⟩
      · have HE := hide (order_stop (k := k) (by omega) HT.out)
        go_wp2_with fail
        refine (cmpI_any _ _ _).mono ?_
        rintro e w1 ⟨rfl, rfl⟩
        go_wp2
        go_ret
        exact ⟨ret_int HE.out.1.symm, _, rfl⟩
theorem compareB (s t : ByteArray) (w : World) (hs : s.size ≤ 9223372036854775807) (ht : t.size ≤ 9223372036854775807) :
    Calls Try.prog 17 #[.string s, .string t] w fun e w' => e = .returned (.int .i64 (cmpT s t)) ∧ Below w.heap.size w w' :=
  (compareD s t w hs ht).mono fun _ _ ⟨h, q, hq⟩ => ⟨h, by rw [hq]; exact below_drewN' _ _ _⟩
/-- How many of the texts are not above one. -/
def rank (ss : List ByteArray) (k : ByteArray) : Nat := ss.countP fun s => decide (cmpT s k ≤ 0)
theorem rank_le (ss : List ByteArray) (k : ByteArray) : rank ss k ≤ ss.length := List.countP_le_length
theorem take_snoc (ss : List ByteArray) (i : Nat) (h : i < ss.length) : ss.take (i + 1) = ss.take i ++ [ss.getD i ⟨#[]⟩] := by
  rw [List.take_succ_eq_append_getElem h, List.getD_eq_getElem?_getD, List.getElem?_eq_getElem h]; rfl
theorem rank_step (ss : List ByteArray) (k : ByteArray) (i : Nat) (h : i < ss.length) : rank (ss.take (i + 1)) k = rank (ss.take i) k + if cmpT (ss.getD i ⟨#[]⟩) k ≤ 0 then 1 else 0 := by
  unfold rank
  rw [take_snoc ss i h, List.countP_append, List.countP_singleton]
  simp
set_option maxHeartbeats 1000000 in
theorem range_any (a : Option Addr) (len cap : Nat) (ss : List ByteArray) (k : ByteArray) (w : World) (hr : RdS w a len ss) (hk : k.size ≤ 9223372036854775807) :
    Calls Try.prog 16 #[.slice a len cap, .string k] w fun e w' => e = .returned (.int .i64 (rank ss k : Nat)) ∧ Below w.heap.size w w' := by
  have hl := hr.2.1
  have HR := hide hr
  clear hr
  go_enter Try.func16, Try.ntmps16
  go_wp2_with fail
  go_loopw [5, 10] (fun c i wr => ∃ m j : Nat, m ≤ len ∧ j ≤ m ∧ i = .int .i64 (m : Int) ∧ c = .int .i64 (j : Int) ∧ Hid (j = rank (ss.take m) k) ∧ Hid (Below w.heap.size w wr)) (fun c i _ => len - (intOf i).toNat)
  case atStart => exact ⟨0, 0, Nat.zero_le _, Nat.zero_le _, rfl, rfl, rfl, Below.refl _ _⟩
  case round =>
    obtain ⟨m, j, hm, hj, rfl, rfl, HJ, HB⟩ := hrel
    by_cases hlt : m < len
    · have hki : (m : Int) < (len : Int) := by omega
      obtain ⟨b1, o1, rfl, _, hc1⟩ := (HR.out.below HB.out).2.2.2 (by omega)
      have g1 := hc1 m hlt
      have HZ := hide (HR.out.2.2.1 _ (getS_mem (i := m) (by rw [HR.out.1]; exact hlt)))
      have HS := hide (rank_step ss k m (by rw [HR.out.1]; exact hlt))
      generalize ss.getD m ⟨#[]⟩ = s at g1 HZ HS
      clear hc1
      go_wp2_with fail
      refine (compareB s k wr HZ.out hk).mono ?_
      rintro e w2 ⟨rfl, hb⟩
      have HB2 := hide (below_trans HB.out hb)
      clear hb
      by_cases hc : cmpT s k ≤ 0
      · have HC := hide (HS.out.trans (by rw [if_pos hc, ← HJ.out]))
        generalize cmpT s k = x at hc
        go_wp2
        go_roundw
        case rel => exact ⟨m + 1, j + 1, by omega, by omega, by go_num, by go_num, HC.out.symm, HB2⟩
        case measure => (simp [intOf] <;> omega)
      · have HC := hide (HS.out.trans (by rw [if_neg hc, ← HJ.out]))
        generalize cmpT s k = x at hc
        go_wp2
        go_roundw
        case rel => exact ⟨m + 1, j, by omega, by omega, by go_num, rfl, HC.out.symm, HB2⟩
        case measure => (simp [intOf] <;> omega)
    · have hkl : m = len := by omega
      subst hkl
      have hki : ¬ (m : Int) < (m : Int) := by omega
      go_wp2_with fail
      go_ret
      refine ⟨ret_int ?_, HB.out⟩
      rw [HJ.out, List.take_of_length_le (by rw [HR.out.1]; exact Nat.le_refl _)]
end Go.Proofs.Ytdpihfmbkimgpaa.Pa
