/-
  What the program tells of Fixed and Word.
-/
import Derived.Test.YthdblnfohbldcaaGreatNumsGetC
namespace Go.Proofs.YthdblnfohbldcaaGreat.Nums
set_option linter.unusedVariables false
open Go.ChangeShapes Go.WideShapes Go.ChangeAt Go.RowKit
open Go.Proofs.YthdblnfohbldcaaGreat.Base
theorem width_any (n : Int) (w : World) : Calls Tryz.prog 131 #[.int .i64 n] w fun e w' => e = .returned (.bool (decide (1 ≤ n ∧ n ≤ 8))) ∧ w' = w := by
  by_cases h1 : 1 ≤ n
  · by_cases h2 : n ≤ 8
    · go_enter Tryz.func131, Tryz.ntmps131
      go_wp2
      go_ret
      exact ⟨ret_bool (by simp; omega), rfl⟩
    · go_enter Tryz.func131, Tryz.ntmps131
      go_wp2
      go_ret
      exact ⟨ret_bool (by simp; omega), rfl⟩
  · go_enter Tryz.func131, Tryz.ntmps131
    go_wp2
    go_ret
    exact ⟨ret_bool (by simp; omega), rfl⟩
/-- The bytes of a number, as many as may be asked for. -/
def fixI (v : Nat) (n : Int) : List (BitVec 8) := if 1 ≤ n ∧ n ≤ 8 then fixed v n.toNat else []
theorem fixI_out (v : Nat) (n : Int) (h : ¬ (1 ≤ n ∧ n ≤ 8)) : fixI v n = [] := by unfold fixI; rw [if_neg h]
theorem fixI_nat (v m : Nat) (h : 1 ≤ m ∧ m ≤ 8) : fixI v (m : Int) = fixed v m := by unfold fixI; rw [if_pos (by omega)]; simp
/-- What is laid behind k rounds. -/
def fixTo (v n k : Nat) : List (BitVec 8) := fixed v k ++ List.replicate (n - k) (BitVec.ofNat 8 0)
theorem length_fixTo (v n k : Nat) (h : k ≤ n) : (fixTo v n k).length = n := by simp [fixTo, length_fixed]; omega
theorem fixTo_step (v n k : Nat) (h : k < n) : (fixTo v n k).set k (B8 (v / 256 ^ k)) = fixTo v n (k + 1) := by
  unfold fixTo
  rw [List.set_append_right _ _ (by rw [length_fixed]; omega), length_fixed, Nat.sub_self, show n - k = (n - (k + 1)) + 1 by omega, List.replicate_succ, List.set_cons_zero, fixed_succ, List.append_assoc]
  rfl
theorem fixTo_end (v n : Nat) : fixTo v n n = fixed v n := by simp [fixTo]
theorem byte_step (v k : Nat) (hk : k < 8) : ∃ X : Nat, ∃ d : BitVec 8, (v : Int) / (2 : Int) ^ (8 * k) = (X : Int) ∧ (X : Int) % 256 = (d.toNat : Int) ∧ Hid (d = B8 (v / 256 ^ k)) := by
  refine ⟨v / 256 ^ k, B8 (v / 256 ^ k), ?_, ?_, rfl⟩
  · have e : (256 : Nat) ^ k = 2 ^ (8 * k) := by rw [Nat.pow_mul]
    rw [e, Int.natCast_ediv, Int.natCast_pow]; rfl
  · unfold B8; rw [BitVec.toNat_ofNat]; omega
set_option maxHeartbeats 1000000 in
set_option maxRecDepth 10000 in
theorem fixed_any (v : Nat) (n : Int) (w : World) (hv : v < 18446744073709551616) (hw : (Lit.int .i64 n).wf = true) :
    Calls Tryz.prog 118 #[.int .u64 (v : Int), .int .i64 n] w fun e w' => ∃ u, e = .returned u ∧ Own w' w.heap.size u (fixI v n) ∧ Below w.heap.size w w' := by
  obtain ⟨i0, hi, hz0, hz1, hz2⟩ := info_parts info8
  have hv' : (v : Int) ≤ 18446744073709551615 := by omega
  clear hv
  by_cases hn : 1 ≤ n ∧ n ≤ 8
  · obtain ⟨m, rfl⟩ := Int.eq_ofNat_of_zero_le (by omega : 0 ≤ n)
    have hm : 1 ≤ m ∧ m ≤ 8 := by omega
    have HP := hide (fixI_nat v m hm)
    have hd : decide ((1 : Int) ≤ (m : Int) ∧ (m : Int) ≤ 8) = true := by simpa using hn
    obtain ⟨hm1, hm2⟩ := hm
    clear hn hw
    go_enter Tryz.func118, Tryz.ntmps118
    go_wp2_with fail
    refine (width_any _ _).mono ?_
    rintro e w ⟨rfl, rfl⟩
    rw [hd]
    go_wp2_with (
      at_make; refine wpList_make_full _ rfl _ _ 24 rfl w.heap.size 5 i0 (.int .u8 0) 1 Tryz.underlying24 hi hz0 hz1 .i64 .i64 _ _ m rfl rfl (by omega) (by omega) (by rw [hz2]; omega) (by unfold maxLen; omega) (Nat.le_refl _) ?_
      intro w1 hown hgrow
      have HB1 : Hid (Below w.heap.size w w1) := (Below.refl _ _).grown hgrow (Nat.le_refl _) (by intro k h; cases h)
      have HO1 : Hid (Own w1 w.heap.size (.slice (some ⟨w.heap.size, 0, none⟩) m m) (fixTo v m 0)) := by
        show Own _ _ _ _
        unfold Own
        rw [length_fixTo _ _ _ (by omega)]
        have e : vals (fixTo v m 0) = (madeCells (Value.int .u8 0).cells (m * 1)).toList := by
          rw [vals_replicate]; simp [fixTo, fixed]
        rw [e]; exact hown
      clear hown hgrow)
    go_loopw [14] (fun i wr => ∃ k : Nat, k ≤ m ∧ i = .int .i64 k ∧ Hid (Own wr w.heap.size (.slice (some ⟨w.heap.size, 0, none⟩) m m) (fixTo v m k)) ∧ Hid (Below w.heap.size w wr)) (fun i _ => m - (intOf i).toNat)
    case atStart => exact ⟨0, Nat.zero_le _, rfl, HO1, HB1⟩
    case round =>
      clear HO1 HB1
      obtain ⟨k, hk, rfl, HO, HB⟩ := hrel
      by_cases hlt : k < m
      · have g1 := HO.out.cell k hlt
        generalize (fixTo v m k).getD k 0 = c0 at g1
        have g2 := HO.out.frozen k
        obtain ⟨X, d, h1, h2, HD⟩ := byte_step v k (by omega)
        obtain ⟨ho', hg'⟩ := HO.out.store k d
        have HO' := hide ho'
        have HG' := hide hg'
        clear ho' hg'
        have hki : (k : Int) < (m : Int) := by omega
        go_wp2
        go_roundw
        case rel =>
          refine ⟨k + 1, by omega, by go_num, ?_, HB.out.setCell (Nat.le_refl _) _⟩
          have h := HO'.out
          rw [HD.out, fixTo_step v m k hlt, ← HD.out] at h
          exact h
        case measure => simp [intOf]; omega
      · have hk' : k = m := by omega
        subst hk'
        go_wp2
        go_ret
        refine ⟨_, rfl, ?_, HB.out⟩
        rw [HP.out, ← fixTo_end]
        exact HO.out
  · have HP := hide (fixI_out v n hn)
    have hd : decide ((1 : Int) ≤ n ∧ n ≤ 8) = false := by simpa using hn
    clear hn
    go_enter Tryz.func118, Tryz.ntmps118
    go_wp2_with fail
    refine (width_any _ _).mono ?_
    rintro e w ⟨rfl, rfl⟩
    rw [hd]
    go_wp2
    go_ret
    exact ⟨_, rfl, by rw [HP.out]; exact own_none _ _, Below.refl _ _⟩
theorem word_take (bs : List (BitVec 8)) (k : Nat) (h : k < bs.length) : wordFrom 0 (bs.take (k + 1)) = wordFrom 0 (bs.take k) + (bs.getD k 0).toNat * 256 ^ k := by
  rw [getD_take bs k h, wordFrom_snoc, List.length_take, Nat.zero_add, Nat.min_eq_left (by omega)]
theorem or_add8 (k V d : Nat) (hV : V < 256 ^ k) : V ||| d * 256 ^ k = V + d * 256 ^ k := by
  have e : (256 : Nat) ^ k = 2 ^ (8 * k) := by rw [Nat.pow_mul]
  rw [e] at hV ⊢
  have := Nat.two_pow_add_eq_or_of_lt hV d
  rw [Nat.mul_comm d, Nat.or_comm, ← this]; omega
theorem lt_pow8 (i v d : Nat) (hv : v < 256 ^ i) (hd : d < 256) : v + d * 256 ^ i < 256 ^ (i + 1) := by
  rw [Nat.pow_succ]
  have : (d + 1) * 256 ^ i ≤ 256 * 256 ^ i := Nat.mul_le_mul_right _ (by omega)
  rw [Nat.add_mul] at this
  omega
theorem pow_eight (m : Nat) (h : m ≤ 8) : 256 ^ m ≤ 18446744073709551616 := by
  have := Nat.pow_le_pow_right (n := 256) (by omega) h
  have e : (256 : Nat) ^ 8 = 18446744073709551616 := by decide
  omega
theorem word_step (c : BitVec 8) (k V : Nat) (hk : k < 8) (hV : V < 256 ^ k) : ∃ X V' : Nat, (c.toNat : Int) * (2 : Int) ^ (8 * k) = (X : Int) ∧ (X : Int) ≤ 18446744073709551615 ∧
    bits .or .u64 (V : Int) (X : Int) = (V' : Int) ∧ Hid (V' = V + c.toNat * 256 ^ k) ∧ Hid (V' < 256 ^ (k + 1)) ∧ (V' : Int) ≤ 18446744073709551615 := by
  have hlt := lt_pow8 k V c.toNat hV (lt8 c)
  have h9 := pow_eight (k + 1) (by omega)
  have hX : c.toNat * 256 ^ k < 18446744073709551616 := by omega
  refine ⟨c.toNat * 256 ^ k, V + c.toNat * 256 ^ k, ?_, by omega, ?_, rfl, hlt, by omega⟩
  · have e : (256 : Nat) ^ k = 2 ^ (8 * k) := by rw [Nat.pow_mul]
    rw [e, Int.natCast_mul, Int.natCast_pow]; rfl
  · rw [u64_or_nat V _ (by omega) hX, or_add8 k V _ hV]
set_option maxHeartbeats 1000000 in
set_option maxRecDepth 10000 in
theorem word_any (a : Option Addr) (len cap : Nat) (bs : List (BitVec 8)) (w : World) (hr : Rd w a len bs) (hcap : len ≤ cap) (hm : cap ≤ 9223372036854775807) :
    Calls Tryz.prog 18 #[.slice a len cap] w fun e w' => e = .returned (.int .u64 (word bs : Nat)) ∧ Below w.heap.size w w' := by
  obtain ⟨hl, _, hc⟩ := hr
  have HL := hide hl
  have HC := hide hc
  clear hl hc
  rcases Nat.lt_or_ge 8 len with h9 | h9
  all_goals
    go_enter Tryz.func18, Tryz.ntmps18
    go_wp2
    go_loopw [3, 12] (fun v i wr => ∃ k V : Nat, k ≤ len ∧ k ≤ 8 ∧ i = .int .i64 k ∧ v = .int .u64 V ∧ Hid (V < 256 ^ k) ∧ Hid (V = wordFrom 0 (bs.take k)) ∧ wr = w) (fun _ i _ => len - (intOf i).toNat)
    case atStart => exact ⟨0, 0, Nat.zero_le _, Nat.zero_le _, rfl, rfl, show 0 < 256 ^ 0 by decide, rfl, rfl⟩
    case round =>
      obtain ⟨k, V, hk, hk9, rfl, rfl, HV, HG, rfl⟩ := hrel
      by_cases hlt : k < len ∧ k < 8
      · obtain ⟨h1, h2⟩ := hlt
        obtain ⟨b1, o1, rfl, hb1, hc1⟩ := unhide HC (by omega)
        have g1 := hc1 k h1
        clear hc1
        have HS := hide (word_take bs k (by have := HL.out; omega))
        generalize bs.getD k 0 = c at g1 HS
        obtain ⟨X, V', q3, q4, q5, HV', HVL, q6⟩ := word_step c k V h2 HV.out
        have HE : Hid (V' = wordFrom 0 (bs.take (k + 1))) := by
          show V' = _
          rw [HS.out, HV'.out, HG.out]
        have hki : (k : Int) < 8 := by omega
        have hkl : (k : Int) < (len : Int) := by omega
        go_wp2
        go_roundw
        case rel => exact ⟨k + 1, V', by omega, by omega, by go_num, rfl, HVL, HE, by first | trivial | rfl⟩
        case measure => simp [intOf]; omega
      · have HE : Hid (V = word bs) := by
          show V = _
          rw [HG.out]
          unfold word
          have hl := HL.out
          by_cases hk8 : k = 8
          · rw [hk8]
          · rw [List.take_of_length_le (by omega), List.take_of_length_le (by omega)]
        have hki : ¬ ((k : Int) < (len : Int) ∧ (k : Int) < 8) := by omega
        go_wp2
        go_ret
        exact ⟨ret_int (by rw [← HE.out]), Below.refl _ _⟩
end Go.Proofs.YthdblnfohbldcaaGreat.Nums
