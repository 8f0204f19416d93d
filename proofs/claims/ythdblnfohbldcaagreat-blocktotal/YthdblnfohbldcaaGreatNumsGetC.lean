/-
  What the program tells of Get.
-/
import Derived.Test.YthdblnfohbldcaaGreatNumsPutC
namespace Go.Proofs.YthdblnfohbldcaaGreat.Nums
set_option linter.unusedVariables false
open Go.ChangeShapes Go.WideShapes Go.ChangeAt Go.RowKit
open Go.Proofs.YthdblnfohbldcaaGreat.Base
theorem getFrom_step (bs : List (BitVec 8)) (k V : Nat) (h : k < bs.length) (h9 : k < 9) :
    getFrom k V (bs.drop k) = if (bs.getD k 0).toNat < 128 then (if (bs.getD k 0).toNat = 0 ∧ 0 < k then (0, 0, 21) else (V + (bs.getD k 0).toNat * 128 ^ k, k + 1, 0)) else getFrom (k + 1) (V + (bs.getD k 0).toNat % 128 * 128 ^ k) (bs.drop (k + 1)) := by
  have e : bs.drop k = bs.getD k 0 :: bs.drop (k + 1) := by
    rw [List.drop_eq_getElem_cons h, List.getD_eq_getElem?_getD, List.getElem?_eq_getElem h]; rfl
  rw [e]
  simp only [getFrom, if_neg (show ¬ 9 ≤ k by omega)]
theorem i64_or_nat (a b : Nat) (ha : a < 9223372036854775808) (hb : b < 9223372036854775808) : bits .or .i64 (a : Int) (b : Int) = ((a ||| b : Nat) : Int) := by
  have hx : a ||| b < 2 ^ 63 := Nat.or_lt_two_pow (by omega) (by omega)
  show IntKind.i64.wrap ((BitVec.ofInt 64 (a : Int) ||| BitVec.ofInt 64 (b : Int)).toNat : Int) = _
  rw [BitVec.toNat_or, ofInt_u64 a (by omega), ofInt_u64 b (by omega)]
  rw [IntKind.wrap_i64]; omega
theorem clear128 : ∀ c : BitVec 8, c.toNat &&& (255 - 128) = c.toNat % 128 := by decide +kernel
theorem or_add (k V d : Nat) (hV : V < 128 ^ k) : V ||| d * 128 ^ k = V + d * 128 ^ k := by
  have e : (128 : Nat) ^ k = 2 ^ (7 * k) := by rw [Nat.pow_mul]
  rw [e] at hV ⊢
  have := Nat.two_pow_add_eq_or_of_lt hV d
  rw [Nat.mul_comm d, Nat.or_comm, ← this]; omega
theorem ret3 {t : Nat × Nat × Nat} {x y z : Nat} {a b c : Int} (h : t = (x, y, z)) (ha : a = (x : Int)) (hb : b = (y : Int)) (hc : c = (z : Int)) :
    Ending.returned (.tuple #[.int .i64 a, .int .i64 b, .int .i64 c]) = .returned (.tuple #[.int .i64 (t.1 : Nat), .int .i64 (t.2.1 : Nat), .int .i64 (t.2.2 : Nat)]) := by
  subst h ha hb hc; rfl
theorem get_step (c : BitVec 8) (k V : Nat) (hk : k < 9) (hV : V < 128 ^ k) : ∃ d X V' : Nat, bits .andNot .u8 (c.toNat : Int) 128 = (d : Int) ∧ (d : Int) < 128 ∧ (d : Int) * (2 : Int) ^ (7 * k) = (X : Int) ∧ (X : Int) ≤ 9223372036854775807 ∧
    bits .or .i64 (V : Int) (X : Int) = (V' : Int) ∧ Hid (V' = V + c.toNat % 128 * 128 ^ k) ∧ Hid (V' < 128 ^ (k + 1)) ∧ (V' : Int) ≤ 9223372036854775807 := by
  have hlt := lt_pow k V (c.toNat % 128) hV (by omega)
  have h9 := pow_nine (k + 1) (by omega)
  have hX : c.toNat % 128 * 128 ^ k < 9223372036854775808 := by omega
  refine ⟨c.toNat % 128, c.toNat % 128 * 128 ^ k, V + c.toNat % 128 * 128 ^ k, ?_, by omega, ?_, by omega, ?_, rfl, hlt, by omega⟩
  · have h := u8_andNot_nat c.toNat 128 (lt8 c) (by omega)
    rw [clear128] at h
    exact h
  · have e : (128 : Nat) ^ k = 2 ^ (7 * k) := by rw [Nat.pow_mul]
    rw [e, Int.natCast_mul, Int.natCast_pow]; rfl
  · rw [i64_or_nat V _ (by omega) hX, or_add k V _ hV]
set_option maxHeartbeats 1000000 in
set_option maxRecDepth 10000 in
theorem get_any (a : Option Addr) (len cap : Nat) (bs : List (BitVec 8)) (w : World) (hr : Rd w a len bs) (hcap : len ≤ cap) (hm : cap ≤ 9223372036854775807) :
    Calls Tryz.prog 90 #[.slice a len cap] w fun e w' => e = .returned (.tuple #[.int .i64 ((get bs).1 : Nat), .int .i64 ((get bs).2.1 : Nat), .int .i64 ((get bs).2.2 : Nat)]) ∧ Below w.heap.size w w' := by
  obtain ⟨hl, _, hc⟩ := hr
  have HL := hide hl
  have HC := hide hc
  clear hl hc
  rcases Nat.lt_or_ge 9 len with h9 | h9
  all_goals
    go_enter Tryz.func90, Tryz.ntmps90
    go_wp2
    go_loopw [5, 14] (fun v i wr => ∃ k V : Nat, k ≤ len ∧ k ≤ 9 ∧ i = .int .i64 k ∧ v = .int .i64 V ∧ Hid (V < 128 ^ k) ∧ Hid (getFrom k V (bs.drop k) = get bs) ∧ wr = w) (fun _ i _ => len - (intOf i).toNat)
    case atStart => exact ⟨0, 0, Nat.zero_le _, Nat.zero_le _, rfl, rfl, show 0 < 128 ^ 0 by decide, rfl, rfl⟩
    case round =>
      obtain ⟨k, V, hk, hk9, rfl, rfl, HV, HG, rfl⟩ := hrel
      by_cases hlt : k < len ∧ k < 9
      · obtain ⟨h1, h2⟩ := hlt
        obtain ⟨b1, o1, rfl, hb1, hc1⟩ := unhide HC (by omega)
        have g1 := hc1 k h1
        clear hc1
        have HS := hide (getFrom_step bs k V (by have := HL.out; omega) h2)
        generalize bs.getD k 0 = c at g1 HS
        obtain ⟨d, X, V', q1, q2, q3, q4, q5, HV', HVL, q6⟩ := get_step c k V h2 HV.out
        have hki : (k : Int) < 9 := by omega
        have hkl : (k : Int) < (len : Int) := by omega
        by_cases hc : c.toNat < 128
        · by_cases h0 : c.toNat = 0 ∧ 0 < k
          · have HE : Hid (get bs = (0, 0, 21)) := by
              have := HG.out
              rw [HS.out, if_pos hc, if_pos h0] at this
              exact this.symm
            obtain ⟨h01, h02⟩ := h0
            go_wp2
            go_ret3
            exact ⟨ret3 HE.out rfl rfl rfl, Below.refl _ _⟩
          · have HE : Hid (get bs = (V', k + 1, 0)) := by
              have := HG.out
              rw [HS.out, if_pos hc, if_neg h0] at this
              have e := HV'.out
              rw [Nat.mod_eq_of_lt hc] at e
              rw [e]
              exact this.symm
            by_cases h01 : c.toNat = 0
            · have h02 : ¬ 0 < k := by omega
              have h04 : ((c.toNat : Int) == 0) = true := by rw [beq_iff_eq]; omega
              clear h01
              have h03 : ((k : Nat) : Int) ≤ 0 := by omega
              go_wp2
              go_ret3
              exact ⟨ret3 HE.out rfl (by omega) rfl, Below.refl _ _⟩
            · have h02 : ((c.toNat : Int) == 0) = false := by rw [beq_eq_false_iff_ne]; omega
              go_wp2
              go_ret3
              exact ⟨ret3 HE.out rfl (by omega) rfl, Below.refl _ _⟩
        · have HE : Hid (getFrom (k + 1) V' (bs.drop (k + 1)) = get bs) := by
            have := HG.out
            rw [HS.out, if_neg hc] at this
            rw [HV'.out]
            exact this
          have hci : (128 : Int) ≤ (c.toNat : Int) := by omega
          go_wp2
          go_roundw
          case rel => exact ⟨k + 1, V', by omega, by omega, by go_num, rfl, HVL, HE, by first | trivial | rfl⟩
          case measure => simp [intOf]; omega
      · have HE : Hid (get bs = if len < 9 then (0, 0, 20) else (0, 0, 21)) := by
          have h := HG.out
          have hl := HL.out
          show get bs = _
          rw [← h]
          by_cases hn : len < 9
          · rw [if_pos hn, show bs.drop k = [] from List.drop_eq_nil_of_le (by omega)]
            simp only [getFrom]; rw [if_neg (by omega)]
          · rw [if_neg hn]
            cases bs.drop k with
            | nil => simp only [getFrom]; rw [if_pos (by omega)]
            | cons x xs => simp only [getFrom]; rw [if_pos (by omega)]
        by_cases hn : len < 9
        · have hE2 : Hid (get bs = (0, 0, 20)) := by have := HE.out; rw [if_pos hn] at this; exact this
          have hki : ¬ (k : Int) < (len : Int) := by omega
          clear HE
          first
          | (exfalso; omega)
          | (go_wp2
             go_ret3
             exact ⟨ret3 hE2.out rfl rfl rfl, Below.refl _ _⟩)
        · have hE2 : Hid (get bs = (0, 0, 21)) := by have := HE.out; rw [if_neg hn] at this; exact this
          have hki : ¬ (k : Int) < 9 := by omega
          clear HE
          go_wp2
          go_ret3
          exact ⟨ret3 hE2.out rfl rfl rfl, Below.refl _ _⟩
end Go.Proofs.YthdblnfohbldcaaGreat.Nums
