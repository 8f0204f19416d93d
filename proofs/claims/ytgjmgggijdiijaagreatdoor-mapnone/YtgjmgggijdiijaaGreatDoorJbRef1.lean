/-
  The document's Decimal and Number.
-/
import Derived.Test.YtgjmgggijdiijaaGreatDoorJbShelf
import Derived.Laws.Concat
namespace Go.Proofs.YtgjmgggijdiijaaGreatDoor.Jb
open Go.ChangeShapes Go.WideShapes Go.ChangeAt Go.RowKit
open Go.Lib hiding intOf
open Go.Proofs.YtgjmgggijdiijaaGreatDoor.Base
set_option linter.unusedVariables false
theorem dec_zero : dec 0 = ⟨#[48]⟩ := by
  unfold dec itoa decDigits
  rfl
theorem bytes_ext {a b : ByteArray} (h : a.data.toList = b.data.toList) : a = b := by
  cases a; cases b
  simp only [ByteArray.mk.injEq]
  exact Array.toList_inj.1 h
theorem dec_list (v : Int) : (dec v).data.toList = itoa v := by unfold dec; simp
theorem dec_neg {v : Int} (h : v < 0) (acc : ByteArray) (ha : dg v.natAbs = acc.data.toList) : (⟨#[45]⟩ ++ acc : ByteArray) = dec v := by
  apply bytes_ext
  rw [dec_list, itoa_dg v (by omega), if_pos h, ha]
  simp [ByteArray.data_append]
theorem dec_pos {v : Int} (h : ¬ v < 0) (h0 : v ≠ 0) (acc : ByteArray) (ha : dg v.natAbs = acc.data.toList) : acc = dec v := by
  apply bytes_ext
  rw [dec_list, itoa_dg v h0, if_neg h, ha]
  rfl
theorem rem_neg (u : Nat) : (-(u : Int)).tmod 10 = -((u % 10 : Nat) : Int) := by
  rw [Int.neg_tmod]; rfl
theorem quo_neg (u : Nat) : (-(u : Int)).tdiv 10 = -((u / 10 : Nat) : Int) := by
  rw [Int.neg_tdiv]; rfl
theorem rem_pos (u : Nat) : ((u : Int)).tmod 10 = ((u % 10 : Nat) : Int) := rfl
theorem quo_pos (u : Nat) : ((u : Int)).tdiv 10 = ((u / 10 : Nat) : Int) := rfl
theorem enc_digit : ∀ m : Nat, m < 10 → ∃ D : ByteArray, Utf8.encode (48 + (m : Int)) = D ∧ D.size = 1 ∧ D.data.toList = [UInt8.ofNat (48 + m)]
  | 0, _ => ⟨_, rfl, rfl, rfl⟩
  | 1, _ => ⟨_, rfl, rfl, rfl⟩
  | 2, _ => ⟨_, rfl, rfl, rfl⟩
  | 3, _ => ⟨_, rfl, rfl, rfl⟩
  | 4, _ => ⟨_, rfl, rfl, rfl⟩
  | 5, _ => ⟨_, rfl, rfl, rfl⟩
  | 6, _ => ⟨_, rfl, rfl, rfl⟩
  | 7, _ => ⟨_, rfl, rfl, rfl⟩
  | 8, _ => ⟨_, rfl, rfl, rfl⟩
  | 9, _ => ⟨_, rfl, rfl, rfl⟩
  | m + 10, h => absurd h (by omega)
def encD (m : Nat) : ByteArray := Utf8.encode (48 + (m : Int))
theorem encD_list (m : Nat) (h : m < 10) : (encD m).data.toList = [UInt8.ofNat (48 + m)] := by
  obtain ⟨D, h1, _, h2⟩ := enc_digit m h
  unfold encD; rw [h1]; exact h2
theorem encD_size (m : Nat) (h : m < 10) : (Utf8.encode (48 + (m : Int))).size = 1 := by
  obtain ⟨D, h1, h2, _⟩ := enc_digit m h
  rw [h1]; exact h2
theorem dg_len {v : Int} (hv : In64 v) (h0 : v ≠ 0) : (dg v.natAbs).length ≤ 21 := by
  have h := Lib.itoa_length_le v hv.1 hv.2
  rw [itoa_dg v h0, List.length_append] at h
  omega
/-- One digit more. -/
theorem dg_more {v : Int} {u m q : Nat} {acc D : ByteArray} (hu : u ≠ 0) (hm : u % 10 = m) (hq : u / 10 = q) (h : dg v.natAbs = dg u ++ acc.data.toList) (hD : D.data.toList = [UInt8.ofNat (48 + m)]) : dg v.natAbs = dg q ++ (D ++ acc).data.toList := by
  rw [h, dg_step u hu, hm, hq, ByteArray.data_append, Array.toList_append, hD, List.append_assoc]
theorem acc_len {v : Int} (hv : In64 v) (h0 : v ≠ 0) {u : Nat} {acc : ByteArray} (h : dg v.natAbs = dg u ++ acc.data.toList) : acc.size ≤ 21 := by
  have h1 := dg_len hv h0
  rw [h, List.length_append] at h1
  have e : acc.size = acc.data.toList.length := by rw [Array.length_toList]; rfl
  omega
set_option maxHeartbeats 1000000 in
set_option maxRecDepth 100000 in
theorem decimal_any (v : Int) (hv : In64 v) (w : World) :
    Calls Tryz.prog 25 #[.int .i64 v] w fun e w' => e = .returned (.string (dec v)) ∧ w' = w := by
  have HV := hide hv
  obtain ⟨hv0, hv1⟩ := hv
  go_enter Tryz.func25, Tryz.ntmps25
  by_cases h0 : v = 0
  · subst h0
    have HD := hide dec_zero
    go_wp2_with fail
    go_ret
    exact ⟨by rw [HD.out]; rfl, rfl⟩
  · by_cases hn : v < 0
    · have HN := hide hn
      have hvz : (v == 0) = false := by simp [h0]
      go_wp2_with fail
      go_loopw [0, 3, 5] (fun s0 s3 s5 wr => ∃ (u : Nat) (acc : ByteArray) (d : Value), u ≤ 9223372036854775808 ∧ acc.size ≤ 21 ∧ .int .i64 (-(u : Int)) = s0 ∧ .string acc = s3 ∧ d = s5 ∧ Hid (dg v.natAbs = dg u ++ acc.data.toList) ∧ wr = w) (fun s0 _ _ _ => (intOf s0).natAbs)
      case atStart => exact ⟨v.natAbs, ⟨#[]⟩, _, by omega, by decide, by congr 1; omega, rfl, rfl, by show _ = _; simp, rfl⟩
      case round =>
        obtain ⟨u, acc, d, hu, ha, rfl, rfl, rfl, HA, rfl⟩ := hrel
        by_cases hz : u = 0
        · subst hz
          go_wp2_with fail
          go_ret
          have h := HA.out
          exact ⟨by rw [← dec_neg HN.out acc (by simpa [dg] using h)]; rfl, rfl⟩
        · obtain ⟨m, hm⟩ : ∃ m, u % 10 = m := ⟨_, rfl⟩
          obtain ⟨q, hq⟩ : ∃ q, u / 10 = q := ⟨_, rfl⟩
          have HM := hide (dg_more hz hm hq HA.out (encD_list m (by omega)))
          have hr := rem_neg u
          have ht := quo_neg u
          rw [hm] at hr
          rw [hq] at ht
          have hnz : ¬ (-(u : Int)) = 0 := by omega
          have hqu : q < u := by omega
          have hm9 : m ≤ 9 := by omega
          have hq9 : q ≤ 922337203685477580 := by omega
          have HZ := hide hz
          have HU := hide hu
          have HQ := hide hqu
          clear hm hq hz HA hu hqu
          rcases Nat.eq_zero_or_pos m with h0m | h0m
          · subst h0m
            go_wp2_with fail
            all_goals first
              | (exfalso; have h9 : (Utf8.encode 48).size = 1 := encD_size 0 (by omega); omega)
              | (go_roundw
                 case rel => exact ⟨q, encD 0 ++ acc, _, by have := HU.out; have := HQ.out; omega, acc_len HV.out h0 HM.out, rfl, rfl, rfl, HM.out, by first | rfl | trivial⟩
                 case measure => have := HQ.out; simp [intOf]; omega)
          · go_wp2_with fail
            all_goals first
              | (exfalso; have h9 := encD_size m (by omega); omega)
              | (go_roundw
                 case rel => exact ⟨q, encD m ++ acc, _, by have := HU.out; have := HQ.out; omega, acc_len HV.out h0 HM.out, rfl, rfl, rfl, HM.out, by first | rfl | trivial⟩
                 case measure => have := HQ.out; simp [intOf]; omega)
    · have HN := hide hn
      go_wp2_with fail
      go_loopw [0, 3, 5] (fun s0 s3 s5 wr => ∃ (u : Nat) (acc : ByteArray) (d : Value), u ≤ 9223372036854775808 ∧ acc.size ≤ 21 ∧ .int .i64 (u : Int) = s0 ∧ .string acc = s3 ∧ d = s5 ∧ Hid (dg v.natAbs = dg u ++ acc.data.toList) ∧ wr = w) (fun s0 _ _ _ => (intOf s0).natAbs)
      case atStart => exact ⟨v.natAbs, ⟨#[]⟩, _, by omega, by decide, by congr 1; omega, rfl, rfl, by show _ = _; simp, rfl⟩
      case round =>
        obtain ⟨u, acc, d, hu, ha, rfl, rfl, rfl, HA, rfl⟩ := hrel
        by_cases hz : u = 0
        · subst hz
          go_wp2_with fail
          go_ret
          have h := HA.out
          exact ⟨by rw [← dec_pos (by have := HN.out; omega) h0 acc (by simpa [dg] using h)]; rfl, rfl⟩
        · obtain ⟨m, hm⟩ : ∃ m, u % 10 = m := ⟨_, rfl⟩
          obtain ⟨q, hq⟩ : ∃ q, u / 10 = q := ⟨_, rfl⟩
          have HM := hide (dg_more hz hm hq HA.out (encD_list m (by omega)))
          have hr := rem_pos u
          have ht := quo_pos u
          rw [hm] at hr
          rw [hq] at ht
          have hnz : ¬ (u : Int) = 0 := by omega
          have hqu : q < u := by omega
          have hm9 : m ≤ 9 := by omega
          have hq9 : q ≤ 922337203685477580 := by omega
          have HZ := hide hz
          have HU := hide hu
          have HQ := hide hqu
          clear hm hq hz HA hu hqu
          rcases Nat.eq_zero_or_pos m with h0m | h0m
          · subst h0m
            go_wp2_with fail
            all_goals first
              | (exfalso; have h9 : (Utf8.encode 48).size = 1 := encD_size 0 (by omega); omega)
              | (go_roundw
                 case rel => exact ⟨q, encD 0 ++ acc, _, by have := HU.out; have := HQ.out; omega, acc_len HV.out h0 HM.out, rfl, rfl, rfl, HM.out, by first | rfl | trivial⟩
                 case measure => have := HQ.out; simp [intOf]; omega)
          · go_wp2_with fail
            all_goals first
              | (exfalso; have h9 := encD_size m (by omega); omega)
              | (go_roundw
                 case rel => exact ⟨q, encD m ++ acc, _, by have := HU.out; have := HQ.out; omega, acc_len HV.out h0 HM.out, rfl, rfl, rfl, HM.out, by first | rfl | trivial⟩
                 case measure => have := HQ.out; simp [intOf]; omega)
end Go.Proofs.YtgjmgggijdiijaaGreatDoor.Jb
