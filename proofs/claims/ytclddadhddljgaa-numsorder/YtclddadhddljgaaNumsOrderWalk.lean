/-
  The walk of the statement NumsOrder.
-/
import Derived.Test.YtclddadhddljgaaNumsOrd
import Derived.Test.YtclddadhddljgaaNumsHead
import Derived.Deep.DeepCutAuto
import Derived.Deep.CutRange
import Derived.BigQuiet
import Derived.Lib.Strings
namespace Go.Proofs.Ytclddadhddljgaa.numsOrder
open Go.ChangeShapes Go.WideShapes Go.ChangeAt Go.RowKit
open Go.Proofs.Ytclddadhddljgaa.Base Go.Proofs.Ytclddadhddljgaa.Nums
set_option linter.unusedVariables false
theorem extract_take (s : ByteArray) (k : Nat) : txt (s.extract 0 k) = (txt s).take k := by
  unfold txt; rw [Lib.extract_data]; rfl
theorem extract_from (s : ByteArray) (k : Nat) : txt (s.extract k s.size) = (txt s).drop k := by
  have h := length_txt s
  unfold txt at h ⊢; rw [Lib.extract_data, List.take_of_length_le (by rw [List.length_drop, h]; omega)]
theorem txt_append (s t : ByteArray) : txt (s ++ t) = txt s ++ txt t := by
  unfold txt; rw [ByteArray.data_append]; exact Array.toList_append
theorem txt_inj {s t : ByteArray} (h : txt s = txt t) : s = t := bytes_inj h
theorem eq_txt (s t : ByteArray) : (s.toList == t.toList) = (order (txt s) (txt t) == 0) := by
  rw [ByteArray.toList_eq, ByteArray.toList_eq]
  have h := order_zero (txt s) (txt t)
  by_cases e : txt s = txt t
  · rw [beq_iff_eq.2 (h.2 e)]; exact beq_iff_eq.2 e
  · rw [beq_eq_false_iff_ne.2 (fun x => e (h.1 x))]; exact beq_eq_false_iff_ne.2 e
theorem signs (X Y Z : Int) (hX : X = -1 ∨ X = 0 ∨ X = 1) (hY : Y = -1 ∨ Y = 0 ∨ Y = 1) (hZ : Z = -1 ∨ Z = 0 ∨ Z = 1)
    (t1 : (X ≤ 0 → Y ≤ 0 → Z ≤ 0) ∧ (X < 0 → Y ≤ 0 → Z < 0) ∧ (X ≤ 0 → Y < 0 → Z < 0)) (t2 : (-Y ≤ 0 → -X ≤ 0 → -Z ≤ 0) ∧ (-Y < 0 → -X ≤ 0 → -Z < 0) ∧ (-Y ≤ 0 → -X < 0 → -Z < 0)) :
    (X = -1 ∧ Y ≤ 0 ∧ Z < 0) ∨ (X = -1 ∧ 0 < Y) ∨ (X = 0 ∧ Y < 0 ∧ Z < 0) ∨ (X = 0 ∧ Y = 0 ∧ Z = 0) ∨ (X = 0 ∧ 0 < Y ∧ 0 < Z) ∨ (X = 1 ∧ Y < 0) ∨ (X = 1 ∧ 0 ≤ Y ∧ 0 < Z) := by
  rcases hX with rfl | rfl | rfl <;> rcases hY with rfl | rfl | rfl <;> rcases hZ with rfl | rfl | rfl <;> simp at t1 t2 ⊢
set_option maxHeartbeats 4000000 in
set_option maxRecDepth 200000 in
theorem walk (s0 s1 s2 : ByteArray) (w : World) (z0 : s0.size ≤ 140737488351232) (z1 : s1.size ≤ 140737488351232) (z2 : s2.size ≤ 140737488351232) :
    Calls Try.prog 6 #[.string s0, .string s1, .string s2] w fun e w' => e = .returned (.bool true) ∧ Below w.heap.size w w' := by
  have HT := hide (order_trans (txt s0) (txt s1) (txt s2))
  have HT2 := hide (order_trans (txt s2) (txt s1) (txt s0))
  have hX1 := order_range (txt s0) (txt s1)
  have hsw := order_swap (txt s0) (txt s1)
  have hsw2 := hide (order_swap (txt s1) (txt s2))
  have hsw3 := hide (order_swap (txt s0) (txt s2))
  have heq := eq_txt s0 s1
  have HSW := hide hsw
  have HEQ := hide heq
  clear hsw heq
  go_enter Try.func6, Try.ntmps6
  go_wp2_with fail
  refine (compare_any _ _ _ (by omega) (by omega)).mono ?_
  rintro e w1 ⟨rfl, hb⟩
  have HB1 := hide hb
  clear hb
  go_wp2_with fail
  refine (compare_any _ _ _ (by omega) (by omega)).mono ?_
  rintro e w2 ⟨rfl, hb⟩
  have HB2 := hide (below_trans HB1.out hb)
  clear hb HB1
  go_wp2_with fail
  refine (compare_any _ _ _ (by omega) (by omega)).mono ?_
  rintro e w3 ⟨rfl, hb⟩
  have HB3 := hide (below_trans HB2.out hb)
  clear hb HB2
  go_wp2_with fail
  refine (compare_any _ _ _ (by omega) (by omega)).mono ?_
  rintro e w4 ⟨rfl, hb⟩
  have HB4 := hide (below_trans HB3.out hb)
  clear hb HB3
  rw [HSW.out]
  have hEE := HEQ.out
  generalize hX : order (txt s0) (txt s1) = X at hEE hX1
  generalize hY : order (txt s1) (txt s2) = Y
  generalize hZ : order (txt s0) (txt s2) = Z
  have HX := hide hX
  have HY := hide hY
  have HZ := hide hZ
  clear hX hY hZ HSW HEQ
  have hcases : (X = -1 ∧ Y ≤ 0 ∧ Z < 0) ∨ (X = -1 ∧ 0 < Y) ∨ (X = 0 ∧ Y < 0 ∧ Z < 0) ∨ (X = 0 ∧ Y = 0 ∧ Z = 0) ∨ (X = 0 ∧ 0 < Y ∧ 0 < Z) ∨ (X = 1 ∧ Y < 0) ∨ (X = 1 ∧ 0 ≤ Y ∧ 0 < Z) := by
    have t1 := HT.out
    have t2 := HT2.out
    have a1 := hsw2.out
    have a2 := hsw3.out
    have a3 := order_swap (txt s0) (txt s1)
    rw [a1, a2, a3, HX.out, HY.out, HZ.out] at t2
    rw [HX.out, HY.out, HZ.out] at t1
    have r2 := order_range (txt s1) (txt s2)
    have r3 := order_range (txt s0) (txt s2)
    rw [HY.out] at r2
    rw [HZ.out] at r3
    exact signs X Y Z hX1 r2 r3 t1 t2
  clear HT HT2 hsw2 hsw3 hX1
  have HK := hide (common_sizes s0 s1)
  go_upto_region 6 with fail
  go_cut [75] from 42 to 75 (fun c wx => c = .bool false ∧ wx = w4)
  case first =>
    rcases hcases with ⟨rfl, h1, h2⟩ | ⟨rfl, h1⟩ | ⟨rfl, h1, h2⟩ | ⟨rfl, rfl, rfl⟩ | ⟨rfl, h1, h2⟩ | ⟨rfl, h1⟩ | ⟨rfl, h1, h2⟩
    all_goals
      go_wp2_with fail
      go_meet
      exact ⟨by first | rfl | exact congrArg Value.bool (by simp; omega), rfl⟩
  case rest =>
    obtain ⟨rfl, rfl⟩ := hcut
    clear hcases
    go_wp2_with fail
    refine (common_any _ _ _ (by omega) (by omega)).mono ?_
    rintro e w5 ⟨rfl, hb⟩
    have HB5 := hide (below_trans HB4.out hb)
    clear hb HB4
    have HC := hide (common_take (txt s0) (txt s1))
    have HP := hide (fun (h1 : common (txt s0) (txt s1) < s0.size) (h2 : common (txt s0) (txt s1) < s1.size) => show ((s0[common (txt s0) (txt s1)].toNat : Int) == (s1[common (txt s0) (txt s1)].toNat : Int)) = false from by
      have := common_part (txt s0) (txt s1) (by rw [length_txt]; exact h1) (by rw [length_txt]; exact h2)
      rw [txt_get s0 _ h1, txt_get s1 _ h2] at this
      have := u8_ne this
      rw [beq_eq_false_iff_ne]; omega)
    obtain ⟨hk0, hk1⟩ := HK.out
    have HD := hide (order_common (txt s0) (txt s1))
    have HA := hide (order_app (txt s2) (txt s0) (txt s1))
    have HM := hide (common_app (txt s2) (txt s0) (txt s1))
    generalize common (txt s0) (txt s1) = k at HC HP hk0 hk1 HD HM
    have hkk : (0 : Int) ≤ (k : Int) := by omega
    have hkk0 : (k : Int) ≤ (s0.size : Int) := by omega
    have hkk1 : (k : Int) ≤ (s1.size : Int) := by omega
    have hst : ((s0.extract 0 k).toList == (s1.extract 0 k).toList) = true := by
      rw [ByteArray.toList_eq, ByteArray.toList_eq, beq_iff_eq]; show txt _ = txt _; rw [extract_take, extract_take]; exact HC.out
    have pz : decide ((k : Int) < 0) = false := by rw [decide_eq_false_iff_not]; omega
    have p0 : decide (s0.size < k) = false := by simpa using hk0
    have p1 : decide (s1.size < k) = false := by simpa using hk1
    have p2 : decide ((s0.size : Int) < (k : Int)) = false := by simpa using hk0
    have p3 : decide ((s1.size : Int) < (k : Int)) = false := by simpa using hk1
    go_upto_region 9 with fail
    go_cut [122] from 79 to 122 (fun c wx => c = .bool false ∧ ∃ n, wx = w5.drewN n)
    case first =>
      by_cases e0 : k < s0.size
      · have d0 : decide ((k : Int) < (s0.size : Int)) = true := by simpa using e0
        have p4 : decide (k < s0.size) = true := by simpa using e0
        have e0i : (k : Int) < (s0.size : Int) := by omega
        by_cases e1 : k < s1.size
        · have d1 : decide ((k : Int) < (s1.size : Int)) = true := by simpa using e1
          have p5 : decide (k < s1.size) = true := by simpa using e1
          have e1i : (k : Int) < (s1.size : Int) := by omega
          have hq := HP.out e0 e1
          go_wp2
          go_quiet (fail)
          go_wp2
          go_meet
          exact ⟨rfl, _, rfl⟩
        · have d1 : decide ((k : Int) < (s1.size : Int)) = false := by simpa using e1
          have p5 : decide (k < s1.size) = false := by simpa using e1
          go_wp2
          go_quiet (fail)
          go_wp2
          go_meet
          exact ⟨rfl, _, rfl⟩
      · have d0 : decide ((k : Int) < (s0.size : Int)) = false := by simpa using e0
        have p4 : decide (k < s0.size) = false := by simpa using e0
        go_wp2
        go_quiet (fail)
        go_wp2
        go_meet
        exact ⟨rfl, _, rfl⟩
    case rest =>
      obtain ⟨rfl, nn, rfl⟩ := hcut
      have C1 : Hid (∀ W, Calls Try.prog 21 #[.string (s0.extract k s0.size), .string (s1.extract k s1.size)] W fun e w' => e = .returned (.int .i64 X) ∧ Below W.heap.size W w') := by
        intro W
        have h := compare_any (s0.extract k s0.size) (s1.extract k s1.size) W (by have := length_txt (s0.extract k s0.size); rw [extract_from, List.length_drop, length_txt] at this; omega) (by have := length_txt (s1.extract k s1.size); rw [extract_from, List.length_drop, length_txt] at this; omega)
        rw [extract_from, extract_from, HD.out, HX.out] at h
        exact h
      have C2 : Hid (∀ W, Calls Try.prog 21 #[.string (s2 ++ s0), .string (s2 ++ s1)] W fun e w' => e = .returned (.int .i64 X) ∧ Below W.heap.size W w') := by
        intro W
        have h := compare_any (s2 ++ s0) (s2 ++ s1) W (by rw [ByteArray.size_append]; omega) (by rw [ByteArray.size_append]; omega)
        rw [txt_append, txt_append, HA.out, HX.out] at h
        exact h
      have C3 : Hid (∀ W, Calls Try.prog 22 #[.string (s2 ++ s0), .string (s2 ++ s1)] W fun e w' => e = .returned (.int .i64 ((s2.size : Int) + (k : Int))) ∧ Below W.heap.size W w') := by
        intro W
        have h := common_any (s2 ++ s0) (s2 ++ s1) W (by rw [ByteArray.size_append]; omega) (by rw [ByteArray.size_append]; omega)
        rw [txt_append, txt_append, HM.out, length_txt, Int.natCast_add] at h
        exact h
      clear HC HP HD HA HM hst p0 p1 p2 p3 pz HK HX HY HZ
      have y1 : (s2.size : Int) + (s0.size : Int) ≤ 9223372036854775807 := by omega
      have y2 : (s2.size : Int) + (s1.size : Int) ≤ 9223372036854775807 := by omega
      have q1 : (X == X) = true := by simp
      obtain ⟨m, hm, hmb⟩ : ∃ m : Nat, (s2.size : Int) + (k : Int) = (m : Int) ∧ (m : Int) ≤ 281474976702464 := ⟨s2.size + k, by omega, by omega⟩
      rw [hm] at C3
      have hwr : IntKind.i64.wrap (m : Int) = (m : Int) := by rw [IntKind.wrap_i64]; omega
      have q2 : ((m : Int) == (m : Int)) = true := by simp
      go_wp2_with fail
      go_region_held (fun _ => True) (trivial) (first
        | (go_at_call 9; refine (head_any _).mono ?_; rintro e v4 ⟨rfl, hbh⟩; have HBh := hide (below_trans HBc.out hbh); clear hbh)
        | (go_at_call 22; refine (C3.out _).mono ?_; rintro e v3 ⟨rfl, hbc⟩; have HBc := hide (below_trans HBb.out hbc); clear hbc)
        | (go_at_call_of 21 (Value.string (s2 ++ s0)); refine (C2.out _).mono ?_; rintro e v2 ⟨rfl, hbb⟩; have HBb := hide (below_trans HBa.out hbb); clear hbb)
        | (go_at_call_of 21 (Value.string (s0.extract k s0.size)); refine (C1.out _).mono ?_; rintro e v1 ⟨rfl, hba⟩; have HBa := hide (below_trans (by first | exact below_drewN HB5.out _ | exact (below_drewN HB5.out _).drew) hba); clear hba))
      all_goals
        go_wp2_with fail
        go_ret
        exact ⟨rfl, HBh.out⟩
end Go.Proofs.Ytclddadhddljgaa.numsOrder
