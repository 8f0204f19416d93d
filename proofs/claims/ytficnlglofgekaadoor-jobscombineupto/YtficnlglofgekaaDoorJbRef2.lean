/-
  The document's Number.
-/
import Derived.Test.YtficnlglofgekaaDoorJbRef1
namespace Go.Proofs.YtficnlglofgekaaDoor.Jb
open Go.ChangeShapes Go.WideShapes Go.ChangeAt Go.RowKit
open Go.Lib hiding intOf
open Go.Proofs.YtficnlglofgekaaDoor.Base
set_option linter.unusedVariables false
theorem wrap_in64 (z : Int) : In64 (IntKind.i64.wrap z) := by
  rw [IntKind.wrap_i64]; constructor <;> omega
/-- What the loop leads to. -/
theorem num_loop {l : List UInt8} {k : Nat} {v v' : Int} (hk : signOf l = k) (hv : v = (l.drop k).foldl nstep 0) (hv' : v' = if k = 1 then v else IntKind.i64.wrap (-v)) (hi : In64 v') : num l = if itoa v' = l then some v' else none := by
  by_cases h : itoa v' = l
  · rw [if_pos h]; exact (num_iff _ _).2 ⟨hi, h⟩
  · rw [if_neg h]
    apply num_none
    intro u hu e
    apply h
    obtain ⟨_, _, _, h4, h5⟩ := itoa_parts u hu
    rw [e, hk] at h4 h5
    have : u = v' := by
      rw [hv', hv]
      by_cases q : k = 1
      · rw [if_pos q]; subst q; exact (h4 rfl).symm
      · rw [if_neg q]
        have hk0 : k = 0 := by unfold signOf at hk; split at hk <;> omega
        subst hk0
        exact (h5 rfl).symm
    rw [← this]; exact e
theorem num_nondig {l : List UInt8} {k i : Nat} (hk : signOf l = k) (h1 : k ≤ i) (h2 : i < l.length) (h : isDig (l.getD i 0) = false) : num l = none := by
  apply num_none
  intro u hu e
  obtain ⟨_, _, h3, _, _⟩ := itoa_parts u hu
  rw [e, hk] at h3
  have hm : l.getD i 0 ∈ l.drop k := by
    rw [List.getD_eq_getElem?_getD, List.getElem?_eq_getElem h2]
    show l[i] ∈ _
    have : l[i] = (l.drop k)[i - k]'(by rw [List.length_drop]; omega) := by rw [List.getElem_drop]; congr 1; omega
    rw [this]; exact List.getElem_mem _
  rw [h3 _ hm] at h; cases h
theorem num_short {l : List UInt8} {k : Nat} (hk : signOf l = k) (h : l.length = k ∨ 20 < l.length) : num l = none := by
  apply num_none
  intro u hu e
  obtain ⟨h1, h2, _⟩ := itoa_parts u hu
  rw [e, hk] at h1
  rw [e] at h2
  omega
/-- The answer. -/
def numV (s : ByteArray) : Value := .tuple #[.int .i64 ((num s.data.toList).getD 0), .bool (num s.data.toList).isSome]
theorem numV_none {s : ByteArray} (h : num s.data.toList = none) : numV s = .tuple #[.int .i64 0, .bool false] := by unfold numV; rw [h]; rfl
theorem numV_some {s : ByteArray} {v : Int} (h : num s.data.toList = some v) : numV s = .tuple #[.int .i64 v, .bool true] := by unfold numV; rw [h]; rfl
theorem dec_eq_iff (v : Int) (s : ByteArray) : ((dec v).toList == s.toList) = decide (itoa v = s.data.toList) := by
  rw [Bool.eq_iff_iff, decide_eq_true_eq, beq_iff_eq, ByteArray.toList_eq, ByteArray.toList_eq, dec_list]
theorem bt_list (s : ByteArray) (i : Nat) (h : i < s.size) : s.data.toList.getD i 0 = s[i]'h := by
  have h' : i < s.data.toList.length := by rw [Array.length_toList]; exact h
  rw [List.getD_eq_getElem?_getD, List.getElem?_eq_getElem h']
  rfl
theorem size_list (s : ByteArray) : s.data.toList.length = s.size := by rw [Array.length_toList]; rfl
theorem take_more (l : List UInt8) (k i : Nat) (h1 : k ≤ i) (h2 : i < l.length) : ((l.drop k).take (i + 1 - k)) = (l.drop k).take (i - k) ++ [l.getD i 0] := by
  have hl : i - k < (l.drop k).length := by rw [List.length_drop]; omega
  rw [show i + 1 - k = (i - k) + 1 by omega, List.take_succ_eq_append_getElem hl, List.getElem_drop, List.getD_eq_getElem?_getD, List.getElem?_eq_getElem h2]
  congr 2
  simp only [Option.getD_some]
  congr 1; omega
set_option maxHeartbeats 2000000 in
set_option maxRecDepth 100000 in
theorem rnumber_any (s : ByteArray) (w : World) (hs : s.size ≤ 1099511627776) :
    Calls Tryd.prog 28 #[.string s] w fun e w' => e = .returned (numV s) ∧ w' = w := by
  have HSL := hide (size_list s)
  go_enter Tryd.func28, Tryd.ntmps28
  by_cases hz : s.size = 0
  · have HN : Hid (numV s = .tuple #[.int .i64 0, .bool false]) := hide (numV_none (num_short (k := 0) (by
      have : s.data.toList = [] := List.length_eq_zero_iff.1 (by rw [HSL.out]; exact hz)
      rw [this]; rfl) (.inl (by rw [HSL.out]; exact hz))))
    have hz1 : ¬ (0 : Int) < (s.size : Int) := by omega
    have hz2 : ((s.size : Int) == 0) = true := by simp [hz]
    go_wp2_with fail
    go_ret2
    exact ⟨by rw [HN.out]; rfl, rfl⟩
  · have h0 : 0 < s.size := by omega
    have h0i : (0 : Int) < (s.size : Int) := by omega
    obtain ⟨c, hc⟩ : ∃ c : Nat, (s[0]'h0).toNat = c := ⟨_, rfl⟩
    have HC := hide hc
    by_cases h45 : c = 45
    · have HK : Hid (signOf s.data.toList = 1) := by
        show _ = _
        unfold signOf
        rw [if_pos]
        have e := bt_list s 0 h0
        have h2 : s.data.toList.head? = some (s.data.toList.getD 0 0) := by
          cases q : s.data.toList with
          | nil => have := HSL.out; rw [q] at this; simp at this; omega
          | cons a r => rfl
        rw [h2, e]
        congr 1
        apply UInt8.toNat_inj.1
        rw [HC.out, h45]; rfl
      subst h45
      by_cases hb : s.size = 1 ∨ 20 < s.size
      · have HN : Hid (numV s = .tuple #[.int .i64 0, .bool false]) := hide (numV_none (num_short HK.out (by rw [HSL.out]; exact hb)))
        rcases hb with hb | hb
        · have hb1 : ((s.size : Int) == 1) = true := by simp [hb]
          go_wp2_with fail
          go_ret2
          exact ⟨by rw [HN.out]; rfl, rfl⟩
        · have hb1 : ((s.size : Int) == 1) = false := beq_eq_false_iff_ne.2 (by omega)
          have hb2 : (20 : Int) < (s.size : Int) := by omega
          go_wp2_with fail
          go_ret2
          exact ⟨by rw [HN.out]; rfl, rfl⟩
      · have hb1 : ((s.size : Int) == 1) = false := beq_eq_false_iff_ne.2 (by omega)
        have hb2 : ¬ (20 : Int) < (s.size : Int) := by omega
        have hkn : 1 ≤ s.size := by omega
        have hsn : s.size ≤ 20 := by omega
        clear hb
        go_wp2_with fail
        go_loopw [5, 6] (fun s5 s6 wr => ∃ (i : Nat) (v : Int), 1 ≤ i ∧ i ≤ s.size ∧ .int .i64 (i : Int) = s6 ∧ .int .i64 v = s5 ∧ Hid (v = ((s.data.toList.drop 1).take (i - 1)).foldl nstep 0) ∧ Hid (In64 v) ∧ wr = w) (fun _ s6 _ => s.size - (intOf s6).toNat)
        case atStart => exact ⟨1, 0, by omega, hkn, rfl, rfl, by show _ = _; simp, ⟨by omega, by omega⟩, rfl⟩
        case round =>
          obtain ⟨i, v, hi1, hi2, rfl, rfl, HV, HI, rfl⟩ := hrel
          by_cases hin : i < s.size
          · have hii : (i : Int) < (s.size : Int) := by omega
            have hi0 : (0 : Int) ≤ (i : Int) := by omega
            obtain ⟨b, hbb⟩ : ∃ b : Nat, (s[i]'hin).toNat = b := ⟨_, rfl⟩
            have HBT := hide (bt_list s i hin)
            have hb255 : b ≤ 255 := by rw [← hbb]; have := UInt8.toNat_lt (s[i]'hin); omega
            by_cases hd : 48 ≤ b ∧ b ≤ 57
            · obtain ⟨hd1, hd2⟩ := hd
              obtain ⟨p, hp⟩ : ∃ p, IntKind.i64.wrap (v * 10) = p := ⟨_, rfl⟩
              obtain ⟨dd, hdd⟩ : ∃ dd : Nat, b - 48 = dd := ⟨_, rfl⟩
              obtain ⟨r, hr⟩ : ∃ r, IntKind.i64.wrap (p - (dd : Int)) = r := ⟨_, rfl⟩
              have HN2 : Hid (r = ((s.data.toList.drop 1).take (i + 1 - 1)).foldl nstep 0) := by
                show _ = _
                rw [take_more _ _ _ hi1 (by rw [HSL.out]; exact hin), List.foldl_append, ← HV.out, HBT.out]
                show r = nstep v (s[i]'hin)
                unfold nstep
                rw [hbb, hdd, hp, hr]
              have HI2 : Hid (In64 r) := by rw [← hr]; exact wrap_in64 _
              have hw1 : wrap64 (v * 10) = p := by rw [← IntWalk.i64_left]; exact hp
              have hw2 : wrap64 (p - (dd : Int)) = r := by rw [← IntWalk.i64_left]; exact hr
              have hw3 : (b : Int) - 48 = (dd : Int) := by omega
              have hd1i : ¬ (b : Int) < 48 := by omega
              have hd2i : ¬ (57 : Int) < (b : Int) := by omega
              have hdd9 : dd ≤ 9 := by omega
              clear HV HI hp hr
              go_wp2_with fail
              go_roundw
              case rel => exact ⟨i + 1, r, by omega, by omega, by go_num, by first | rfl | rw [hw2], HN2.out, HI2.out, by first | rfl | trivial⟩
              case measure => simp [intOf]; omega
            · have HN : Hid (numV s = .tuple #[.int .i64 0, .bool false]) := hide (numV_none (num_nondig HK.out hi1 (by rw [HSL.out]; exact hin) (by
                rw [HBT.out]; unfold isDig; rw [hbb]; exact decide_eq_false hd)))
              by_cases hd1 : b < 48
              · have hd1i : (b : Int) < 48 := by omega
                go_wp2_with fail
                go_ret2
                exact ⟨by rw [HN.out]; rfl, rfl⟩
              · have hd1i : ¬ (b : Int) < 48 := by omega
                have hd2i : (57 : Int) < (b : Int) := by omega
                go_wp2_with fail
                go_ret2
                exact ⟨by rw [HN.out]; rfl, rfl⟩
          · have hie : i = s.size := by omega
            subst hie
            have HVV : Hid (v = (s.data.toList.drop 1).foldl nstep 0) := by
              show _ = _
              rw [HV.out, List.take_of_length_le (by rw [List.length_drop, HSL.out]; exact Nat.le_refl _)]
            have HNL := hide (num_loop HK.out HVV.out (v' := v) rfl HI.out)
            have hde := dec_eq_iff v s
            by_cases hq : itoa v = s.data.toList
            · have HR : Hid (numV s = .tuple #[.int .i64 v, .bool true]) := hide (numV_some (by rw [HNL.out, if_pos hq]))
              have hdt : ((dec v).toList == s.toList) = true := by rw [hde]; exact decide_eq_true hq
              clear hde hq
              go_wp2_with (go_at_call 25; refine (decimal_any v HI.out _).mono ?_; rintro e w1 ⟨rfl, rfl⟩)
              go_ret2
              exact ⟨by rw [HR.out]; rfl, rfl⟩
            · have HR : Hid (numV s = .tuple #[.int .i64 0, .bool false]) := hide (numV_none (by rw [HNL.out, if_neg hq]))
              have hdt : ((dec v).toList == s.toList) = false := by rw [hde]; exact decide_eq_false hq
              clear hde hq
              go_wp2_with (go_at_call 25; refine (decimal_any v HI.out _).mono ?_; rintro e w1 ⟨rfl, rfl⟩)
              go_ret2
              exact ⟨by rw [HR.out]; rfl, rfl⟩
    · have HK : Hid (signOf s.data.toList = 0) := by
        show _ = _
        unfold signOf
        rw [if_neg]
        intro q
        have e := bt_list s 0 h0
        have h2 : s.data.toList.head? = some (s.data.toList.getD 0 0) := by
          cases q : s.data.toList with
          | nil => have := HSL.out; rw [q] at this; simp at this; omega
          | cons a r => rfl
        rw [h2, e] at q
        apply h45
        rw [← HC.out, Option.some.inj q]; rfl
      have h45i : ¬ (c : Int) = 45 := by omega
      by_cases hb : s.size = 0 ∨ 20 < s.size
      · have HN : Hid (numV s = .tuple #[.int .i64 0, .bool false]) := hide (numV_none (num_short HK.out (by rw [HSL.out]; exact hb)))
        rcases hb with hb | hb
        · have hb1 : ((s.size : Int) == 0) = true := by simp [hb]
          go_wp2_with fail
          go_ret2
          exact ⟨by rw [HN.out]; rfl, rfl⟩
        · have hb1 : ((s.size : Int) == 0) = false := beq_eq_false_iff_ne.2 (by omega)
          have hb2 : (20 : Int) < (s.size : Int) := by omega
          go_wp2_with fail
          go_ret2
          exact ⟨by rw [HN.out]; rfl, rfl⟩
      · have hb1 : ((s.size : Int) == 0) = false := beq_eq_false_iff_ne.2 (by omega)
        have hb2 : ¬ (20 : Int) < (s.size : Int) := by omega
        have hkn : 0 ≤ s.size := by omega
        have hsn : s.size ≤ 20 := by omega
        clear hb
        go_wp2_with fail
        go_loopw [5, 6] (fun s5 s6 wr => ∃ (i : Nat) (v : Int), 0 ≤ i ∧ i ≤ s.size ∧ .int .i64 (i : Int) = s6 ∧ .int .i64 v = s5 ∧ Hid (v = ((s.data.toList.drop 0).take (i - 0)).foldl nstep 0) ∧ Hid (In64 v) ∧ wr = w) (fun _ s6 _ => s.size - (intOf s6).toNat)
        case atStart => exact ⟨0, 0, by omega, hkn, rfl, rfl, by show _ = _; simp, ⟨by omega, by omega⟩, rfl⟩
        case round =>
          obtain ⟨i, v, hi1, hi2, rfl, rfl, HV, HI, rfl⟩ := hrel
          by_cases hin : i < s.size
          · have hii : (i : Int) < (s.size : Int) := by omega
            have hi0 : (0 : Int) ≤ (i : Int) := by omega
            obtain ⟨b, hbb⟩ : ∃ b : Nat, (s[i]'hin).toNat = b := ⟨_, rfl⟩
            have HBT := hide (bt_list s i hin)
            have hb255 : b ≤ 255 := by rw [← hbb]; have := UInt8.toNat_lt (s[i]'hin); omega
            by_cases hd : 48 ≤ b ∧ b ≤ 57
            · obtain ⟨hd1, hd2⟩ := hd
              obtain ⟨p, hp⟩ : ∃ p, IntKind.i64.wrap (v * 10) = p := ⟨_, rfl⟩
              obtain ⟨dd, hdd⟩ : ∃ dd : Nat, b - 48 = dd := ⟨_, rfl⟩
              obtain ⟨r, hr⟩ : ∃ r, IntKind.i64.wrap (p - (dd : Int)) = r := ⟨_, rfl⟩
              have HN2 : Hid (r = ((s.data.toList.drop 0).take (i + 1 - 0)).foldl nstep 0) := by
                show _ = _
                rw [take_more _ _ _ hi1 (by rw [HSL.out]; exact hin), List.foldl_append, ← HV.out, HBT.out]
                show r = nstep v (s[i]'hin)
                unfold nstep
                rw [hbb, hdd, hp, hr]
              have HI2 : Hid (In64 r) := by rw [← hr]; exact wrap_in64 _
              have hw1 : wrap64 (v * 10) = p := by rw [← IntWalk.i64_left]; exact hp
              have hw2 : wrap64 (p - (dd : Int)) = r := by rw [← IntWalk.i64_left]; exact hr
              have hw3 : (b : Int) - 48 = (dd : Int) := by omega
              have hd1i : ¬ (b : Int) < 48 := by omega
              have hd2i : ¬ (57 : Int) < (b : Int) := by omega
              have hdd9 : dd ≤ 9 := by omega
              clear HV HI hp hr
              go_wp2_with fail
              go_roundw
              case rel => exact ⟨i + 1, r, by omega, by omega, by go_num, by first | rfl | rw [hw2], HN2.out, HI2.out, by first | rfl | trivial⟩
              case measure => simp [intOf]; omega
            · have HN : Hid (numV s = .tuple #[.int .i64 0, .bool false]) := hide (numV_none (num_nondig HK.out hi1 (by rw [HSL.out]; exact hin) (by
                rw [HBT.out]; unfold isDig; rw [hbb]; exact decide_eq_false hd)))
              by_cases hd1 : b < 48
              · have hd1i : (b : Int) < 48 := by omega
                go_wp2_with fail
                go_ret2
                exact ⟨by rw [HN.out]; rfl, rfl⟩
              · have hd1i : ¬ (b : Int) < 48 := by omega
                have hd2i : (57 : Int) < (b : Int) := by omega
                go_wp2_with fail
                go_ret2
                exact ⟨by rw [HN.out]; rfl, rfl⟩
          · have hie : i = s.size := by omega
            subst hie
            have HVV : Hid (v = (s.data.toList.drop 0).foldl nstep 0) := by
              show _ = _
              rw [HV.out, List.take_of_length_le (by rw [List.length_drop, HSL.out]; exact Nat.le_refl _)]
            obtain ⟨y, hy⟩ : ∃ y, IntKind.i64.wrap (-v) = y := ⟨_, rfl⟩
            have HYI : Hid (In64 y) := by rw [← hy]; exact wrap_in64 _
            have HNL := hide (num_loop HK.out HVV.out (v' := y) (by rw [← hy]; rfl) HYI.out)
            have hw1 : wrap64 (-v) = y := by rw [← IntWalk.i64_left]; exact hy
            have hde := dec_eq_iff y s
            clear hy
            by_cases hq : itoa y = s.data.toList
            · have HR : Hid (numV s = .tuple #[.int .i64 y, .bool true]) := hide (numV_some (by rw [HNL.out, if_pos hq]))
              have hdt : ((dec y).toList == s.toList) = true := by rw [hde]; exact decide_eq_true hq
              clear hde hq
              go_wp2_with (go_at_call 25; refine (decimal_any y HYI.out _).mono ?_; rintro e w1 ⟨rfl, rfl⟩)
              go_ret2
              exact ⟨by rw [HR.out]; rfl, rfl⟩
            · have HR : Hid (numV s = .tuple #[.int .i64 0, .bool false]) := hide (numV_none (by rw [HNL.out, if_neg hq]))
              have hdt : ((dec y).toList == s.toList) = false := by rw [hde]; exact decide_eq_false hq
              clear hde hq
              go_wp2_with (go_at_call 25; refine (decimal_any y HYI.out _).mono ?_; rintro e w1 ⟨rfl, rfl⟩)
              go_ret2
              exact ⟨by rw [HR.out]; rfl, rfl⟩
end Go.Proofs.YtficnlglofgekaaDoor.Jb
