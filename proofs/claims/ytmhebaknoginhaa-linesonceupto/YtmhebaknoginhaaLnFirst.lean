/-
  firstLine, lineFrom, TrimSuffix of a line feed.
-/
import Derived.Test.YtmhebaknoginhaaLnMath
import Derived.Laws.RangeAny
import Derived.Lib.OthersKept
namespace Go.Proofs.Ytmhebaknoginhaa.Ln
open Go.ChangeShapes Go.WideShapes Go.ChangeAt Go.RowKit
open Go.Proofs.Ytmhebaknoginhaa.Base
set_option linter.unusedVariables false
theorem bt_get! (T : ByteArray) (i : Nat) (h : i < T.size) : T.get! i = bt T i := by
  rw [bt_get T i h]
  exact get_at T i h
theorem u8_ten (x : UInt8) : x.toNat = 10 ↔ x = 10 := by
  constructor
  · intro h; exact UInt8.toNat_inj.1 h
  · rintro rfl; rfl
/-- A rune of more than one byte holds no line feed. -/
theorem decode_cont (s : ByteArray) (pos : Nat) (h : pos < s.size) (ha : 128 ≤ (bt s pos).toNat) : pos + (Utf8.decode s pos).2 ≤ s.size ∧ 1 ≤ (Utf8.decode s pos).2 ∧ 128 ≤ (Utf8.decode s pos).1 ∧ ∀ k, k < (Utf8.decode s pos).2 → bt s (pos + k) ≠ 10 := by
  have hh := decode_high s pos h (by rw [← bt_get s pos h]; exact ha)
  refine ⟨?_, hh.2, hh.1, ?_⟩
  · simp only [Utf8.decode, Nat.add_zero, bt_get! s pos h]
    rw [if_neg (by omega)]
    repeat' split
    all_goals simp_all
    all_goals omega
  · intro k hk e
    have e' : (bt s (pos + k)).toNat = 10 := by rw [e]; rfl
    have h0 : k ≠ 0 := by rintro rfl; rw [Nat.add_zero] at e'; omega
    simp only [Utf8.decode, Nat.add_zero, bt_get! s pos h] at hk
    rw [if_neg (by omega)] at hk
    have hb : ∀ j, pos + j < s.size → s.get! (pos + j) = bt s (pos + j) := fun j hj => bt_get! s _ hj
    repeat' split at hk
    all_goals simp_all
    all_goals (try omega)
    · obtain rfl : k = 1 := by omega
      have := hb 1 (by omega)
      simp_all
    · rcases (by omega : k = 1 ∨ k = 2) with rfl | rfl
      · have := hb 1 (by omega)
        simp_all
      · have := hb 2 (by omega)
        simp_all
    · rcases (by omega : k = 1 ∨ k = 2 ∨ k = 3) with rfl | rfl | rfl
      · have := hb 1 (by omega)
        simp_all
      · have := hb 2 (by omega)
        simp_all
      · have := hb 3 (by omega)
        simp_all
theorem bt_toNat (s : ByteArray) (i : Nat) (h : i < s.size) : (s[i]'h).toNat = (bt s i).toNat := by rw [bt_get s i h]
set_option maxHeartbeats 1000000 in
set_option maxRecDepth 100000 in
theorem firstLine_any (s : ByteArray) (w : World) (hs : s.size ≤ 9223372036854775807) :
    Calls Try.prog 26 #[.string s] w fun e w' => e = .returned (.int .i64 (nx s 0 : Nat)) ∧ Below w.heap.size w w' := by
  go_enter Try.func26, Try.ntmps26
  go_wp2_with fail
  go_loopw [] (fun wr => ∃ (pos : Nat), pos ≤ s.size ∧ wr.heap[w.heap.size]? = some (.stringIter s pos) ∧ Below w.heap.size w wr ∧ (∀ i, i < pos → bt s i ≠ 10)) (fun wr => s.size - wr.iterPos w.heap.size)
  case atStart =>
    refine ⟨0, Nat.zero_le _, ?_, (Below.refl _ w).alloc (Nat.le_refl _) _, fun i h => absurd h (Nat.not_lt_zero _)⟩
    exact World.iter_heap w s 0
  case round =>
    obtain ⟨pos, hps, hit, hbw, hno⟩ := hrel
    have hsz : w.heap.size < wr.heap.size := (Array.getElem?_eq_some_iff.1 hit).1
    have HNO := hide hno
    clear hno
    by_cases hp : pos < s.size
    · by_cases ha : (bt s pos).toNat < 128
      · have hnx : ∀ ty, (Instr.next (.pointer (some ⟨w.heap.size, 0, none⟩)) true ty).run Try.prog wr = .ok (.tuple #[.bool true, .int .i64 pos, .int .i32 (bt s pos).toNat]) (wr.iterAt w.heap.size s (pos + 1)) := fun ty => by
          rw [Lib.run_next_ascii_at wr w.heap.size s pos ty hit hp (by rw [bt_toNat]; exact ha), bt_toNat]
        have hit2 := Lib.iterAt_heap wr w.heap.size s pos (pos + 1) hit
        have hbw2 := Lib.below_iterAt hbw (k := w.heap.size) (Nat.le_refl _) s (pos + 1)
        have HI2 := hide hit2
        have HB2 := hide hbw2
        have HI := hide hit
        clear hit2 hbw2 hit
        obtain ⟨c, hc⟩ : ∃ c : Nat, (bt s pos).toNat = c := ⟨_, rfl⟩
        rw [hc] at hnx
        have HC := hide hc
        clear hc ha
        by_cases h10 : c = 10
        · subst h10
          have HE : Hid (nx s 0 = pos + 1) := nx_uniq s 0 (pos + 1) (by omega) (by omega) (fun i _ h => HNO.out i (by omega)) (.inl ((u8_ten _).1 HC.out))
          have hpi : (pos : Int) + 1 ≤ 9223372036854775807 := by omega
          go_wp2_with fail
          go_ret
          exact ⟨ret_int (by rw [HE.out]; omega), HB2.out⟩
        · have h10' : (decide ((c : Int) = 10)) = false := by rw [decide_eq_false_iff_not]; omega
          have h10i : ¬ (c : Int) = 10 := by omega
          go_wp2_with fail
          go_roundw
          case rel =>
            refine ⟨pos + 1, by omega, HI2.out, HB2.out, fun i hi => ?_⟩
            by_cases e : i = pos
            · rw [e]; exact fun e2 => h10 (HC.out.symm.trans ((u8_ten _).2 e2))
            · exact HNO.out i (by omega)
          case measure =>
            simp only [World.iterPos, HI2.out, HI.out]
            omega
      · obtain ⟨d1, d2, d3, d4⟩ := decode_cont s pos hp (by omega)
        obtain ⟨r, wd, hrw⟩ : ∃ r wd, Utf8.decode s pos = (r, wd) := ⟨_, _, rfl⟩
        have hd := decode_le s pos
        rw [hrw] at d1 d2 d3 d4 hd
        simp only at d1 d2 d3 d4 hd
        have hnx : ∀ ty, (Instr.next (.pointer (some ⟨w.heap.size, 0, none⟩)) true ty).run Try.prog wr = .ok (.tuple #[.bool true, .int .i64 pos, .int .i32 (r : Nat)]) (wr.iterAt w.heap.size s (pos + wd)) := fun ty => by
          rw [Lib.run_next_any_at wr w.heap.size s pos ty hit hp, hrw]
        have HI2 := hide (Lib.iterAt_heap wr w.heap.size s pos (pos + wd) hit)
        have HB2 := hide (Lib.below_iterAt hbw (k := w.heap.size) (Nat.le_refl _) s (pos + wd))
        have HI := hide hit
        have HD4 := hide d4
        clear hit hrw ha d4
        have h10i : ¬ (r : Int) = 10 := by omega
        go_wp2_with fail
        go_roundw
        case rel =>
          refine ⟨pos + wd, d1, HI2.out, HB2.out, fun i hi => ?_⟩
          by_cases e : i < pos
          · exact HNO.out i e
          · have := HD4.out (i - pos) (by omega)
            rwa [show pos + (i - pos) = i by omega] at this
        case measure =>
          simp only [World.iterPos, HI2.out, HI.out]
          omega
    · have hnx : ∀ ty, (Instr.next (.pointer (some ⟨w.heap.size, 0, none⟩)) true ty).run Try.prog wr = .ok (.tuple #[.bool false]) wr := fun ty => Lib.run_next_end_at wr w.heap.size s pos ty hit hp
      have HE : Hid (nx s 0 = s.size) := by
        by_cases h0 : s.size = 0
        · rw [h0]; exact nx_end s 0 (by omega)
        · exact nx_uniq s 0 s.size (by omega) (Nat.le_refl _) (fun i _ h => HNO.out i (by omega)) (.inr rfl)
      go_wp2_with fail
      go_ret
      exact ⟨ret_int (by rw [HE.out]), hbw⟩
set_option maxHeartbeats 1000000 in
theorem lineFrom_any (s : ByteArray) (p : Nat) (w : World) (hs : s.size ≤ 9223372036854775807) (hp : p ≤ s.size) :
    Calls Try.prog 29 #[.string s, .int .i64 (p : Int)] w fun e w' => e = .returned (.int .i64 (lf s p : Nat)) ∧ Below w.heap.size w w' := by
  by_cases h0 : p = 0
  · subst h0
    go_enter Try.func29, Try.ntmps29
    go_wp2_with fail
    go_ret
    exact ⟨rfl, Below.refl _ _⟩
  · obtain ⟨q, rfl⟩ : ∃ q, p = q + 1 := ⟨p - 1, by omega⟩
    have hz : (s.extract q s.size).size = s.size - q := by rw [ByteArray.size_extract]; omega
    have HF := hide (firstLine_any (s.extract q s.size) w (by omega))
    have hx := nx_spec s q (by omega)
    have HE : Hid (nx (s.extract q s.size) 0 = nx s q - q) := nx_extract s q s.size 0 (Nat.le_refl _) (by omega) hx.2.1
    rw [HE.out] at HF
    have HG : Hid (lf s (q + 1) = nx s q) := by show lf s (q + 1) = _; unfold lf; rw [if_neg h0]; rfl
    obtain ⟨m, hm⟩ : ∃ m, nx s q = m := ⟨_, rfl⟩
    rw [hm] at HG HF hx
    rw [HG.out]
    obtain ⟨x1, x2, _⟩ := hx
    have hq : ((q + 1 : Nat) : Int) - 1 = (q : Int) := by omega
    have hqi : (q : Int) + 1 - 1 = (q : Int) := by omega
    have hne : ¬ ((q : Int) + 1 = 0) := by omega
    have hql : (q : Int) ≤ (s.size : Int) := by omega
    clear hm HE
    go_enter Try.func29, Try.ntmps29
    go_wp2_with (go_at_call 26; refine HF.out.mono ?_; rintro e w1 ⟨rfl, hb1⟩)
    go_ret
    exact ⟨ret_int (by omega), hb1⟩
end Go.Proofs.Ytmhebaknoginhaa.Ln
