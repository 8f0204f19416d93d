/-
  The document's letter, tab and words.
-/
import Derived.Test.YtficnlglofgekaaDoorJbShelf2
import Derived.Test.YtficnlglofgekaaDoorJbPair
namespace Go.Proofs.YtficnlglofgekaaDoor.Jb
open Go.ChangeShapes Go.WideShapes Go.ChangeAt Go.RowKit
open Go.Lib hiding intOf
open Go.Proofs.YtficnlglofgekaaDoor.Base
open Go.Proofs.YtficnlglofgekaaDoor.Pa
set_option linter.unusedVariables false
theorem isL_eq (b : Nat) : isL b = ((decide (97 ≤ (b : Int)) && decide ((b : Int) ≤ 122)) || (decide (65 ≤ (b : Int)) && decide ((b : Int) ≤ 90)) || (decide (48 ≤ (b : Int)) && decide ((b : Int) ≤ 57))) := by
  unfold isL
  rw [Bool.eq_iff_iff]
  simp only [Bool.or_eq_true, Bool.and_eq_true, decide_eq_true_eq]
  omega
theorem letter_any (b : Nat) (hb : b ≤ 255) (w : World) :
    Calls Tryd.prog 39 #[.int .u8 (b : Int)] w fun e w' => e = .returned (.bool (isL b)) ∧ w' = w := by
  have hq := isL_eq b
  generalize isL b = B at hq ⊢
  have HQ : Hid (B = ((decide (97 ≤ (b : Int)) && decide ((b : Int) ≤ 122)) || (decide (65 ≤ (b : Int)) && decide ((b : Int) ≤ 90)) || (decide (48 ≤ (b : Int)) && decide ((b : Int) ≤ 57)))) := hq
  clear hq
  go_enter Tryd.func39, Tryd.ntmps39
  go_wp2
  all_goals
    go_ret
    refine ⟨congrArg (fun b => Ending.returned (Value.bool b)) ?_, rfl⟩
    first
      | exact HQ.out.symm
      | (rw [HQ.out, Bool.eq_iff_iff]; simp only [Bool.or_eq_true, Bool.and_eq_true, decide_eq_true_eq]; omega)
      | (rw [HQ.out, Bool.eq_iff_iff]; simp only [Bool.or_eq_true, Bool.and_eq_true, decide_eq_true_eq, true_iff]; omega)
      | (rw [HQ.out, Bool.eq_iff_iff]; simp only [Bool.or_eq_true, Bool.and_eq_true, decide_eq_true_eq, Bool.false_eq_true]; omega)
      | (rw [HQ.out, Bool.eq_iff_iff]; simp; done)
      | (rw [HQ.out, Bool.eq_iff_iff]; simp; omega)
/-- The place of the first TAB, or the end. -/
def tabAt (s : ByteArray) : Nat := (s.data.toList.takeWhile (fun b => b != 9)).length
theorem tab_uniq : ∀ (l : List UInt8) (n : Nat), n ≤ l.length → (∀ j, j < n → l.getD j 0 ≠ 9) → (n < l.length → l.getD n 0 = 9) → (l.takeWhile (fun b => b != 9)).length = n
  | [], n, h, _, _ => by simp at h; subst h; rfl
  | b :: l, 0, _, _, h => by
    have : b = 9 := h (by simp)
    subst this
    rfl
  | b :: l, n + 1, h, h1, h2 => by
    have hb : b ≠ 9 := h1 0 (by omega)
    rw [List.takeWhile_cons_of_pos (by simpa using hb), List.length_cons, tab_uniq l n (by simpa using h) (fun j hj => h1 (j + 1) (by omega)) (fun hn => h2 (by simpa using hn))]
theorem tab_le (s : ByteArray) : tabAt s ≤ s.size := by
  unfold tabAt
  have h := (List.takeWhile_sublist (fun b : UInt8 => b != 9) (l := s.data.toList)).length_le
  have e : s.data.toList.length = s.size := by rw [Array.length_toList]; rfl
  omega
theorem btl (s : ByteArray) (i : Nat) (h : i < s.size) : s.data.toList.getD i 0 = s[i]'h := by
  have h' : i < s.data.toList.length := by rw [Array.length_toList]; exact h
  rw [List.getD_eq_getElem?_getD, List.getElem?_eq_getElem h']
  rfl
theorem get_bang (s : ByteArray) (i : Nat) (h : i < s.size) : s.get! i = s[i]'h := by
  rw [← btl s i h, List.getD_eq_getElem?_getD]
  unfold ByteArray.get!
  rw [Array.getElem?_toList]
  show s.data[i]! = _
  rw [getElem!_def]
  have : s.data[i]? = some (s.data[i]'h) := Array.getElem?_eq_getElem h
  rw [this]; rfl
set_option maxHeartbeats 1000000 in
set_option maxRecDepth 100000 in
theorem tab_any (s : ByteArray) (w : World) (hs : s.size ≤ 1099511627776) :
    Calls Tryd.prog 27 #[.string s] w fun e w' => e = .returned (.int .i64 (tabAt s : Nat)) ∧ w' = w := by
  have HSL : Hid (s.data.toList.length = s.size) := by show _ = _; rw [Array.length_toList]; rfl
  go_enter Tryd.func27, Tryd.ntmps27
  go_wp2_with fail
  go_loopw [3] (fun s3 wr => ∃ i : Nat, i ≤ s.size ∧ .int .i64 (i : Int) = s3 ∧ Hid (∀ j, j < i → s.data.toList.getD j 0 ≠ 9) ∧ wr = w) (fun s3 _ => s.size - (intOf s3).toNat)
  case atStart => exact ⟨0, by omega, rfl, (fun j h => absurd h (by omega)), rfl⟩
  case round =>
    obtain ⟨i, hi, rfl, HA, rfl⟩ := hrel
    by_cases hin : i < s.size
    · have hii : (i : Int) < (s.size : Int) := by omega
      have hi0 : (0 : Int) ≤ (i : Int) := by omega
      obtain ⟨b, hb⟩ : ∃ b : Nat, (s[i]'hin).toNat = b := ⟨_, rfl⟩
      have HB := hide (btl s i hin)
      by_cases h9 : b = 9
      · subst h9
        have HT : Hid (tabAt s = i) := hide (tab_uniq _ i (by rw [HSL.out]; exact hi) HA.out (fun _ => by rw [HB.out]; exact UInt8.toNat_inj.1 (by rw [hb]; rfl)))
        have h99 : ((9 : Int) != 9) = false := by decide
        go_wp2_with fail
        go_ret
        exact ⟨by rw [HT.out]; rfl, rfl⟩
      · have h9i : ((b : Int) != 9) = true := by simp; omega
        have HA2 : Hid (∀ j, j < i + 1 → s.data.toList.getD j 0 ≠ 9) := fun j hj => by
          by_cases e : j = i
          · subst e; rw [HB.out]; intro q; apply h9; rw [← hb, q]; rfl
          · exact HA.out j (by omega)
        clear HA
        go_wp2_with fail
        go_roundw
        case rel => exact ⟨i + 1, by omega, by go_num, HA2.out, by first | rfl | trivial⟩
        case measure => (simp [intOf] <;> omega)
    · have hie : i = s.size := by omega
      subst hie
      have HT : Hid (tabAt s = s.size) := hide (tab_uniq _ _ (by rw [HSL.out]; exact Nat.le_refl _) HA.out (fun h => by rw [HSL.out] at h; omega))
      go_wp2_with fail
      go_ret
      exact ⟨by rw [HT.out]; rfl, rfl⟩
/-- The words of the spans. -/
def exts (s : ByteArray) (l : List (Nat × Nat)) : List ByteArray := l.map fun x => s.extract x.1 x.2
theorem exts_snoc (s : ByteArray) (l : List (Nat × Nat)) (a b : Nat) : exts s (l ++ [(a, b)]) = exts s l ++ [s.extract a b] := by simp [exts]
set_option maxHeartbeats 2000000 in
set_option maxRecDepth 100000 in
theorem words_any (s : ByteArray) (w : World) (hs : s.size ≤ 1099511627776) :
    Calls Tryd.prog 26 #[.string s] w fun e w' => ∃ v, e = .returned v ∧ OwnS w' w.heap.size v (wordsL s) ∧ Below w.heap.size w w' := by
  go_enter Tryd.func26, Tryd.ntmps26
  go_wp2_with fail
  go_loopw [3, 4, 5] (fun l fr si wr => ∃ (v : Value) (acc : List (Nat × Nat)) (f i : Nat), v = l ∧ i ≤ s.size + 1 ∧ f ≤ i ∧ acc.length ≤ i ∧ .int .i64 (f : Int) = fr ∧ .int .i64 (i : Int) = si ∧
      Hid ((i ≤ s.size ∧ spB s (s.size - i) i f acc = spB s s.size 0 0 []) ∨ (i = s.size + 1 ∧ exts s acc = wordsL s)) ∧ Hid (OwnS wr w.heap.size v (exts s acc)) ∧ Hid (Below w.heap.size w wr)) (fun _ _ si _ => s.size + 1 - (intOf si).toNat)
  case atStart => exact ⟨_, [], 0, 0, rfl, by omega, by omega, by simp, rfl, rfl, .inl ⟨by omega, by rw [Nat.sub_zero]⟩, owns_none _ _, Below.refl _ _⟩
  case round =>
    obtain ⟨v, acc, f, i, rfl, hi, hf, hal, rfl, rfl, HS, HO, HB⟩ := hrel
    by_cases hle : i ≤ s.size
    · have hli : (i : Int) ≤ (s.size : Int) := by omega
      have hi0 : (0 : Int) ≤ (i : Int) := by omega
      have hf0 : (0 : Int) ≤ (f : Int) := by omega
      have hfi : (f : Int) ≤ (i : Int) := by omega
      have HS1 : Hid (spB s (s.size - i) i f acc = spB s s.size 0 0 []) := by
        rcases HS.out with h | h
        · exact h.2
        · omega
      clear HS
      by_cases hin : i < s.size
      · have hii : (i : Int) < (s.size : Int) := by omega
        obtain ⟨b, hb⟩ : ∃ b : Nat, (s[i]'hin).toNat = b := ⟨_, rfl⟩
        have HG : Hid ((s.get! i).toNat = b) := by show _ = _; rw [get_bang s i hin, hb]
        have hb255 : b ≤ 255 := by rw [← hb]; have := UInt8.toNat_lt (s[i]'hin); omega
        have HLA := hide (letter_any b hb255)
        cases hL : isL b with
        | true =>
          have HS2 := hide (spB_letter (fr := f) (acc := acc) hin (by rw [HG.out]; exact hL))
          have HLB : Hid (∀ w, Calls Tryd.prog 39 #[.int .u8 (b : Int)] w fun e w' => e = .returned (.bool true) ∧ w' = w) := fun w => by have h := HLA.out w; rw [hL] at h; exact h
          clear hL HLA
          go_wp2_with (go_at_call 39; refine (HLB.out _).mono ?_; rintro e w1 ⟨rfl, rfl⟩)
          go_roundw
          case rel => exact ⟨_, acc, f, i + 1, rfl, by omega, by omega, by omega, rfl, by go_num, .inl ⟨by omega, by rw [← HS2.out]; exact HS1.out⟩, HO.out, HB.out⟩
          case measure => (simp [intOf] <;> omega)
        | false =>
          have HS2 := hide (spB_other (fr := f) (acc := acc) hin (by rw [HG.out]; exact hL))
          have HLB : Hid (∀ w, Calls Tryd.prog 39 #[.int .u8 (b : Int)] w fun e w' => e = .returned (.bool false) ∧ w' = w) := fun w => by have h := HLA.out w; rw [hL] at h; exact h
          clear hL HLA
          by_cases hfl : f < i
          · have hfli : (f : Int) < (i : Int) := by omega
            rw [if_pos hfl] at HS2
            obtain ⟨wa, hwa⟩ : ∃ wa, wr.alloc (.cells #[.string (s.extract f i)] 9) = wa := ⟨_, rfl⟩
            have HBA : Hid (Below wr.heap.size wr wa) := by rw [← hwa]; exact (Below.refl _ _).alloc (Nat.le_refl _) _
            have HC : Hid (wa.cell? ((⟨wr.heap.size, 0, none⟩ : Addr).add 0) = some (.string (s.extract f i))) := by rw [← hwa]; show _ = _; simp [World.cell?_alloc_mark, Addr.add]
            go_wp2_with (first
              | (go_at_call 39; refine (HLB.out _).mono ?_; rintro e w1 ⟨rfl, hq1⟩; obtain rfl := hq1.symm)
              | (at_builtin; refine pushS wa rfl _ _ rfl w.heap.size v (exts s acc) rfl (HO.out.below HBA.out) ⟨wr.heap.size, 0, none⟩ 1 (s.extract f i) rfl HC.out (by simp [exts]; omega) (by have := HB.out.size; have := HBA.out.size; omega) ?_; intro v2 w2 ho2 hg2; have HO2 := hide ho2; have HB2 := hide ((below_trans HB.out HBA.out).grown hg2 (below_trans HB.out HBA.out).size (fun i e => (HO.out.blk i e).1)); clear ho2 hg2))
            go_roundw
            case rel => exact ⟨_, acc ++ [(f, i)], i + 1, i + 1, rfl, by omega, by omega, by simp; omega, by go_num, by go_num, .inl ⟨by omega, by rw [← HS2.out]; exact HS1.out⟩, by rw [exts_snoc]; exact HO2.out, HB2.out⟩
            case measure => (simp [intOf] <;> omega)
          · have hfli : ¬ (f : Int) < (i : Int) := by omega
            rw [if_neg hfl] at HS2
            go_wp2_with (go_at_call 39; refine (HLB.out _).mono ?_; rintro e w1 ⟨rfl, rfl⟩)
            go_roundw
            case rel => exact ⟨_, acc, i + 1, i + 1, rfl, by omega, by omega, by omega, by go_num, by go_num, .inl ⟨by omega, by rw [← HS2.out]; exact HS1.out⟩, HO.out, HB.out⟩
            case measure => (simp [intOf] <;> omega)
      · have hie : i = s.size := by omega
        subst hie
        have hii : ¬ (s.size : Int) < (s.size : Int) := by omega
        have HS2 : Hid ((acc, f) = spB s s.size 0 0 []) := by have h := HS1.out; rw [Nat.sub_self] at h; exact h
        by_cases hfl : f < s.size
        · have hfli : (f : Int) < (s.size : Int) := by omega
          have HW : Hid (exts s (acc ++ [(f, s.size)]) = wordsL s) := by
            show _ = _
            unfold wordsL closeB exts
            rw [← HS2.out]
            simp only [hfl, if_true]
          obtain ⟨wa, hwa⟩ : ∃ wa, wr.alloc (.cells #[.string (s.extract f s.size)] 9) = wa := ⟨_, rfl⟩
          have HBA : Hid (Below wr.heap.size wr wa) := by rw [← hwa]; exact (Below.refl _ _).alloc (Nat.le_refl _) _
          have HC : Hid (wa.cell? ((⟨wr.heap.size, 0, none⟩ : Addr).add 0) = some (.string (s.extract f s.size))) := by rw [← hwa]; show _ = _; simp [World.cell?_alloc_mark, Addr.add]
          go_wp2_with (at_builtin; refine pushS wa rfl _ _ rfl w.heap.size v (exts s acc) rfl (HO.out.below HBA.out) ⟨wr.heap.size, 0, none⟩ 1 (s.extract f s.size) rfl HC.out (by simp [exts]; omega) (by have := HB.out.size; have := HBA.out.size; omega) ?_; intro v2 w2 ho2 hg2; have HO2 := hide ho2; have HB2 := hide ((below_trans HB.out HBA.out).grown hg2 (below_trans HB.out HBA.out).size (fun i e => (HO.out.blk i e).1)); clear ho2 hg2)
          go_roundw
          case rel => exact ⟨_, acc ++ [(f, s.size)], s.size + 1, s.size + 1, rfl, by omega, by omega, by simp; omega, by go_num, by go_num, .inr ⟨rfl, HW.out⟩, by rw [exts_snoc]; exact HO2.out, HB2.out⟩
          case measure => (simp [intOf] <;> omega)
        · have hfli : ¬ (f : Int) < (s.size : Int) := by omega
          have HW : Hid (exts s acc = wordsL s) := by
            show _ = _
            unfold wordsL closeB exts
            rw [← HS2.out]
            simp only [hfl, if_false]
          go_wp2_with fail
          go_roundw
          case rel => exact ⟨_, acc, s.size + 1, s.size + 1, rfl, by omega, by omega, by omega, by go_num, by go_num, .inr ⟨rfl, HW.out⟩, HO.out, HB.out⟩
          case measure => (simp [intOf] <;> omega)
    · have hli : ¬ (i : Int) ≤ (s.size : Int) := by omega
      have HW : Hid (exts s acc = wordsL s) := by
        rcases HS.out with h | h
        · omega
        · exact h.2
      go_wp2_with fail
      go_ret
      exact ⟨_, rfl, by rw [← HW.out]; exact HO.out, HB.out⟩
end Go.Proofs.YtficnlglofgekaaDoor.Jb
