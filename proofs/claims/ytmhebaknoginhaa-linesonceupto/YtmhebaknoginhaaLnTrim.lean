/-
  TrimSuffix of a line feed.
-/
import Derived.Test.YtmhebaknoginhaaLnFirst
namespace Go.Proofs.Ytmhebaknoginhaa.Ln
open Go.ChangeShapes Go.WideShapes Go.ChangeAt Go.RowKit
open Go.Proofs.Ytmhebaknoginhaa.Base
set_option linter.unusedVariables false
def trimNL (s : ByteArray) : ByteArray := if 0 < s.size ∧ bt s (s.size - 1) = 10 then s.extract 0 (s.size - 1) else s
theorem last_eq (s : ByteArray) (h : 0 < s.size) (b : Bool) (hb : decide (bt s (s.size - 1) = 10) = b) : ((s.extract (s.size - 1) s.size).toList == [10]) = b := by
  have e : (s.extract (s.size - 1) s.size).toList = [bt s (s.size - 1)] := by
    rw [ByteArray.toList_eq]
    have hz : (s.extract (s.size - 1) s.size).size = 1 := by rw [ByteArray.size_extract]; omega
    apply List.ext_getElem
    · simpa using hz
    · intro i h1 h2
      obtain rfl : i = 0 := by simp at h2; omega
      simp
      exact (bt_get s (s.size - 1) (by omega)).symm
  rw [e, ← hb]
  by_cases h10 : bt s (s.size - 1) = 10 <;> simp [h10]
set_option maxHeartbeats 1000000 in
theorem hasSuffix_any (s : ByteArray) (w : World) (hs : s.size ≤ 9223372036854775807) :
    Calls Try.prog 34 #[.string s, .string ⟨#[10]⟩] w fun e w' => e = .returned (.bool (decide (0 < s.size ∧ bt s (s.size - 1) = 10))) ∧ w' = w := by
  by_cases h0 : 0 < s.size
  · obtain ⟨b, hb⟩ : ∃ b, decide (bt s (s.size - 1) = 10) = b := ⟨_, rfl⟩
    have he := last_eq s h0 b hb
    have hg : decide (0 < s.size ∧ bt s (s.size - 1) = 10) = b := by rw [← hb]; simp [h0]
    rw [hg]
    obtain ⟨m, hm⟩ : ∃ m, s.size = m + 1 := ⟨s.size - 1, by omega⟩
    have hmi : (s.size : Int) - 1 = (m : Int) := by omega
    rw [show s.size - 1 = m by omega] at he
    have h1 : (1 : Int) ≤ (s.size : Int) := by omega
    have hml : (m : Int) ≤ (s.size : Int) := by omega
    have HM := hide hm
    clear hm hb hg
    go_enter Try.func34, Try.ntmps34
    go_wp2_with fail
    go_ret
    exact ⟨rfl, rfl⟩
  · have hg : decide (0 < s.size ∧ bt s (s.size - 1) = 10) = false := by simp [h0]
    rw [hg]
    have hz : s.size = 0 := by omega
    have h1 : ¬ (1 : Int) ≤ (s.size : Int) := by omega
    clear hg hz
    go_enter Try.func34, Try.ntmps34
    go_wp2_with fail
    go_ret
    exact ⟨rfl, rfl⟩
set_option maxHeartbeats 1000000 in
theorem trimLite_any (s : ByteArray) (w : World) (hs : s.size ≤ 9223372036854775807) :
    Calls Try.prog 32 #[.string s, .string ⟨#[10]⟩] w fun e w' => e = .returned (.string (trimNL s)) ∧ w' = w := by
  have HS := hide (hasSuffix_any s w hs)
  by_cases h : 0 < s.size ∧ bt s (s.size - 1) = 10
  · have e : trimNL s = s.extract 0 (s.size - 1) := by unfold trimNL; rw [if_pos h]
    rw [e]
    have e2 : decide (0 < s.size ∧ bt s (s.size - 1) = 10) = true := by simpa using h
    rw [e2] at HS
    have h0 := h.1
    obtain ⟨m, hm⟩ : ∃ m, s.size - 1 = m := ⟨_, rfl⟩
    have hmi : (s.size : Int) - 1 = (m : Int) := by omega
    have hml : (m : Int) ≤ (s.size : Int) := by omega
    rw [hm]
    clear h e e2 hm
    go_enter Try.func32, Try.ntmps32
    go_wp2_with (go_at_call 34; refine HS.out.mono ?_; rintro e w1 ⟨rfl, rfl⟩)
    go_ret
    exact ⟨rfl, rfl⟩
  · have e : trimNL s = s := by unfold trimNL; rw [if_neg h]
    rw [e]
    have e2 : decide (0 < s.size ∧ bt s (s.size - 1) = 10) = false := by simpa using h
    rw [e2] at HS
    clear h e e2
    go_enter Try.func32, Try.ntmps32
    go_wp2_with (go_at_call 34; refine HS.out.mono ?_; rintro e w1 ⟨rfl, rfl⟩)
    go_ret
    exact ⟨rfl, rfl⟩
theorem trim_any (s : ByteArray) (w : World) (hs : s.size ≤ 9223372036854775807) :
    Calls Try.prog 28 #[.string s, .string ⟨#[10]⟩] w fun e w' => e = .returned (.string (trimNL s)) ∧ w' = w := by
  have HS := hide (trimLite_any s w hs)
  go_enter Try.func28, Try.ntmps28
  go_wp2_with (go_at_call 32; refine HS.out.mono ?_; rintro e w1 ⟨rfl, rfl⟩)
  go_ret
  exact ⟨rfl, rfl⟩
/-- The line number k, as All cuts it out. -/
theorem trim_line (T : ByteArray) (k : Nat) (h : k < cnt T) : trimNL (T.extract (pl T k) (pl T (k + 1))) = ln T k := by
  obtain ⟨g1, g2⟩ := pl_step T k h
  have hz : (T.extract (pl T k) (pl T (k + 1))).size = pl T (k + 1) - pl T k := by rw [ByteArray.size_extract]; omega
  unfold trimNL ln en
  rw [hz, bt_extract T _ _ _ (by omega) g2, show pl T k + (pl T (k + 1) - pl T k - 1) = pl T (k + 1) - 1 by omega]
  by_cases hb : bt T (pl T (k + 1) - 1) = 10
  · rw [if_pos ⟨by omega, hb⟩, if_pos hb, extract_extract T _ _ _ _ (by omega) g2]
    congr 1 <;> omega
  · rw [if_neg (fun h => hb h.2), if_neg hb]
end Go.Proofs.Ytmhebaknoginhaa.Ln
