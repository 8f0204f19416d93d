/-
  The words of a line: by runes, as the library cuts it, and byte by byte.
-/
import Derived.Test.YtficnlglofgekaaDoorBase
import Derived.Lib.FieldsP
import Derived.Lib.MapLaws
import Derived.Lib.SpaceUEq
namespace Go.Proofs.YtficnlglofgekaaDoor.Jb
open Go.Lib
set_option linter.unusedVariables false
/-- A byte of a word, as a number. -/
def isL (b : Nat) : Bool := (decide (97 ≤ b) && decide (b ≤ 122)) || (decide (65 ≤ b) && decide (b ≤ 90)) || (decide (48 ≤ b) && decide (b ≤ 57))
def isOut (r : Nat) : Bool := !isL r
theorem isL_big {b : Nat} (h : 128 ≤ b) : isL b = false := by
  unfold isL
  simp only [Bool.or_eq_false_iff, Bool.and_eq_false_iff, decide_eq_false_iff_not]
  omega
/-- One byte at a time: where the word that stands began ('fr = pos': none stands), and the spans so far. -/
def spB (s : ByteArray) : Nat → Nat → Nat → List (Nat × Nat) → List (Nat × Nat) × Nat
  | 0, _, fr, acc => (acc, fr)
  | f + 1, pos, fr, acc => if isL (s.get! pos).toNat then spB s f (pos + 1) fr acc else spB s f (pos + 1) (pos + 1) (if fr < pos then acc ++ [(fr, pos)] else acc)
def closeB (s : ByteArray) (x : List (Nat × Nat) × Nat) : List (Nat × Nat) := if x.2 < s.size then x.1 ++ [(x.2, s.size)] else x.1
/-- The words. -/
def wordsL (s : ByteArray) : List ByteArray := (closeB s (spB s s.size 0 0 [])).map fun x => s.extract x.1 x.2
theorem spB_skip (s : ByteArray) : ∀ (k f pos : Nat) (acc : List (Nat × Nat)), (∀ j, j < k → isL (s.get! (pos + j)).toNat = false) → spB s (f + k) pos pos acc = spB s f (pos + k) (pos + k) acc
  | 0, f, pos, acc, _ => rfl
  | k + 1, f, pos, acc, h => by
    have h0 := h 0 (by omega)
    rw [Nat.add_zero] at h0
    rw [show f + (k + 1) = (f + k) + 1 by omega, spB, h0]
    simp only [Bool.false_eq_true, if_false, Nat.lt_irrefl]
    rw [spB_skip s k f (pos + 1) acc (fun j hj => by have := h (j + 1) (by omega); rwa [show pos + 1 + j = pos + (j + 1) by omega]), show pos + 1 + k = pos + (k + 1) by omega]
/-- What a rune at pos is, by bytes. -/
theorem rune_bytes (s : ByteArray) (pos : Nat) (h : pos < s.size) :
    ((s.get! pos).toNat < 128 ∧ Utf8.decode s pos = ((s.get! pos).toNat, 1)) ∨
    (128 ≤ (s.get! pos).toNat ∧ 128 ≤ (Utf8.decode s pos).1 ∧ pos + (Utf8.decode s pos).2 ≤ s.size ∧ 1 ≤ (Utf8.decode s pos).2 ∧ ∀ j, j < (Utf8.decode s pos).2 → 128 ≤ (s.get! (pos + j)).toNat) := by
  by_cases h0 : (s.get! pos).toNat < 128
  · left; refine ⟨h0, ?_⟩
    rw [decode_at]; unfold decodeN; rw [if_pos h0]
  · right
    have hc := decodeN_conts (s.size - pos) (s.get! pos).toNat (s.get! (pos + 1)).toNat (s.get! (pos + 2)).toNat (s.get! (pos + 3)).toNat
    have hw := decodeN_le_n' (s.size - pos) (s.get! pos).toNat (s.get! (pos + 1)).toNat (s.get! (pos + 2)).toNat (s.get! (pos + 3)).toNat (by omega)
    have hp := width_pos s pos
    have hs := decodeN_shape (s.size - pos) (s.get! pos).toNat (s.get! (pos + 1)).toNat (s.get! (pos + 2)).toNat (s.get! (pos + 3)).toNat
    rw [← decode_at] at hc hw hs
    refine ⟨by omega, ?_, by omega, hp, ?_⟩
    · rcases hs with h1 | h1 | h1 | h1 | h1
      · omega
      · rw [h1.2.2.2.2]; exact h1.2.2.2.1
      · rw [h1.2.2.2.2.2.2]; show 128 ≤ _; have := h1.2.2.2.2.1; omega
      · rw [h1.2.2.2.2.2.2.2]; show 128 ≤ _; have := h1.2.2.2.2.2.1; omega
      · rw [h1]; decide
    · intro j hj
      obtain ⟨c1, c2, c3, c4⟩ := hc
      have hj4 : j = 0 ∨ j = 1 ∨ j = 2 ∨ j = 3 := by omega
      rcases hj4 with rfl | rfl | rfl | rfl
      · rw [Nat.add_zero]; omega
      · have := (c1 (by omega)).1; omega
      · have := (c2 (by omega)).1; omega
      · have := (c3 (by omega)).1; omega
def stOf (fr pos : Nat) : Option Nat := if fr < pos then some fr else none
theorem sp_out {s : ByteArray} {f pos fr : Nat} {acc : List (Nat × Nat)} (h : pos < s.size) (hp : isOut (Utf8.decode s pos).1 = true) :
    spansFromP isOut s (f + 1) pos (stOf fr pos) acc = spansFromP isOut s f (pos + (Utf8.decode s pos).2) none (if fr < pos then acc ++ [(fr, pos)] else acc) := by
  conv => lhs; unfold spansFromP
  unfold stOf
  by_cases q : fr < pos
  · simp only [h, hp, q, if_true]
  · simp only [h, hp, q, if_true, if_false]
theorem sp_in {s : ByteArray} {f pos fr : Nat} {acc : List (Nat × Nat)} (h : pos < s.size) (hp : isOut (Utf8.decode s pos).1 = false) (hfr : fr ≤ pos) :
    spansFromP isOut s (f + 1) pos (stOf fr pos) acc = spansFromP isOut s f (pos + (Utf8.decode s pos).2) (some fr) acc := by
  conv => lhs; unfold spansFromP
  unfold stOf
  by_cases q : fr < pos
  · simp only [h, hp, q, if_true, if_false, Bool.false_eq_true]
  · have e : fr = pos := by omega
    subst e
    simp only [h, hp, q, if_true, if_false, Bool.false_eq_true]
theorem spB_letter {s : ByteArray} {i fr : Nat} {acc : List (Nat × Nat)} (h : i < s.size) (hl : isL (s.get! i).toNat = true) : spB s (s.size - i) i fr acc = spB s (s.size - (i + 1)) (i + 1) fr acc := by
  obtain ⟨f2, hf2⟩ : ∃ f2, s.size - i = f2 + 1 := ⟨s.size - i - 1, by omega⟩
  rw [hf2, show s.size - (i + 1) = f2 by omega]
  conv => lhs; unfold spB
  rw [hl]; rfl
theorem spB_other {s : ByteArray} {i fr : Nat} {acc : List (Nat × Nat)} (h : i < s.size) (hl : isL (s.get! i).toNat = false) : spB s (s.size - i) i fr acc = spB s (s.size - (i + 1)) (i + 1) (i + 1) (if fr < i then acc ++ [(fr, i)] else acc) := by
  obtain ⟨f2, hf2⟩ : ∃ f2, s.size - i = f2 + 1 := ⟨s.size - i - 1, by omega⟩
  rw [hf2, show s.size - (i + 1) = f2 by omega]
  conv => lhs; unfold spB
  rw [hl]; rfl
theorem spans_eq (s : ByteArray) : ∀ (f pos fr : Nat) (acc : List (Nat × Nat)), s.size ≤ pos + f → pos ≤ s.size → fr ≤ pos →
    closeSpans s (spansFromP isOut s f pos (stOf fr pos) acc) = closeB s (spB s (s.size - pos) pos fr acc)
  | 0, pos, fr, acc, hf, hp, hfr => by
    have e : pos = s.size := by omega
    subst e
    rw [Nat.sub_self]
    unfold spansFromP spB closeSpans closeB stOf
    by_cases q : fr < s.size
    · simp only [q, if_true]
    · simp only [q, if_false]
  | f + 1, pos, fr, acc, hf, hp, hfr => by
    by_cases hlt : pos < s.size
    · rcases rune_bytes s pos hlt with ⟨hb, hd⟩ | ⟨hb, hr, hw, hw1, hall⟩
      · have e2 : (Utf8.decode s pos).2 = 1 := by rw [hd]
        cases hL : isL (s.get! pos).toNat with
        | true =>
          have hp' : isOut (Utf8.decode s pos).1 = false := by rw [hd]; unfold isOut; simp [hL]
          rw [sp_in hlt hp' hfr, spB_letter hlt hL, e2]
          have ih := spans_eq s f (pos + 1) fr acc (by omega) (by omega) (by omega)
          have e3 : stOf fr (pos + 1) = some fr := if_pos (by omega)
          rw [e3] at ih
          exact ih
        | false =>
          have hp' : isOut (Utf8.decode s pos).1 = true := by rw [hd]; unfold isOut; simp [hL]
          rw [sp_out hlt hp', spB_other hlt hL, e2]
          have ih := spans_eq s f (pos + 1) (pos + 1) (if fr < pos then acc ++ [(fr, pos)] else acc) (by omega) (by omega) (by omega)
          have e3 : stOf (pos + 1) (pos + 1) = none := if_neg (by omega)
          rw [e3] at ih
          exact ih
      · have hp' : isOut (Utf8.decode s pos).1 = true := by unfold isOut; rw [isL_big hr]; rfl
        have h0 := hall 0 (by omega)
        rw [Nat.add_zero] at h0
        rw [sp_out hlt hp', spB_other hlt (isL_big h0)]
        generalize hK : (Utf8.decode s pos).2 = K at hw hw1 hall ⊢
        have ih := spans_eq s f (pos + K) (pos + K) (if fr < pos then acc ++ [(fr, pos)] else acc) (by omega) (by omega) (by omega)
        have e1 : stOf (pos + K) (pos + K) = none := if_neg (by omega)
        rw [e1] at ih
        rw [ih]
        have hk := spB_skip s (K - 1) (s.size - (pos + K)) (pos + 1) (if fr < pos then acc ++ [(fr, pos)] else acc) (fun j hj => by
          have := hall (j + 1) (by omega)
          rw [show pos + 1 + j = pos + (j + 1) by omega]
          exact isL_big this)
        rw [show s.size - (pos + K) + (K - 1) = s.size - (pos + 1) by omega, show pos + 1 + (K - 1) = pos + K by omega] at hk
        rw [hk]
    · rw [spansFromP_end _ _ _ _ _ _ hlt, show s.size - pos = 0 by omega]
      have e : pos = s.size := by omega
      subst e
      unfold spB closeSpans closeB stOf
      by_cases q : fr < s.size
      · simp only [q, if_true]
      · simp only [q, if_false]
theorem fields_words (s : ByteArray) : goFieldsP isOut s = wordsL s := by
  unfold goFieldsP wordsL spansOfP
  have h := spans_eq s s.size 0 0 [] (by omega) (by omega) (by omega)
  have e : stOf 0 0 = none := rfl
  rw [e, Nat.sub_zero] at h
  rw [h]
end Go.Proofs.YtficnlglofgekaaDoor.Jb
