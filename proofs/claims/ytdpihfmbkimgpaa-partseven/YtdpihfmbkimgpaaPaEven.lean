/-
  Of as many unlike keys as parts each part has just one.
-/
import Derived.Test.YtdpihfmbkimgpaaPaOrd
namespace Go.Proofs.Ytdpihfmbkimgpaa.Pa
open Go.ChangeShapes Go.WideShapes Go.ChangeAt Go.RowKit
open Go.Proofs.Ytdpihfmbkimgpaa.Base
set_option linter.unusedVariables false
theorem str_eq (a b : ByteArray) : (a.toList == b.toList) = decide (a = b) := by
  have h : a.toList = b.toList ↔ a = b := by
    constructor
    · intro h
      cases a; cases b
      rw [ByteArray.toList_eq, ByteArray.toList_eq] at h
      exact congrArg _ (Array.toList_inj.1 h)
    · intro h; rw [h]
  by_cases hc : a = b
  · rw [decide_eq_true hc, hc]; simp
  · rw [decide_eq_false hc]
    simp only [beq_eq_false_iff_ne]
    exact fun e => hc (h.1 e)
/-- The place of a key among its sample. -/
theorem rank_place {l : List ByteArray} (hn : l.Nodup) {n : Int} (he : bErr l n = 0) (hl : (l.length : Int) = n) {q : Nat} (hq : q < l.length) : rank (bndS l n) ((srt l).getD q ⟨#[]⟩) = q := by
  have hnn : n.toNat = l.length := by omega
  have h0 : l.length ≠ 0 := by omega
  have hb : ∀ i, i < l.length - 1 → (bndS l n).getD i ⟨#[]⟩ = (srt l).getD (i + 1) ⟨#[]⟩ := by
    intro i hi
    unfold bndS
    rw [if_pos he, if_neg h0, bnd_get _ _ i (by omega), srt_len, hnn, Nat.mul_div_cancel _ (by omega)]
  have hbl := bndS_len he
  refine rank_eq (by omega) ?_ ?_
  · intro i hi
    rw [hb i (by omega)]
    exact srt_le l _ _ (by omega) hq
  · intro i hi1 hi2
    rw [hbl] at hi2
    rw [hb i (by omega)]
    have h1 := srt_le l q (i + 1) (by omega) (by omega)
    have h2 := cmpT_swap ((srt l).getD q ⟨#[]⟩) ((srt l).getD (i + 1) ⟨#[]⟩)
    have hnd : (srt l).Nodup := (srt_perm l).nodup_iff.2 hn
    have hl2 := srt_len l
    have h3 : cmpT ((srt l).getD q ⟨#[]⟩) ((srt l).getD (i + 1) ⟨#[]⟩) ≠ 0 := by
      intro e
      have e2 := cmpT_eq.1 e
      rw [List.getD_eq_getElem?_getD, List.getElem?_eq_getElem (by omega), List.getD_eq_getElem?_getD, List.getElem?_eq_getElem (by omega)] at e2
      exact List.pairwise_iff_getElem.1 hnd q (i + 1) (by omega) (by omega) (by omega) e2
    omega
theorem rank_of {l : List ByteArray} (hn : l.Nodup) {n : Int} (he : bErr l n = 0) (hl : (l.length : Int) = n) {x : ByteArray} (hx : x ∈ l) : ∃ q, q < l.length ∧ rank (bndS l n) x = q ∧ (srt l).getD q ⟨#[]⟩ = x := by
  have hx2 := (srt_perm l).mem_iff.2 hx
  obtain ⟨q, hq, rfl⟩ := List.getElem_of_mem hx2
  have hl2 := srt_len l
  refine ⟨q, by omega, ?_, ?_⟩
  · have := rank_place hn he hl (q := q) (by omega)
    rw [List.getD_eq_getElem?_getD, List.getElem?_eq_getElem hq] at this
    exact this
  · rw [List.getD_eq_getElem?_getD, List.getElem?_eq_getElem hq]; rfl
theorem rank_lt {l : List ByteArray} (hn : l.Nodup) {n : Int} (he : bErr l n = 0) (hl : (l.length : Int) = n) {x : ByteArray} (hx : x ∈ l) : rank (bndS l n) x < l.length := by
  obtain ⟨q, h1, h2, _⟩ := rank_of hn he hl hx
  omega
theorem rank_inj {l : List ByteArray} (hn : l.Nodup) {n : Int} (he : bErr l n = 0) (hl : (l.length : Int) = n) {x y : ByteArray} (hx : x ∈ l) (hy : y ∈ l) (h : rank (bndS l n) x = rank (bndS l n) y) : x = y := by
  obtain ⟨q, _, h2, h3⟩ := rank_of hn he hl hx
  obtain ⟨p, _, h5, h6⟩ := rank_of hn he hl hy
  have : q = p := by omega
  rw [← h3, ← h6, this]
theorem even_ok {l : List ByteArray} (h1 : l.length ≤ 40) (h0 : 0 < l.length) (hs : ∀ s ∈ l, s.size ≤ 1024) : bErr l (l.length : Int) = 0 := by
  unfold bErr
  rw [if_neg (by omega), long_not hs]
  have : isParts (l.length : Int) = true := by unfold isParts; rw [decide_eq_true (by omega), decide_eq_true (by omega)]; rfl
  rw [this]
  rfl
theorem even_ok2 {l : List ByteArray} (h1 : l.length ≤ 40) (hs : ∀ s ∈ l, s.size ≤ 1024) {n : Int} (hn : 1 ≤ n ∧ n ≤ 65535) : bErr l n = 0 := by
  unfold bErr
  rw [if_neg (by omega), long_not hs]
  have : isParts n = true := by unfold isParts; rw [decide_eq_true hn.1, decide_eq_true hn.2]; rfl
  rw [this]
  rfl
end Go.Proofs.Ytdpihfmbkimgpaa.Pa
