/-
  What bounds of a sample are like: they do not fall, and are keys of the sample; parts rise with keys.
-/
import Derived.Test.YtdpihfmbkimgpaaPaWorks
namespace Go.Proofs.Ytdpihfmbkimgpaa.Pa
open Go.ChangeShapes Go.WideShapes Go.ChangeAt Go.RowKit
open Go.Proofs.Ytdpihfmbkimgpaa.Base
set_option linter.unusedVariables false
theorem bErr_zero {ss : List ByteArray} {n : Int} (h : bErr ss n = 0) : ss.length ≤ 65536 ∧ isParts n = true ∧ anyLong ss = false := by
  unfold bErr at h
  by_cases h1 : 65536 < ss.length
  · rw [if_pos h1] at h; cases h
  · rw [if_neg h1] at h
    cases h2 : isParts n with
    | false => rw [h2] at h; cases h
    | true =>
      rw [h2] at h
      cases h3 : anyLong ss with
      | true => rw [h3] at h; cases h
      | false => exact ⟨by omega, rfl, rfl⟩
theorem isParts_bounds {n : Int} (h : isParts n = true) : 1 ≤ n ∧ n ≤ 65535 := by simpa [isParts] using h
theorem bndS_len {ss : List ByteArray} {n : Int} (h : bErr ss n = 0) : (bndS ss n).length = n.toNat - 1 := by
  unfold bndS
  rw [if_pos h]
  split
  · rw [List.length_replicate]
  · rw [bnd_len]
theorem bndS_mem {ss : List ByteArray} {n : Int} (h : bErr ss n = 0) (h0 : ss.length ≠ 0) : ∀ s ∈ bndS ss n, s ∈ ss := by
  intro s hs
  unfold bndS at hs
  rw [if_pos h, if_neg h0] at hs
  unfold bnd at hs
  obtain ⟨i, hi, rfl⟩ := List.mem_map.1 hs
  rw [List.mem_range] at hi
  have hb := isParts_bounds (bErr_zero h).2.1
  have hp := place_lt (i + 1) (srt ss).length n.toNat (by rw [srt_len]; omega) (by omega)
  exact (srt_perm ss).mem_iff.1 (getS_mem hp)
theorem bndS_short {ss : List ByteArray} {n : Int} (h : bErr ss n = 0) : ∀ s ∈ bndS ss n, s.size ≤ 1024 := by
  intro s hs
  by_cases h0 : ss.length = 0
  · unfold bndS at hs
    rw [if_pos h, if_pos h0] at hs
    rw [List.eq_of_mem_replicate hs]
    decide
  · exact notLong (bErr_zero h).2.2 s (bndS_mem h h0 s hs)
theorem long_not {ss : List ByteArray} (h : ∀ s ∈ ss, s.size ≤ 1024) : anyLong ss = false := by
  unfold anyLong
  rw [List.any_eq_false]
  intro s hs
  have := h s hs
  simp [tooLong]
  omega
theorem srt_le (ss : List ByteArray) (i j : Nat) (hij : i ≤ j) (hj : j < ss.length) : cmpT ((srt ss).getD i ⟨#[]⟩) ((srt ss).getD j ⟨#[]⟩) ≤ 0 := by
  rcases Nat.lt_or_ge i j with h | h
  · have hl := srt_len ss
    have := List.pairwise_iff_getElem.1 (srt_sorted ss) i j (by omega) (by omega) h
    rw [List.getD_eq_getElem?_getD, List.getElem?_eq_getElem (by omega), List.getD_eq_getElem?_getD, List.getElem?_eq_getElem (by omega)]
    exact this
  · have : i = j := by omega
    rw [this, cmpT_eq.2 rfl]; exact Int.le_refl _
theorem bndS_rises {ss : List ByteArray} {n : Int} (h : bErr ss n = 0) : Rises (bndS ss n) := by
  intro i hi
  rw [bndS_len h] at hi
  have hb := isParts_bounds (bErr_zero h).2.1
  by_cases h0 : ss.length = 0
  · unfold bndS
    rw [if_pos h, if_pos h0]
    have e : ∀ j, (List.replicate (n.toNat - 1) (⟨#[]⟩ : ByteArray)).getD j ⟨#[]⟩ = ⟨#[]⟩ := fun j => by
      rw [List.getD_eq_getElem?_getD, List.getElem?_replicate]
      split <;> rfl
    rw [e, e, cmpT_eq.2 rfl]; exact Int.le_refl _
  · unfold bndS
    rw [if_pos h, if_neg h0, bnd_get _ _ i (by omega), bnd_get _ _ (i + 1) (by omega)]
    refine srt_le ss _ _ ?_ ?_
    · exact Nat.div_le_div_right (Nat.mul_le_mul_right _ (by omega))
    · have := place_lt (i + 1 + 1) (srt ss).length n.toNat (by rw [srt_len]; omega) (by omega)
      rw [srt_len] at this ⊢
      exact this
theorem bndS_are {ss : List ByteArray} {n : Int} (h : bErr ss n = 0) : areB (bndS ss n) n = true := by
  have hb := isParts_bounds (bErr_zero h).2.1
  unfold areB
  rw [long_not (bndS_short h), (risesB_iff _).2 (bndS_rises h), bndS_len h, decide_eq_true (by omega)]
  rfl
theorem chk_bnd {ss : List ByteArray} {n : Int} (h : bErr ss n = 0) : chk (bndS ss n) n = 0 := by
  unfold chk
  rw [(bErr_zero h).2.1, bndS_are h]
  simp
theorem chk_none {n : Int} (h : isParts n = true) : chk [] n = 0 := by
  unfold chk
  rw [h]
  simp
theorem hash_lt (k : ByteArray) {n : Int} (h : isParts n = true) : (hashP k n : Int) < n := by
  have hb := isParts_bounds h
  unfold hashP
  rw [if_pos h]
  have := Nat.mod_lt (Crc.sum (bts k)).toNat (show 0 < n.toNat by omega)
  omega
theorem rank_mono (ss : List ByteArray) {a b : ByteArray} (h : cmpT a b ≤ 0) : rank ss a ≤ rank ss b := by
  unfold rank
  refine List.countP_mono_left ?_
  intro s _ hs
  exact decide_eq_true (cmpT_trans (of_decide_eq_true hs) h)
theorem of_none {n : Int} (h : isParts n = true) (k : ByteArray) : ofP [] n k = hashP k n := by
  unfold ofP
  rw [chk_none h]
  rfl
theorem of_lt {ss : List ByteArray} {n : Int} (h : bErr ss n = 0) (k : ByteArray) : (ofP (bndS ss n) n k : Int) < n := by
  have hb := isParts_bounds (bErr_zero h).2.1
  unfold ofP
  rw [chk_bnd h, if_pos rfl]
  split
  · exact hash_lt k (bErr_zero h).2.1
  · have := rank_le (bndS ss n) k
    rw [bndS_len h] at this
    omega
theorem of_mono {ss : List ByteArray} {n : Int} (h : bErr ss n = 0) {a b : ByteArray} (hc : cmpT a b ≤ 0) : ofP (bndS ss n) n a ≤ ofP (bndS ss n) n b := by
  have hb := isParts_bounds (bErr_zero h).2.1
  unfold ofP
  rw [chk_bnd h, if_pos rfl, if_pos rfl]
  split
  · next h0 =>
    rw [bndS_len h] at h0
    have e1 := hash_lt a (bErr_zero h).2.1
    omega
  · exact rank_mono _ hc
end Go.Proofs.Ytdpihfmbkimgpaa.Pa
