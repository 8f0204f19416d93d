/-
  Filters and bytes, there and back.
-/
import Derived.Test.YtmndjgmlndpgaaaDoorFiEnc
import Derived.Test.YtmndjgmlndpgaaaDoorFiDec2
namespace Go.Proofs.YtmndjgmlndpgaaaDoor.Filt
open Go.Proofs.YtmndjgmlndpgaaaDoor.Base Go.Proofs.YtmndjgmlndpgaaaDoor.Nums Go.Proofs.YtmndjgmlndpgaaaDoor.Curs
set_option linter.unusedVariables false
theorem readF_cons (c : BitVec 8) (rest : List (BitVec 8)) : readF (c :: rest) = if c = 0 then (zeroF, decide (rest = [])) else if c = 255 then (⟨true, 0, []⟩, decide (rest = []))
    else (⟨false, (c.toNat : Int), (textAt rest 4096).2.2⟩, decide ((textAt rest 4096).2.1 = 0 ∧ rest.length ≤ (textAt rest 4096).1)) := rfl
theorem fw_two {f : Fw} (h : f.kind = 2) : f.all = false ∧ 1 ≤ f.hashes ∧ f.hashes ≤ 8 ∧ 1 ≤ f.data.length ∧ f.data.length ≤ 4096 := by
  rcases kind_range f.all f.hashes f.data.length with ⟨e, _⟩ | ⟨e, _⟩ | ⟨e, h1⟩ | e
  · unfold Fw.kind at h; omega
  · unfold Fw.kind at h; omega
  · exact h1
  · unfold Fw.kind at h; omega
theorem kind_cases (f : Fw) : f = ⟨false, 0, []⟩ ∨ f = ⟨true, 0, []⟩ ∨ f.kind = 2 ∨ f.kind = 3 := by
  obtain ⟨A, H, D⟩ := f
  rcases kind_range A H D.length with ⟨e, h1, h2, h3⟩ | ⟨e, h1, h2, h3⟩ | ⟨e, _⟩ | e
  · left; rw [h1, h2, List.length_eq_zero_iff.1 h3]
  · right; left; rw [h1, h2, List.length_eq_zero_iff.1 h3]
  · right; right; left; exact e
  · right; right; right; exact e
theorem kind_of_two {N : Int} {D : List (BitVec 8)} (h1 : 1 ≤ N) (h2 : N ≤ 8) (h3 : 1 ≤ D.length) (h4 : D.length ≤ 4096) : (⟨false, N, D⟩ : Fw).kind = 2 := by
  unfold Fw.kind kindN
  simp only
  rw [if_neg (by omega), if_neg (by simp), if_pos (by simp; omega)]
theorem text_put (D : List (BitVec 8)) (h : D.length ≤ 4096) : textAt (put D.length ++ D) 4096 = ((put D.length).length + D.length, 0, D) := by
  have hg := get_put D.length D (by omega)
  have ha : atMost (put D.length ++ D) 4096 = (D.length, (put D.length).length, 0) := by
    unfold atMost
    rw [hg]
    simp only [ne_eq, not_true_eq_false, if_false]
    rw [if_neg (by omega)]
  unfold textAt
  rw [ha]
  simp only [ne_eq, not_true_eq_false, if_false]
  rw [if_neg (by rw [List.length_append]; omega), List.drop_left, List.take_of_length_le (Nat.le_refl _)]
/-- What Encode tells is read as the filter. -/
theorem dec_enc (f : Fw) (h : (encF f).2 = 0) : decF (encF f).1 = (f, 0) ∧ (encF f).1.length ≤ 4099 := by
  rcases kind_cases f with rfl | rfl | h2 | h3
  · exact ⟨rfl, by decide⟩
  · exact ⟨rfl, by decide⟩
  · obtain ⟨g1, g2, g3, g4, g5⟩ := fw_two h2
    obtain ⟨A, H, D⟩ := f
    simp only at g1 g2 g3 g4 g5
    subst g1
    have e1 : (encF ⟨false, H, D⟩).1 = B8 H.toNat :: (put D.length ++ D) := by
      unfold encF
      rw [if_neg (by rw [h2]; omega), if_neg (by rw [h2]; omega), if_pos h2]
    have hH : ((B8 H.toNat).toNat : Int) = H := by rw [B8_toNat _ (by omega)]; omega
    have n0 : B8 H.toNat ≠ 0 := fun e => by rw [e] at hH; have : ((0 : BitVec 8).toNat : Int) = 0 := rfl; omega
    have n1 : B8 H.toNat ≠ 255 := fun e => by rw [e] at hH; have : ((255 : BitVec 8).toNat : Int) = 255 := rfl; omega
    have e2 : readF (B8 H.toNat :: (put D.length ++ D)) = (⟨false, H, D⟩, true) := by
      rw [readF_cons, if_neg n0, if_neg n1, text_put D g5, hH]
      simp
    refine ⟨?_, ?_⟩
    · rw [e1]
      unfold decF
      rw [e2, if_pos ⟨rfl, by show (⟨false, H, D⟩ : Fw).kind ≠ 3; rw [h2]; omega⟩]
    · have := put_length 1 D.length (by omega)
      rw [e1, List.length_cons, List.length_append]
      omega
  · exfalso
    unfold encF at h
    rw [if_neg (by rw [h3]; omega), if_neg (by rw [h3]; omega), if_neg (by rw [h3]; omega)] at h
    simp at h
theorem dec_err (bs : List (BitVec 8)) : (decF bs).2 = 0 ∨ decF bs = (⟨false, 0, []⟩, 70) := by
  unfold decF
  split
  · left; rfl
  · right; rfl
/-- What Decode takes is told in just these bytes. -/
theorem enc_dec (bs : List (BitVec 8)) (h : (decF bs).2 = 0) : encF (decF bs).1 = (bs, 0) := by
  unfold decF at h ⊢
  by_cases hc : (readF bs).2 = true ∧ (readF bs).1.kind ≠ 3
  · rw [if_pos hc]
    show encF (readF bs).1 = _
    obtain ⟨h1, h2⟩ := hc
    rcases bs with _ | ⟨c, rest⟩
    · cases h1
    · by_cases h0 : c = 0
      · subst h0
        have e : readF (0 :: rest) = (zeroF, decide (rest = [])) := rfl
        rw [e] at h1 ⊢
        have : rest = [] := of_decide_eq_true h1
        subst this
        rfl
      · by_cases h5 : c = 255
        · subst h5
          have e : readF (255 :: rest) = (⟨true, 0, []⟩, decide (rest = [])) := rfl
          rw [e] at h1 ⊢
          have : rest = [] := of_decide_eq_true h1
          subst this
          rfl
        · have e : readF (c :: rest) = (⟨false, (c.toNat : Int), (textAt rest 4096).2.2⟩, decide ((textAt rest 4096).2.1 = 0 ∧ rest.length ≤ (textAt rest 4096).1)) := by
            rw [readF_cons, if_neg h0, if_neg h5]
          rw [e] at h1 h2 ⊢
          simp only at h1 h2 ⊢
          obtain ⟨t0, t1⟩ := of_decide_eq_true h1
          have hk : (⟨false, (c.toNat : Int), (textAt rest 4096).2.2⟩ : Fw).kind = 2 := by
            rcases kind_cases ⟨false, (c.toNat : Int), (textAt rest 4096).2.2⟩ with k | k | k | k
            · exfalso
              have k2 : (c.toNat : Int) = 0 := (Fw.mk.inj k).2.1
              exact h0 (BitVec.eq_of_toNat_eq (by have : (0 : BitVec 8).toNat = 0 := rfl; omega))
            · exfalso; have := (Fw.mk.inj k).1; cases this
            · exact k
            · exact absurd k h2
          unfold encF
          rw [if_neg (by rw [hk]; omega), if_neg (by rw [hk]; omega), if_pos hk]
          simp only [Int.toNat_natCast]
          rw [B8_val]
          have key : put (textAt rest 4096).2.2.length ++ (textAt rest 4096).2.2 = rest := by
            have hA : (atMost rest 4096).2.2 = 0 := by
              by_cases hh : (atMost rest 4096).2.2 = 0
              · exact hh
              · exfalso; unfold textAt at t0; rw [if_pos hh] at t0; exact hh t0
            have hB : ¬ rest.length - (atMost rest 4096).2.1 < (atMost rest 4096).1 := by
              intro hh
              unfold textAt at t0
              rw [if_neg (by rw [hA]; simp), if_pos hh] at t0
              simp at t0
            have ht : textAt rest 4096 = ((atMost rest 4096).2.1 + (atMost rest 4096).1, 0, (rest.drop (atMost rest 4096).2.1).take (atMost rest 4096).1) := by
              unfold textAt; rw [if_neg (by rw [hA]; simp), if_neg hB]
            have hG : atMost rest 4096 = get rest ∧ (get rest).2.2 = 0 := by
              unfold atMost at hA ⊢
              by_cases hg : (get rest).2.2 ≠ 0
              · rw [if_pos hg] at hA; exact absurd hA hg
              · rw [if_neg hg] at hA ⊢
                by_cases hm : (4096 : Int) < ((get rest).1 : Int)
                · rw [if_pos hm] at hA; simp at hA
                · rw [if_neg hm]; exact ⟨rfl, by simpa using hg⟩
            rw [ht] at t1 ⊢
            rw [hG.1] at t1 hB ⊢
            simp only at t1 ⊢
            rcases get_cases rest with ⟨u, m, g1, _, _, g3, g4, _⟩ | ⟨g1, _⟩ | ⟨g1, _⟩
            · rw [g1] at t1 hB ⊢
              simp only at t1 hB ⊢
              have hl : ((rest.drop m).take u).length = u := by rw [List.length_take, List.length_drop]; omega
              rw [hl, g4, List.take_of_length_le (l := rest.drop m) (by rw [List.length_drop]; omega), List.take_append_drop]
            · rw [g1] at hG; exact absurd hG.2 (by decide)
            · rw [g1] at hG; exact absurd hG.2 (by decide)
          rw [key]
  · rw [if_neg hc] at h; exact absurd h (by decide)
end Go.Proofs.YtmndjgmlndpgaaaDoor.Filt
