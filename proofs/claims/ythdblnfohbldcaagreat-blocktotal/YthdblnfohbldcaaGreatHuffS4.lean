/-
  The things of counts: in order, each by itself; what fits.
-/
import Derived.Test.YthdblnfohbldcaaGreatHuffS3
import Derived.Test.YthdblnfohbldcaaGreatHuffQ6
import Derived.Test.YthdblnfohbldcaaGreatHuffP3
import Derived.Test.YthdblnfohbldcaaGreatHuffC1
namespace Go.Proofs.YthdblnfohbldcaaGreat.Pm
open Go.Proofs.YthdblnfohbldcaaGreat.Base
set_option linter.unusedVariables false
theorem ordered_unique {cs : List Int} {os os' : List Nat} (h : Ordered cs os) (h' : Ordered cs os') : os = os' := by
  refine List.Perm.eq_of_pairwise ?_ h.2 h'.2 (h.1.trans h'.1.symm)
  intro a b _ _ h1 h2
  unfold aheadOf at h1 h2
  omega
theorem ordered_nodup {cs : List Int} {os : List Nat} (h : Ordered cs os) : os.Nodup := h.1.nodup_iff.2 (symsTo_nodup cs cs.length)
theorem ordered_mem {cs : List Int} {os : List Nat} (h : Ordered cs os) (s : Nat) : s ∈ os ↔ s < cs.length ∧ 0 < cs.getD s 0 := by
  rw [h.1.mem_iff]; unfold symsTo; rw [List.mem_filter, List.mem_range, decide_eq_true_iff]
theorem ordered_len {cs : List Int} {os : List Nat} (h : Ordered cs os) : os.length ≤ cs.length := by
  rw [h.1.length_eq]; exact symsTo_len cs cs.length
theorem thingOf_get (cs : List Int) (x s : Nat) (hs : s < 256) : (thingOf cs x).2.getD s 0 = if x = s then 1 else 0 := by
  unfold thingOf
  simp only [List.getD_eq_getElem?_getD, List.getElem?_set, List.length_replicate, List.getElem?_replicate]
  by_cases e : x = s
  · subst e; simp [hs]
  · simp [e, hs]
theorem things_tally (cs : List Int) (s : Nat) (hs : s < 256) : ∀ os : List Nat, tally (thingsOf cs os) s = os.count s
  | [] => rfl
  | x :: os => by
    have e : thingsOf cs (x :: os) = thingOf cs x :: thingsOf cs os := rfl
    rw [e, tally_cons, things_tally cs s hs os, thingOf_get cs x s hs, List.count_cons]
    by_cases h : x = s <;> simp [h] <;> omega
theorem count_take {os : List Nat} (hn : os.Nodup) (a r : Nat) (ha : a ≤ os.length) (hr : r < os.length) : (os.take a).count (os.getD r 0) = if r < a then 1 else 0 := by
  have hnt : (os.take a).Nodup := hn.sublist (List.take_sublist a os)
  have e : os.getD r 0 = os[r] := by rw [List.getD_eq_getElem?_getD, List.getElem?_eq_getElem hr]; rfl
  rw [hnt.count, e]
  have : os[r] ∈ os.take a ↔ r < a := by
    rw [List.mem_take_iff_getElem]
    constructor
    · rintro ⟨i, hi, he⟩
      have hp := List.pairwise_iff_getElem.1 hn
      rcases Nat.lt_trichotomy i r with h | h | h
      · exact absurd he (hp i r (by omega) hr h)
      · omega
      · exact absurd he.symm (hp r i hr (by omega) h)
    · intro h
      exact ⟨r, by omega, rfl⟩
  by_cases h : r < a
  · rw [if_pos (this.2 h), if_pos h]
  · rw [if_neg (fun x => h (this.1 x)), if_neg h]
theorem things_ok {cs : List Int} {os : List Nat} (h : Ordered cs os) (hl : cs.length ≤ 256) : Things 256 (thingsOf cs os) (fun r => os.getD r 0) where
  up := by
    unfold Up thingsOf
    rw [List.pairwise_map]
    refine List.Pairwise.imp ?_ h.2
    intro x y hxy
    unfold aheadOf at hxy
    simp only [thingOf]
    omega
  pos := by
    intro p hp
    obtain ⟨s, hs, rfl⟩ := List.mem_map.1 hp
    have := ((ordered_mem h s).1 hs).2
    simp only [thingOf]
    omega
  wide := things_wide cs os
  one := by
    intro a r ha hr
    rw [things_len] at ha hr
    have hm : os.getD r 0 ∈ os := by rw [List.getD_eq_getElem?_getD, List.getElem?_eq_getElem hr]; exact List.getElem_mem _
    have hs := ((ordered_mem h _).1 hm).1
    have e : (thingsOf cs os).take a = thingsOf cs (os.take a) := by unfold thingsOf; rw [List.map_take]
    rw [e, things_tally cs _ (by omega), count_take (ordered_nodup h) a r ha hr]
theorem things_one {cs : List Int} {os : List Nat} (h : Ordered cs os) (hl : cs.length ≤ 256) (s : Nat) : tally (thingsOf cs os) s ≤ 1 := by
  by_cases hs : s < 256
  · rw [things_tally cs s hs]
    exact List.nodup_iff_count.1 (ordered_nodup h) s
  · have : ∀ l : List Pk, Wide 256 l → tally l s = 0 := by
      intro l
      induction l with
      | nil => intro _; rfl
      | cons p l ih =>
        intro hw
        rw [tally_cons, ih (fun q hq => hw q (by simp [hq])), List.getD_eq_getElem?_getD, List.getElem?_eq_none (by rw [hw p (by simp)]; omega)]
        rfl
    rw [this _ (things_wide cs os)]; omega
theorem things_fit {cs : List Int} {os : List Nat} (h : Ordered cs os) (hl : cs.length ≤ 256) (hc : Huff.allIn 1099511627776 cs = true) (j : Nat) (hj : j < 15) : Fits (thingsOf cs os) j where
  w := by
    intro p hp
    have h1 : ∀ q ∈ thingsOf cs os, q.1 ≤ 1099511627776 := by
      intro q hq
      obtain ⟨s, hs, rfl⟩ := List.mem_map.1 hq
      have := (Huff.allIn_get hc s ((ordered_mem h s).1 hs).1).2
      simp only [thingOf]
      omega
    have h2 := row_weight h1 j p hp
    have h3 : 2 ^ j ≤ 2 ^ 14 := Nat.pow_le_pow_right (by decide) (by omega)
    have h4 : 2 ^ j * 1099511627776 ≤ 2 ^ 14 * 1099511627776 := Nat.mul_le_mul_right _ h3
    omega
  t := by
    intro p hp s
    have h1 := mem_tally s _ p hp
    have h2 := row_tally (things_wide cs os) s j
    have h3 := things_one h hl s
    have h4 : (j + 1) * tally (thingsOf cs os) s ≤ (j + 1) * 1 := Nat.mul_le_mul_left _ h3
    omega
/-- What is taken, entry by entry. -/
theorem taken_t {cs : List Int} {os : List Nat} (h : Ordered cs os) (hl : cs.length ≤ 256) (rows : Nat) (h1 : 1 ≤ rows) (h15 : rows ≤ 15) (s : Nat) : tally (takenOf (thingsOf cs os) rows) s ≤ rows := by
  unfold takenOf
  split
  · have := things_one h hl s; omega
  · have h2 := row_tally (things_wide cs os) s (rows - 1)
    have h3 := things_one h hl s
    have h4 : (rows - 1 + 1) * tally (thingsOf cs os) s ≤ (rows - 1 + 1) * 1 := Nat.mul_le_mul_left _ h3
    have h5 := tally_take_le s (row (thingsOf cs os) (rows - 1)) (2 * (thingsOf cs os).length - 2)
    unfold cut
    omega
end Go.Proofs.YthdblnfohbldcaaGreat.Pm
