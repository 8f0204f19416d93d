/-
  A pass of merging: pieces of one width sorted become pieces of twice the width sorted.
-/
import Derived.Test.YtlbplicafcoifaaSoRow
namespace Go.Proofs.Ytlbplicafcoifaa.So
set_option linter.unusedVariables false
/-- Each piece of the width wd is sorted. -/
def CH (wd n : Nat) (F L : Nat → Rec) : Prop := ∀ q, seg F (q * wd) (min ((q + 1) * wd) n) = isort (seg L (q * wd) (min ((q + 1) * wd) n))
theorem isort_one (r : Rec) : isort [r] = [r] := rfl
theorem isort_nil : isort [] = [] := rfl
theorem ch_one (n : Nat) (L : Nat → Rec) : CH 1 n L L := by
  intro q
  rw [Nat.mul_one, Nat.mul_one]
  by_cases h : q < n
  · rw [show min (q + 1) n = q + 1 by omega, seg_cons L q (q + 1) (by omega), seg_nil L (q + 1) (q + 1) (by omega), isort_one]
  · rw [seg_nil L q _ (by omega), isort_nil]
theorem ch_step (wd n q : Nat) (F L : Nat → Rec) (h : CH wd n F L) (hf : q * (2 * wd) < n) (mid en : Nat) (hm : mid = min (q * (2 * wd) + wd) n) (he : en = min (mid + wd) n) :
    mrg (seg F (q * (2 * wd)) mid) (seg F mid en) = isort (seg L (q * (2 * wd)) en) ∧ en = min ((q + 1) * (2 * wd)) n := by
  have e1 : 2 * q * wd = q * (2 * wd) := by rw [Nat.mul_comm 2 q, Nat.mul_assoc]
  have e2 : (2 * q + 1) * wd = q * (2 * wd) + wd := by rw [Nat.succ_mul, e1]
  have e3 : (2 * q + 1 + 1) * wd = q * (2 * wd) + wd + wd := by rw [Nat.succ_mul, e2]
  have e4 : (q + 1) * (2 * wd) = q * (2 * wd) + wd + wd := by rw [Nat.succ_mul]; omega
  have h1 := h (2 * q)
  have h2 := h (2 * q + 1)
  rw [e1, e2] at h1
  rw [e2, e3] at h2
  rw [e4]
  generalize q * (2 * wd) = f at *
  rw [← hm] at h1
  have hen : en = min (f + wd + wd) n := by omega
  refine ⟨?_, hen⟩
  by_cases hc : f + wd ≤ n
  · have hmid : mid = f + wd := by omega
    rw [← hmid] at h2
    rw [show min (mid + wd) n = en by omega] at h2
    rw [h1, h2, mrg_isort, seg_append L f mid en (by omega) (by omega)]
  · have hmid : mid = n := by omega
    have hen2 : en = n := by omega
    rw [hmid] at h1
    rw [hmid, hen2, seg_nil F n n (Nat.le_refl _), mrg_nil, h1]
theorem ch_next (wd n q : Nat) (F L G : Nat → Rec) (hd : ∀ q, n ≤ q * (2 * wd) ∨ seg G (q * (2 * wd)) (min ((q + 1) * (2 * wd)) n) = isort (seg L (q * (2 * wd)) (min ((q + 1) * (2 * wd)) n))) : CH (2 * wd) n G L := by
  intro q
  rcases hd q with h | h
  · rw [seg_nil G _ _ (by omega), seg_nil L _ _ (by omega), isort_nil]
  · exact h
theorem ch_end (wd n : Nat) (F L : Nat → Rec) (h : CH wd n F L) (hn : n ≤ wd) : seg F 0 n = isort (seg L 0 n) := by
  have := h 0
  rw [Nat.zero_mul, Nat.zero_add, Nat.one_mul, show min wd n = n by omega] at this
  exact this
theorem mem_seg (F : Nat → Rec) (a b : Nat) (r : Rec) (h : r ∈ seg F a b) : ∃ j, r = F j := by
  unfold seg at h
  obtain ⟨j, _, rfl⟩ := List.mem_map.1 h
  exact ⟨_, rfl⟩
/-- Of all that a property says of. -/
theorem putF_all (P : Rec → Prop) (F G : Nat → Rec) (f a m b e i : Nat) (h0 : P rec0) (hF : ∀ j, P (F j)) (hG : ∀ j, P (G j)) : ∀ j, P (putF G f (mrg (seg F a m) (seg F b e)) i j) := by
  intro j
  unfold putF
  split
  · rw [List.getD_eq_getElem?_getD]
    cases hq : (mrg (seg F a m) (seg F b e))[j - f]? with
    | none => exact h0
    | some r =>
      have hr : r ∈ mrg (seg F a m) (seg F b e) := List.mem_of_getElem? hq
      unfold mrg at hr
      rcases List.mem_merge.1 hr with hr | hr
      · obtain ⟨k, rfl⟩ := mem_seg _ _ _ _ hr; exact hF k
      · obtain ⟨k, rfl⟩ := mem_seg _ _ _ _ hr; exact hF k
  · exact hG j
theorem seg_putF_low (G : Nat → Rec) (f : Nat) (M : List Rec) (i a b : Nat) (h : b ≤ f) : seg (putF G f M i) a b = seg G a b := by
  apply seg_congr
  intro j h1 h2
  unfold putF
  rw [if_neg (by omega)]
end Go.Proofs.Ytlbplicafcoifaa.So
