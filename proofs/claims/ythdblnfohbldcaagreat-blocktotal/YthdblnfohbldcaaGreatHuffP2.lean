/-
  Package merge: the lengths are whole, in order, and no others cost less.
-/
import Derived.Test.YthdblnfohbldcaaGreatHuffP1
namespace Go.Proofs.YthdblnfohbldcaaGreat.Pm
set_option linter.unusedVariables false
def sumTo : Nat → (Nat → Nat) → Nat
  | 0, _ => 0
  | k + 1, g => sumTo k g + g k
theorem sumTo_congr {k : Nat} {f g : Nat → Nat} (h : ∀ r, r < k → f r = g r) : sumTo k f = sumTo k g := by
  induction k with
  | zero => rfl
  | succ k ih => simp only [sumTo]; rw [ih (fun r hr => h r (by omega)), h k (by omega)]
theorem sumTo_add (k : Nat) (f g : Nat → Nat) : sumTo k (fun r => f r + g r) = sumTo k f + sumTo k g := by
  induction k with
  | zero => rfl
  | succ k ih => simp only [sumTo]; omega
theorem sumTo_le {k : Nat} {f g : Nat → Nat} (h : ∀ r, r < k → f r ≤ g r) : sumTo k f ≤ sumTo k g := by
  induction k with
  | zero => exact Nat.le_refl _
  | succ k ih => simp only [sumTo]; have := ih (fun r hr => h r (by omega)); have := h k (by omega); omega
theorem sumTo_below (x : Nat) : ∀ (k a : Nat), a ≤ k → sumTo k (fun r => if r < a then 0 else x) = (k - a) * x
  | 0, a, h => by simp [sumTo]
  | k + 1, a, h => by
    simp only [sumTo]
    by_cases e : a = k + 1
    · subst e
      rw [sumTo_congr (g := fun _ => 0) (fun r hr => by rw [if_pos (by omega)]), if_pos (by omega), Nat.sub_self]
      have : ∀ n, sumTo n (fun _ => 0) = 0 := by intro n; induction n with | zero => rfl | succ n ih => simp [sumTo, ih]
      rw [this]; simp
    · rw [sumTo_below x k a (by omega), if_neg (by omega), show k + 1 - a = (k - a) + 1 by omega, Nat.add_mul, Nat.one_mul]
theorem sumTo_one (x : Nat) : ∀ k, sumTo k (fun _ => x) = k * x
  | 0 => by simp [sumTo]
  | k + 1 => by simp only [sumTo]; rw [sumTo_one x k, Nat.add_mul, Nat.one_mul]
/-- Things: their symbols, each by itself, the lighter ones first. -/
structure Things (n : Nat) (ts : List Pk) (σ : Nat → Nat) : Prop where
  up : Up ts
  pos : ∀ p ∈ ts, 0 < p.1
  wide : Wide n ts
  one : ∀ a r, a ≤ ts.length → r < ts.length → tally (ts.take a) (σ r) = if r < a then 1 else 0
/-- The weight by rank. -/
def wt (ts : List Pk) (r : Nat) : Nat := (ts.getD r (0, [])).1
theorem weigh_take (ts : List Pk) : ∀ a, a ≤ ts.length → weigh (ts.take a) = sumTo a (wt ts)
  | 0, _ => by simp [weigh, sumTo]
  | a + 1, h => by
    rw [List.take_succ_eq_append_getElem (by omega), weigh_append, weigh_take ts a (by omega)]
    simp only [sumTo, wt]
    rw [List.getD_eq_getElem?_getD, List.getElem?_eq_getElem (by omega)]
    simp [weigh]
theorem wt_get {ts : List Pk} {r : Nat} (h : r < ts.length) : wt ts r = (ts[r]).1 := by
  unfold wt; rw [List.getD_eq_getElem?_getD, List.getElem?_eq_getElem h]; rfl
theorem wt_mono {n : Nat} {ts : List Pk} {σ : Nat → Nat} (T : Things n ts σ) {r q : Nat} (h : r ≤ q) (hq : q < ts.length) : wt ts r ≤ wt ts q := by
  rw [wt_get (by omega), wt_get hq]
  by_cases e : r = q
  · subst e; exact Nat.le_refl _
  · exact (List.pairwise_iff_getElem.1 T.up) r q (by omega) hq (by omega)
/-- The first a things. -/
theorem take_sum {ts : List Pk} (g : Nat → Nat) : ∀ k a, a ≤ k → sumTo k (fun r => g r * (if r < a then 1 else 0)) = sumTo a g := by
  intro k
  induction k with
  | zero => intro a h; obtain rfl : a = 0 := by omega
            rfl
  | succ k ih =>
    intro a h
    simp only [sumTo]
    by_cases e : a = k + 1
    · subst e
      rw [if_pos (by omega), Nat.mul_one]
      simp only [sumTo]
      congr 1
      exact sumTo_congr fun r hr => by rw [if_pos (by omega), Nat.mul_one]
    · rw [ih a (by omega), if_neg (by omega)]; omega
structure Good (n : Nat) (ts : List Pk) (σ : Nat → Nat) (j m A : Nat) (f : Nat → Nat) : Prop where
  le : A ≤ ts.length
  pos : ∀ r, r < ts.length → (0 < f r ↔ r < A)
  mem : ∀ r (h : r < ts.length), r < A → ts[r] ∈ (row ts j).take m
  top : ∀ r, r < ts.length → f r ≤ j + 1
  down : ∀ r q, r ≤ q → q < ts.length → f q ≤ f r
  kraft : sumTo ts.length (fun r => 2 ^ (j + 1 - f r)) + m * 2 ^ j = ts.length * 2 ^ (j + 1)
  cost : weigh ((row ts j).take m) = sumTo ts.length (fun r => wt ts r * f r)
/-- What the first m of a row are. -/
theorem good {n : Nat} {ts : List Pk} {σ : Nat → Nat} (T : Things n ts σ) : ∀ j m, m ≤ (row ts j).length → ∃ A, Good n ts σ j m A (fun r => tally ((row ts j).take m) (σ r))
  | 0, m, h => by
    simp only [row] at h
    refine ⟨m, h, ?_, ?_, ?_, ?_, ?_, ?_⟩
    · intro r hr
      simp only [row, T.one m r h hr]
      by_cases e : r < m <;> simp [e]
    · intro r hr e
      simp only [row]
      exact List.mem_take_iff_getElem.2 ⟨r, by omega, rfl⟩
    · intro r hr
      simp only [row, T.one m r h hr]
      split <;> omega
    · intro r q hrq hq
      simp only [row, T.one m r h (by omega), T.one m q h hq]
      split <;> split <;> omega
    · rw [sumTo_congr (g := fun r => 1 + if r < m then 0 else 1) (fun r hr => by
        simp only [row, T.one m r h hr]
        split <;> rfl), sumTo_add, sumTo_one, sumTo_below 1 _ m h]
      simp; omega
    · simp only [row]
      rw [weigh_take ts m h, ← take_sum (ts := ts) (wt ts) ts.length m h]
      exact sumTo_congr fun r hr => by simp only [T.one m r h hr]
  | j + 1, m, h => by
    simp only [row] at h
    rw [merged_len, paired_len] at h
    have hup := row_up T.up j
    have hpos := row_pos T.pos j
    have hwide := row_wide T.wide j
    obtain ⟨a, b, e1, e2, e3, e4, e5, e6, e7, e8⟩ := merged_take ts (paired (row ts j)) m T.up (paired_up _ hup).1 (by rw [paired_len]; omega)
    rw [paired_len] at e3
    obtain ⟨A, G⟩ := good T j (2 * b) (by omega)
    have ef : ∀ r, r < ts.length → tally ((row ts (j + 1)).take m) (σ r) = (if r < a then 1 else 0) + tally ((row ts j).take (2 * b)) (σ r) := by
      intro r hr
      show tally ((merged ts (paired (row ts j))).take m) (σ r) = _
      rw [e4, T.one a r e2 hr, paired_tally (σ r) _ b hwide e3]
    have hAa : A ≤ a := by
      refine Nat.le_of_not_lt fun hlt => ?_
      have ha : a < ts.length := Nat.lt_of_lt_of_le hlt G.le
      have hl := paired_light (ts[a]).1 (row ts j) b hpos e3 (fun q hq => e6 ts[a] (List.getElem?_eq_getElem ha) q hq)
      have := hl ts[a] (G.mem a ha hlt)
      omega
    have hz : ∀ r, r < ts.length → ¬ r < a → tally ((row ts j).take (2 * b)) (σ r) = 0 := by
      intro r hr hn
      have := (G.pos r hr)
      omega
    refine ⟨a, e2, ?_, ?_, ?_, ?_, ?_, ?_⟩
    · intro r hr
      simp only [ef r hr]
      by_cases e : r < a
      · rw [if_pos e]; exact ⟨fun _ => e, fun _ => by omega⟩
      · rw [hz r hr e]; simp [e]
    · intro r hr e
      exact e8 _ (List.mem_take_iff_getElem.2 ⟨r, by omega, rfl⟩)
    · intro r hr
      simp only [ef r hr]
      have := G.top r hr
      split <;> omega
    · intro r q hrq hq
      simp only [ef r (by omega), ef q hq]
      have := G.down r q hrq hq
      split <;> split <;> omega
    · have ek : ∀ r, r < ts.length → 2 ^ (j + 1 + 1 - tally ((row ts (j + 1)).take m) (σ r)) = 2 ^ (j + 1 - tally ((row ts j).take (2 * b)) (σ r)) + if r < a then 0 else 2 ^ (j + 1) := by
        intro r hr
        rw [ef r hr]
        by_cases e : r < a
        · rw [if_pos e, if_pos e, show j + 1 + 1 - (1 + tally ((row ts j).take (2 * b)) (σ r)) = j + 1 - tally ((row ts j).take (2 * b)) (σ r) by omega]; omega
        · rw [if_neg e, if_neg e, hz r hr e]
          simp only [Nat.add_zero, Nat.sub_zero, Nat.pow_succ]; omega
      rw [sumTo_congr ek, sumTo_add, sumTo_below _ _ a e2]
      have hk := G.kraft
      have p1 : 2 ^ (j + 1 + 1) = 2 * 2 ^ (j + 1) := by rw [Nat.pow_succ]; omega
      have p2 : 2 * b * 2 ^ j = b * 2 ^ (j + 1) := by rw [Nat.pow_succ, Nat.mul_comm 2 b, Nat.mul_assoc, Nat.mul_comm 2 (2 ^ j)]
      rw [p2] at hk
      rw [p1, ← e1, Nat.add_mul]
      generalize 2 ^ (j + 1) = X at *
      have q1 : ts.length * (2 * X) = ts.length * X + ts.length * X := by rw [Nat.mul_left_comm]; omega
      have q2 : (ts.length - a) * X + a * X = ts.length * X := by rw [← Nat.add_mul]; congr 1; omega
      rw [q1]
      omega
    · show weigh ((merged ts (paired (row ts j))).take m) = _
      rw [e5, paired_weigh _ b e3, G.cost, weigh_take ts a e2, ← take_sum (ts := ts) (wt ts) ts.length a e2, ← sumTo_add]
      exact sumTo_congr fun r hr => by simp only [ef r hr, Nat.mul_add]
/-- A row has as many as its width lets it have. -/
theorem row_cap (ts : List Pk) : ∀ j, ts.length * (2 ^ (j + 1) - 1) < ((row ts j).length + 1) * 2 ^ j
  | 0 => by simp [row]
  | j + 1 => by
    have ih := row_cap ts j
    simp only [row]
    rw [merged_len, paired_len]
    have p1 : 2 ^ (j + 1 + 1) = 2 * 2 ^ (j + 1) := by rw [Nat.pow_succ]; omega
    have p2 : 2 ^ (j + 1) = 2 * 2 ^ j := by rw [Nat.pow_succ]; omega
    have hx : 0 < 2 ^ j := Nat.two_pow_pos j
    have h1 : ((row ts j).length + 1) * 2 ^ j ≤ ((row ts j).length / 2 + 1) * 2 ^ (j + 1) := by
      rw [p2, ← Nat.mul_assoc]
      exact Nat.mul_le_mul_right _ (by omega)
    have h2 : ts.length * (2 ^ (j + 1 + 1) - 1) = ts.length * 2 ^ (j + 1) + ts.length * (2 ^ (j + 1) - 1) := by
      rw [← Nat.mul_add]; congr 1; omega
    rw [h2, show ts.length + (row ts j).length / 2 + 1 = ts.length + ((row ts j).length / 2 + 1) by omega, Nat.add_mul]
    omega
/-- The lightest m are no heavier than any m. -/
theorem mask_least (c : Nat → Nat) (k0 : Nat) (hc : ∀ r q, r ≤ q → q < k0 → c r ≤ c q) (l : Nat → Nat) : ∀ k, k ≤ k0 → sumTo k (fun r => if 0 < l r then 1 else 0) ≤ k ∧ ∀ m, m ≤ sumTo k (fun r => if 0 < l r then 1 else 0) → sumTo m c ≤ sumTo k (fun r => if 0 < l r then c r else 0)
  | 0, _ => ⟨Nat.le_refl _, fun m h => by
      simp only [sumTo] at h
      obtain rfl : m = 0 := by omega
      exact Nat.le_refl _⟩
  | k + 1, hk => by
    obtain ⟨i1, i2⟩ := mask_least c k0 hc l k (by omega)
    simp only [sumTo]
    by_cases e : 0 < l k
    · rw [if_pos e, if_pos e]
      refine ⟨by omega, fun m h => ?_⟩
      by_cases e2 : m = sumTo k (fun r => if 0 < l r then 1 else 0) + 1
      · subst e2
        simp only [sumTo]
        have := i2 _ (Nat.le_refl _)
        have := hc _ k i1 (by omega)
        omega
      · have := i2 m (by omega)
        omega
    · rw [if_neg e, if_neg e]
      exact ⟨by omega, fun m h => by have := i2 m (by omega); omega⟩
/-- No lengths whose widths suffice weigh less than the first m of a row. -/
theorem least {n : Nat} {ts : List Pk} {σ : Nat → Nat} (T : Things n ts σ) : ∀ (j m : Nat) (l : Nat → Nat), (∀ r, r < ts.length → l r ≤ j + 1) → sumTo ts.length (fun r => 2 ^ (j + 1 - l r)) + m * 2 ^ j ≤ ts.length * 2 ^ (j + 1) →
    weigh ((row ts j).take m) ≤ sumTo ts.length (fun r => wt ts r * l r)
  | 0, m, l, hl, h => by
    have hmask := (mask_least (wt ts) ts.length (fun r q h1 h2 => wt_mono T h1 h2) l ts.length (Nat.le_refl _))
    have e1 : sumTo ts.length (fun r => 2 ^ (0 + 1 - l r)) + sumTo ts.length (fun r => if 0 < l r then 1 else 0) = ts.length * 2 := by
      rw [← sumTo_add, sumTo_congr (g := fun _ => 2) (fun r hr => ?_), sumTo_one]
      have := hl r hr
      rcases Nat.eq_zero_or_pos (l r) with e | e
      · rw [e]; rfl
      · rw [if_pos e, show l r = 1 by omega]
    simp only [Nat.pow_zero, Nat.mul_one, Nat.zero_add, Nat.pow_one] at h e1
    have hm : m ≤ sumTo ts.length (fun r => if 0 < l r then 1 else 0) := by omega
    simp only [row]
    rw [weigh_take ts m (by omega)]
    refine Nat.le_trans (hmask.2 m hm) (sumTo_le fun r hr => ?_)
    rcases Nat.eq_zero_or_pos (l r) with e | e
    · rw [e]; simp
    · rw [if_pos e]; exact Nat.le_mul_of_pos_right _ e
  | j + 1, m, l, hl, h => by
    have hmask := (mask_least (wt ts) ts.length (fun r q h1 h2 => wt_mono T h1 h2) l ts.length (Nat.le_refl _))
    obtain ⟨a, ha⟩ : ∃ a, sumTo ts.length (fun r => if 0 < l r then 1 else 0) = a := ⟨_, rfl⟩
    rw [ha] at hmask
    have e1 : sumTo ts.length (fun r => 2 ^ (j + 1 + 1 - l r)) + a * 2 ^ (j + 1) = sumTo ts.length (fun r => 2 ^ (j + 1 - (l r - 1))) + ts.length * 2 ^ (j + 1) := by
      have : a * 2 ^ (j + 1) = sumTo ts.length (fun r => if 0 < l r then 2 ^ (j + 1) else 0) := by
        rw [← ha]
        have : ∀ k, sumTo k (fun r => if 0 < l r then 1 else 0) * 2 ^ (j + 1) = sumTo k (fun r => if 0 < l r then 2 ^ (j + 1) else 0) := by
          intro k
          induction k with
          | zero => simp [sumTo]
          | succ k ih =>
            simp only [sumTo]
            rw [Nat.add_mul, ih]
            congr 1
            split <;> simp
        exact this _
      rw [this, ← sumTo_one, ← sumTo_add, ← sumTo_add]
      refine sumTo_congr fun r hr => ?_
      have h1 := hl r hr
      rcases Nat.eq_zero_or_pos (l r) with e | e
      · rw [e]
        simp only [Nat.sub_zero, Nat.lt_irrefl, if_false, Nat.zero_sub, Nat.pow_succ]; omega
      · rw [if_pos e, show j + 1 + 1 - l r = j + 1 - (l r - 1) by omega]
    have ec : sumTo ts.length (fun r => wt ts r * l r) = sumTo ts.length (fun r => if 0 < l r then wt ts r else 0) + sumTo ts.length (fun r => wt ts r * (l r - 1)) := by
      rw [← sumTo_add]
      refine sumTo_congr fun r hr => ?_
      rcases Nat.eq_zero_or_pos (l r) with e | e
      · rw [e]; simp
      · rw [if_pos e]
        obtain ⟨q, hq⟩ : ∃ q, l r = q + 1 := ⟨l r - 1, by omega⟩
        rw [hq, Nat.add_sub_cancel, Nat.mul_add]; omega
    have p1 : 2 ^ (j + 1 + 1) = 2 * 2 ^ (j + 1) := by rw [Nat.pow_succ]; omega
    have hup := row_up T.up j
    rw [ec]
    show weigh ((merged ts (paired (row ts j))).take m) ≤ _
    by_cases hma : m ≤ a
    · have hk : m ≤ ts.length := by omega
      have h2 := merged_least ts (paired (row ts j)) m 0 T.up (paired_up _ hup).1 hk (Nat.zero_le _)
      rw [weigh_take ts m hk] at h2
      have := hmask.2 m hma
      have e0 : weigh ((paired (row ts j)).take 0) = 0 := by simp [weigh]
      rw [Nat.add_zero] at h2
      omega
    · obtain ⟨b, hb⟩ : ∃ b, m = a + b := ⟨m - a, by omega⟩
      subst hb
      have p2 : 2 * b * 2 ^ j = b * 2 ^ (j + 1) := by rw [Nat.pow_succ, Nat.mul_comm 2 b, Nat.mul_assoc, Nat.mul_comm 2 (2 ^ j)]
      have hs : sumTo ts.length (fun r => 2 ^ (j + 1 - (l r - 1))) + 2 * b * 2 ^ j ≤ ts.length * 2 ^ (j + 1) := by
        rw [p2]
        rw [p1, Nat.add_mul] at h
        have q1 : ts.length * (2 * 2 ^ (j + 1)) = ts.length * 2 ^ (j + 1) + ts.length * 2 ^ (j + 1) := by rw [Nat.mul_left_comm]; omega
        rw [q1] at h
        omega
      have ih := least T j (2 * b) (fun r => l r - 1) (fun r hr => by have := hl r hr; omega) hs
      have hlen : 2 * b ≤ (row ts j).length := by
        have hc := row_cap ts j
        have h1 : ts.length ≤ sumTo ts.length (fun r => 2 ^ (j + 1 - (l r - 1))) := by
          have := sumTo_le (k := ts.length) (f := fun _ => 1) (g := fun r => 2 ^ (j + 1 - (l r - 1))) (fun r _ => Nat.two_pow_pos _)
          rw [sumTo_one] at this
          omega
        have h2 : ts.length * (2 ^ (j + 1) - 1) + ts.length = ts.length * 2 ^ (j + 1) := by
          have : 0 < 2 ^ (j + 1) := Nat.two_pow_pos _
          rw [← Nat.mul_succ]; congr 1; omega
        have h3 : 2 * b * 2 ^ j < ((row ts j).length + 1) * 2 ^ j := by omega
        have := Nat.lt_of_mul_lt_mul_right h3
        omega
      have h2 := merged_least ts (paired (row ts j)) a b T.up (paired_up _ hup).1 hmask.1 (by rw [paired_len]; omega)
      rw [paired_weigh _ b (by omega), weigh_take ts a hmask.1] at h2
      have := hmask.2 a (Nat.le_refl _)
      omega
end Go.Proofs.YthdblnfohbldcaaGreat.Pm
