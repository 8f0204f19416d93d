/-
  Lengths that are taken: they fit, and no others cost less.
-/
import Derived.Test.YthdblnfohbldcaaGreatHuffL1
namespace Go.Proofs.YthdblnfohbldcaaGreat.Pm
open Go.Proofs.YthdblnfohbldcaaGreat.Base
set_option linter.unusedVariables false
theorem sumTo_list (G : Nat → Nat) : ∀ k, sumTo k G = ((List.range k).map G).sum
  | 0 => rfl
  | k + 1 => by simp only [sumTo]; rw [sumTo_list G k, List.range_succ, List.map_append, List.sum_append]; simp
theorem sum_rank (G : Nat → Nat) : ∀ os : List Nat, (os.map G).sum = sumTo os.length (fun r => G (os.getD r 0)) := by
  intro os
  rw [sumTo_list]
  congr 1
  apply List.ext_getElem
  · simp
  · intro i h1 h2
    have hi : i < os.length := by simpa using h1
    simp only [List.getElem_map, List.getElem_range]
    rw [List.getD_eq_getElem?_getD, List.getElem?_eq_getElem hi]; rfl
theorem sum_filter (G : Nat → Nat) (p : Nat → Bool) : ∀ l : List Nat, (∀ s ∈ l, p s = false → G s = 0) → (l.map G).sum = ((l.filter p).map G).sum
  | [], _ => rfl
  | x :: l, h => by
    have ih := sum_filter G p l (fun s hs => h s (by simp [hs]))
    rw [List.map_cons, List.sum_cons, List.filter_cons]
    cases hp : p x with
    | true => rw [if_pos rfl, List.map_cons, List.sum_cons, ih]
    | false => rw [if_neg (by decide), ih, h x (by simp) hp]; omega
/-- Sums over symbols, of which those without a count are nothing, are sums over ranks. -/
theorem sum_syms {cs : List Int} {os : List Nat} (h : Ordered cs os) (G : Nat → Nat) (h0 : ∀ s, s < cs.length → ¬ 0 < cs.getD s 0 → G s = 0) : sumTo cs.length G = sumTo os.length (fun r => G (os.getD r 0)) := by
  rw [sumTo_list, sum_filter G (fun s => decide (0 < cs.getD s 0)) (List.range cs.length) (fun s hs hp => h0 s (List.mem_range.1 hs) (of_decide_eq_false hp)), ← sum_rank]
  exact ((h.1.map G).sum_nat).symm
theorem cost_nat (cs ls : List Int) (C F : Nat → Nat) (k : Nat) (h : ∀ s, s < k → cs.getD s 0 = (C s : Int) ∧ ls.getD s 0 = (F s : Int)) : Huff.sumTo cs ls k = ((sumTo k (fun s => C s * F s) : Nat) : Int) := by
  induction k with
  | zero => rfl
  | succ k ih =>
    simp only [Huff.sumTo, sumTo]
    rw [ih (fun s hs => h s (by omega)), (h k (by omega)).1, (h k (by omega)).2]
    simp
theorem kraft_nat (xs : List Int) (k : Nat) (hk : k ≤ xs.length) : kraftTo xs k = sumTo k (fun s => share (xs.getD s 0)) := by
  induction k with
  | zero => rfl
  | succ k ih =>
    rw [kraftTo_add xs k (by omega), ih (by omega)]
    rfl
theorem lensBy_get (cs : List Int) (lim s : Nat) (h : s < cs.length) : (lensBy cs lim).getD s 0 = ((tally (takenBy cs lim) s : Nat) : Int) := by
  unfold lensBy
  rw [List.getD_eq_getElem?_getD, List.getElem?_map, List.getElem?_range h]; rfl
theorem lensBy_len (cs : List Int) (lim : Nat) : (lensBy cs lim).length = cs.length := by simp [lensBy]
theorem share_nat (n : Nat) (h1 : 0 < n) (h2 : n ≤ 15) : share (n : Int) = 2 ^ (15 - n) := by
  unfold share; rw [if_pos (by omega), Int.toNat_natCast]
theorem share_zero : share 0 = 0 := by unfold share; rw [if_neg (by omega)]
theorem pow_split (top n : Nat) (h : n ≤ top) (h2 : top ≤ 15) : 2 ^ (15 - n) = 2 ^ (15 - top) * 2 ^ (top - n) := by
  rw [← Nat.pow_add]; congr 1; omega
theorem sumTo_mul (x : Nat) (f : Nat → Nat) : ∀ k, sumTo k (fun r => x * f r) = x * sumTo k f
  | 0 => rfl
  | k + 1 => by simp only [sumTo]; rw [sumTo_mul x f k, Nat.mul_add]
/-- What is known of the lengths that are taken, by ranks. -/
structure Fine (cs : List Int) (top : Nat) (f : Nat → Nat) : Prop where
  get : ∀ r, r < (orderOf cs).length → tally (takenBy cs top) ((orderOf cs).getD r 0) = f r
  pos : ∀ r, r < (orderOf cs).length → 0 < f r
  le : ∀ r, r < (orderOf cs).length → f r ≤ top
  down : ∀ r q, r ≤ q → q < (orderOf cs).length → f q ≤ f r
  whole : 2 ≤ (orderOf cs).length → sumTo (orderOf cs).length (fun r => 2 ^ (top - f r)) = 2 ^ top
  least : ∀ l : Nat → Nat, (∀ r, r < (orderOf cs).length → 0 < l r ∧ l r ≤ top) → sumTo (orderOf cs).length (fun r => 2 ^ (top - l r)) ≤ 2 ^ top → sumTo (orderOf cs).length (fun r => wt (thingsOf cs (orderOf cs)) r * f r) ≤ sumTo (orderOf cs).length (fun r => wt (thingsOf cs (orderOf cs)) r * l r)
theorem fine (cs : List Int) (hl : cs.length ≤ 256) (top : Nat) (h1 : 1 ≤ top) (hn : (orderOf cs).length ≤ 2 ^ top) : Fine cs top (fun r => tally (takenBy cs top) ((orderOf cs).getD r 0)) := by
  have T := things_ok (orderOf_ok cs) hl
  have hlen := things_len cs (orderOf cs)
  by_cases h2 : (orderOf cs).length < 2
  · have e : takenBy cs top = thingsOf cs (orderOf cs) := by unfold takenBy takenOf; rw [if_pos (by rw [hlen]; exact h2)]
    have hone : ∀ r, r < (orderOf cs).length → tally (takenBy cs top) ((orderOf cs).getD r 0) = 1 := by
      intro r hr
      have := T.one (thingsOf cs (orderOf cs)).length r (Nat.le_refl _) (by rw [hlen]; exact hr)
      rw [List.take_length, if_pos (by rw [hlen]; exact hr)] at this
      rw [e]; exact this
    refine ⟨fun _ _ => rfl, fun r hr => by rw [hone r hr]; omega, fun r hr => by rw [hone r hr]; exact h1, fun r q hrq hq => by rw [hone r (by omega), hone q hq]; omega, fun h => by omega, fun l hl _ => ?_⟩
    refine sumTo_le fun r hr => ?_
    rw [hone r hr]
    exact Nat.mul_le_mul_left _ (hl r hr).1
  · have hk : 2 ≤ (thingsOf cs (orderOf cs)).length := by rw [hlen]; omega
    have e : takenBy cs top = (row (thingsOf cs (orderOf cs)) (top - 1)).take (2 * (thingsOf cs (orderOf cs)).length - 2) := by
      unfold takenBy takenOf; rw [if_neg (by rw [hlen]; exact h2)]; rfl
    have hen := row_enough (thingsOf cs (orderOf cs)) hk (top - 1) (by rw [hlen, show top - 1 + 1 = top by omega]; exact hn)
    rw [hlen] at e hen
    obtain ⟨A, G⟩ := good T (top - 1) _ hen
    rw [← e] at G
    have ht : top - 1 + 1 = top := by omega
    have hkr := G.kraft
    rw [hlen, ht] at hkr
    have p2 : (2 * (orderOf cs).length - 2) * 2 ^ (top - 1) + 2 ^ top = (orderOf cs).length * 2 ^ top := by
      have : 2 ^ top = 2 * 2 ^ (top - 1) := by rw [← Nat.pow_succ', Nat.succ_eq_add_one, ht]
      rw [this, Nat.mul_left_comm, ← Nat.mul_assoc, ← Nat.add_mul]
      congr 1
      omega
    have hw : sumTo (orderOf cs).length (fun r => 2 ^ (top - tally (takenBy cs top) ((orderOf cs).getD r 0))) = 2 ^ top := by
      omega
    have hA : A = (orderOf cs).length := by
      refine Nat.le_antisymm (by have := G.le; rwa [hlen] at this) (Nat.le_of_not_lt fun hlt => ?_)
      have h0 : tally (takenBy cs top) ((orderOf cs).getD A 0) = 0 := by
        have := (G.pos A (by rw [hlen]; exact hlt))
        omega
      have hle : 2 ^ (top - tally (takenBy cs top) ((orderOf cs).getD A 0)) + 1 ≤ sumTo (orderOf cs).length (fun r => 2 ^ (top - tally (takenBy cs top) ((orderOf cs).getD r 0))) := by
        have hany : ∀ (F : Nat → Nat) (k a : Nat), a < k → 2 ≤ k → (∀ r, 1 ≤ F r) → F a + 1 ≤ sumTo k F := by
          intro F k a ha hk2 hF
          have hb : ∀ (m : Nat), m ≤ sumTo m F := by
            intro m
            induction m with
            | zero => omega
            | succ m ih => simp only [sumTo]; have := hF m; omega
          have hc : ∀ (m a : Nat), a < m → F a + (m - 1) ≤ sumTo m F := by
            intro m
            induction m with
            | zero => intro a h; omega
            | succ m ih =>
              intro a h
              simp only [sumTo]
              by_cases e : a = m
              · subst e; have := hb a; omega
              · have := ih a (by omega); have := hF m; omega
          have := hc k a ha
          omega
        exact hany (fun r => 2 ^ (top - tally (takenBy cs top) ((orderOf cs).getD r 0))) _ A hlt (by omega) (fun r => Nat.two_pow_pos _)
      rw [hw, h0, Nat.sub_zero] at hle
      omega
    refine ⟨fun _ _ => rfl, fun r hr => (G.pos r (by rw [hlen]; exact hr)).2 (by omega), fun r hr => by have := G.top r (by rw [hlen]; exact hr); omega, fun r q hrq hq => G.down r q hrq (by rw [hlen]; exact hq), fun _ => hw, fun l hl hs => ?_⟩
    have hc := G.cost
    rw [hlen] at hc
    rw [← hc]
    have := least T (top - 1) (2 * (orderOf cs).length - 2) l (fun r hr => by have := hl r (by rwa [hlen] at hr); omega) (by rw [hlen, ht]; omega)
    rw [hlen] at this
    exact this
end Go.Proofs.YthdblnfohbldcaaGreat.Pm
