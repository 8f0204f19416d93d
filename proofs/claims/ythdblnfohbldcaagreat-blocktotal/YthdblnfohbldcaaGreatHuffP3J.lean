/-
  Package merge: rows of packages, what is taken of them, and how many are in it.
-/

namespace Go.Proofs.YthdblnfohbldcaaGreat.Pm
set_option linter.unusedVariables false
/-- A package: its weight, and how often each symbol is in it. -/
abbrev Pk := Nat × List Nat
def both (a b : Pk) : Pk := (a.1 + b.1, List.zipWith (· + ·) a.2 b.2)
def paired : List Pk → List Pk
  | a :: b :: r => both a b :: paired r
  | _ => []
def merged : List Pk → List Pk → List Pk
  | [], ps => ps
  | t :: ts, [] => t :: ts
  | t :: ts, p :: ps => if t.1 ≤ p.1 then t :: merged ts (p :: ps) else p :: merged (t :: ts) ps
def row (ts : List Pk) : Nat → List Pk
  | 0 => ts
  | j + 1 => merged ts (paired (row ts j))
theorem merged_nil (ts : List Pk) : merged ts [] = ts := by cases ts <;> simp [merged]
theorem nil_merged (ps : List Pk) : merged [] ps = ps := by simp [merged]
theorem paired_len : ∀ l : List Pk, (paired l).length = l.length / 2
  | [] => rfl
  | [_] => by simp [paired]
  | a :: b :: r => by simp only [paired, List.length_cons, paired_len r]; omega
theorem merged_len : ∀ ts ps : List Pk, (merged ts ps).length = ts.length + ps.length
  | [], ps => by simp [merged]
  | t :: ts, [] => by simp [merged]
  | t :: ts, p :: ps => by
    rw [merged]
    split
    · rw [List.length_cons, merged_len ts (p :: ps)]; simp; omega
    · rw [List.length_cons, merged_len (t :: ts) ps]; simp; omega
theorem paired_take : ∀ (l : List Pk) (b : Nat), paired (l.take (2 * b)) = (paired l).take b
  | [], b => by simp [paired]
  | [x], 0 => by simp [paired]
  | [x], b + 1 => by rw [show 2 * (b + 1) = 2 * b + 1 + 1 by omega]; simp [paired]
  | x :: y :: r, 0 => by simp [paired]
  | x :: y :: r, b + 1 => by
    rw [show 2 * (b + 1) = 2 * b + 1 + 1 by omega]
    simp only [List.take_succ_cons, paired, paired_take r b]
theorem row_len (ts : List Pk) (hk : 2 ≤ ts.length) : ∀ j, ts.length ≤ (row ts j).length ∧ (row ts j).length ≤ 2 * ts.length - 1
  | 0 => by simp only [row]; omega
  | j + 1 => by
    have := row_len ts hk j
    simp only [row]
    rw [merged_len, paired_len]
    omega
/-- What a row lacks is halved from row to row. -/
theorem row_lack (ts : List Pk) (hk : 2 ≤ ts.length) : ∀ j, 2 * ts.length - 1 - (row ts j).length = (ts.length - 1) / 2 ^ j
  | 0 => by simp only [row, Nat.pow_zero, Nat.div_one]; omega
  | j + 1 => by
    have h1 := row_lack ts hk j
    have h2 := row_len ts hk j
    rw [Nat.pow_succ, ← Nat.div_div_eq_div_mul, ← h1]
    simp only [row]
    rw [merged_len, paired_len]
    omega
theorem row_enough (ts : List Pk) (hk : 2 ≤ ts.length) (j : Nat) (h : ts.length ≤ 2 ^ (j + 1)) : 2 * ts.length - 2 ≤ (row ts j).length := by
  have h1 := row_lack ts hk j
  have h2 := row_len ts hk j
  have h3 : (ts.length - 1) / 2 ^ j ≤ 1 := by
    have : (ts.length - 1) / 2 ^ j < 2 := by
      rw [Nat.div_lt_iff_lt_mul (Nat.two_pow_pos j)]
      rw [Nat.pow_succ] at h
      omega
    omega
  omega
/-- Cut behind 2k - 2: the packages are the same. -/
theorem paired_cut (ts : List Pk) (hk : 2 ≤ ts.length) (j : Nat) : paired ((row ts j).take (2 * ts.length - 2)) = paired (row ts j) := by
  rw [show 2 * ts.length - 2 = 2 * (ts.length - 1) by omega, paired_take]
  apply List.take_of_length_le
  rw [paired_len]
  have := row_len ts hk j
  omega
/-- The program's rows. -/
def cut (ts : List Pk) (j : Nat) : List Pk := (row ts j).take (2 * ts.length - 2)
theorem cut_zero (ts : List Pk) (hk : 2 ≤ ts.length) : cut ts 0 = ts := by
  unfold cut
  apply List.take_of_length_le
  simp only [row]; omega
theorem cut_succ (ts : List Pk) (hk : 2 ≤ ts.length) (j : Nat) : (merged ts (paired (cut ts j))).take (2 * ts.length - 2) = cut ts (j + 1) := by
  unfold cut
  rw [paired_cut ts hk j]
  rfl
theorem cut_stay (ts : List Pk) (hk : 2 ≤ ts.length) (j : Nat) (h : cut ts (j + 1) = cut ts j) : ∀ i, cut ts (j + i) = cut ts j
  | 0 => rfl
  | i + 1 => by
    have ih := cut_stay ts hk j h i
    rw [← Nat.add_assoc, ← cut_succ ts hk, ih, cut_succ ts hk, h]
/-- What is taken of the last row; of fewer than two things these. -/
def takenOf (ts : List Pk) (rows : Nat) : List Pk := if ts.length < 2 then ts else cut ts (rows - 1)
/-- How often a symbol is in packages. -/
def tally (l : List Pk) (s : Nat) : Nat := (l.map fun p => p.2.getD s 0).sum
/-- What packages weigh. -/
def weigh (l : List Pk) : Nat := (l.map (·.1)).sum
theorem tally_cons (p : Pk) (l : List Pk) (s : Nat) : tally (p :: l) s = p.2.getD s 0 + tally l s := by simp [tally]
theorem weigh_cons (p : Pk) (l : List Pk) : weigh (p :: l) = p.1 + weigh l := by simp [weigh]
theorem tally_append (l m : List Pk) (s : Nat) : tally (l ++ m) s = tally l s + tally m s := by simp [tally]
theorem weigh_append (l m : List Pk) : weigh (l ++ m) = weigh l + weigh m := by simp [weigh]
/-- All have n symbols. -/
def Wide (n : Nat) (l : List Pk) : Prop := ∀ p ∈ l, p.2.length = n
theorem both_get (a b : Pk) (s : Nat) (h : a.2.length = b.2.length) : (both a b).2.getD s 0 = a.2.getD s 0 + b.2.getD s 0 := by
  unfold both
  simp only [List.getD_eq_getElem?_getD, List.getElem?_zipWith]
  by_cases hs : s < a.2.length
  · rw [List.getElem?_eq_getElem hs, List.getElem?_eq_getElem (by omega)]; rfl
  · rw [List.getElem?_eq_none (by omega), List.getElem?_eq_none (by omega)]; rfl
theorem both_wide (a b : Pk) (n : Nat) (ha : a.2.length = n) (hb : b.2.length = n) : (both a b).2.length = n := by
  unfold both; simp [ha, hb]
theorem paired_wide {n : Nat} : ∀ l : List Pk, Wide n l → Wide n (paired l)
  | [], _ => by simp [paired, Wide]
  | [_], _ => by simp [paired, Wide]
  | a :: b :: r, h => by
    have ha := h a (by simp)
    have hb := h b (by simp)
    have hr := paired_wide r (fun p hp => h p (by simp [hp]))
    intro p hp
    simp only [paired, List.mem_cons] at hp
    rcases hp with rfl | hp
    · exact both_wide a b n ha hb
    · exact hr p hp
theorem merged_mem : ∀ (ts ps : List Pk) (p : Pk), p ∈ merged ts ps → p ∈ ts ∨ p ∈ ps
  | [], ps, p, h => .inr (by simpa [merged] using h)
  | t :: ts, [], p, h => .inl (by simpa [merged] using h)
  | t :: ts, q :: ps, p, h => by
    rw [merged] at h
    split at h
    · rcases List.mem_cons.1 h with rfl | h
      · simp
      · rcases merged_mem ts (q :: ps) p h with h | h <;> simp [h]
    · rcases List.mem_cons.1 h with rfl | h
      · simp
      · rcases merged_mem (t :: ts) ps p h with h | h
        · exact .inl h
        · simp [h]
theorem merged_wide {n : Nat} {ts ps : List Pk} (h1 : Wide n ts) (h2 : Wide n ps) : Wide n (merged ts ps) := fun p hp => by
  rcases merged_mem ts ps p hp with h | h
  · exact h1 p h
  · exact h2 p h
theorem row_wide {n : Nat} {ts : List Pk} (h : Wide n ts) : ∀ j, Wide n (row ts j)
  | 0 => h
  | j + 1 => merged_wide h (paired_wide _ (row_wide h j))
/-- The lighter ones first. -/
def Up (l : List Pk) : Prop := l.Pairwise fun a b => a.1 ≤ b.1
theorem Up.head {p : Pk} {l : List Pk} (h : Up (p :: l)) : ∀ q ∈ p :: l, p.1 ≤ q.1 := by
  intro q hq
  rcases List.mem_cons.1 hq with rfl | hq
  · exact Nat.le_refl _
  · exact (List.pairwise_cons.1 h).1 q hq
theorem Up.tail {p : Pk} {l : List Pk} (h : Up (p :: l)) : Up l := (List.pairwise_cons.1 h).2
theorem paired_up : ∀ l : List Pk, Up l → Up (paired l) ∧ (∀ x, (∀ p ∈ l, x ≤ p.1) → ∀ p ∈ paired l, 2 * x ≤ p.1)
  | [], _ => by simp [paired, Up]
  | [_], _ => by simp [paired, Up]
  | a :: b :: r, h => by
    obtain ⟨h1, h2⟩ := paired_up r h.tail.tail
    have hb := h.tail.head
    have ha := h.head b (by simp)
    constructor
    · simp only [paired]
      refine List.pairwise_cons.2 ⟨fun p hp => ?_, h1⟩
      have := h2 b.1 (fun q hq => hb q (by simp [hq])) p hp
      simp only [both]; omega
    · intro x hx p hp
      simp only [paired, List.mem_cons] at hp
      rcases hp with rfl | hp
      · have h3 := hx a (by simp)
        have h4 := hx b (by simp)
        simp only [both]; omega
      · exact h2 x (fun q hq => hx q (by simp [hq])) p hp
theorem merged_up : ∀ ts ps : List Pk, Up ts → Up ps → Up (merged ts ps)
  | [], ps, _, h => by rw [nil_merged]; exact h
  | t :: ts, [], h, _ => by rw [merged_nil]; exact h
  | t :: ts, p :: ps, h1, h2 => by
    rw [merged]
    split
    · rename_i hle
      refine List.pairwise_cons.2 ⟨fun q hq => ?_, merged_up ts (p :: ps) h1.tail h2⟩
      rcases merged_mem _ _ _ hq with h | h
      · exact h1.head q (by simp [h])
      · exact Nat.le_trans hle (h2.head q h)
    · rename_i hle
      refine List.pairwise_cons.2 ⟨fun q hq => ?_, merged_up (t :: ts) ps h1 h2.tail⟩
      rcases merged_mem _ _ _ hq with h | h
      · exact Nat.le_trans (by omega) (h1.head q h)
      · exact h2.head q (by simp [h])
theorem row_up {ts : List Pk} (h : Up ts) : ∀ j, Up (row ts j)
  | 0 => h
  | j + 1 => merged_up _ _ h (paired_up _ (row_up h j)).1
/-- The first m of a merge are the first a of the one and the first b of the other. -/
theorem merged_take : ∀ (ts ps : List Pk) (m : Nat), Up ts → Up ps → m ≤ ts.length + ps.length → ∃ a b, a + b = m ∧ a ≤ ts.length ∧ b ≤ ps.length ∧
    (∀ s, tally ((merged ts ps).take m) s = tally (ts.take a) s + tally (ps.take b) s) ∧ weigh ((merged ts ps).take m) = weigh (ts.take a) + weigh (ps.take b) ∧
    (∀ t, ts[a]? = some t → ∀ q, q ∈ ps.take b → q.1 < t.1) ∧ (∀ q, ps[b]? = some q → ∀ t, t ∈ ts.take a → t.1 ≤ q.1) ∧ (∀ t, t ∈ ts.take a → t ∈ (merged ts ps).take m)
  | [], ps, m, _, _, h => ⟨0, m, by omega, by simp, by simpa using h, by intro s; simp [merged, tally], by simp [merged, weigh], by simp, by simp, by simp⟩
  | t :: ts, [], m, _, _, h => ⟨m, 0, by omega, by simpa using h, by simp, by intro s; simp [merged, tally], by simp [merged, weigh], by simp, by simp, by simp [merged]⟩
  | t :: ts, p :: ps, 0, _, _, h => ⟨0, 0, rfl, by simp, by simp, by intro s; simp [tally], by simp [weigh], by simp, by simp, by simp⟩
  | t :: ts, p :: ps, m + 1, h1, h2, h => by
    rw [merged]
    split
    · rename_i hle
      obtain ⟨a, b, e1, e2, e3, e4, e5, e6, e7, e8⟩ := merged_take ts (p :: ps) m h1.tail h2 (by simp at h ⊢; omega)
      refine ⟨a + 1, b, by omega, by simp; omega, e3, fun s => ?_, ?_, ?_, ?_, ?_⟩
      · rw [List.take_succ_cons, List.take_succ_cons, tally_cons, tally_cons, e4]; omega
      · rw [List.take_succ_cons, List.take_succ_cons, weigh_cons, weigh_cons, e5]; omega
      · simpa using e6
      · intro q hq x hx
        rw [List.take_succ_cons, List.mem_cons] at hx
        rcases hx with rfl | hx
        · exact Nat.le_trans hle (h2.head q (List.mem_of_getElem? hq))
        · exact e7 q hq x hx
      · intro x hx
        rw [List.take_succ_cons, List.mem_cons] at hx ⊢
        rcases hx with rfl | hx
        · exact .inl rfl
        · exact .inr (e8 x hx)
    · rename_i hle
      obtain ⟨a, b, e1, e2, e3, e4, e5, e6, e7, e8⟩ := merged_take (t :: ts) ps m h1 h2.tail (by simp at h ⊢; omega)
      refine ⟨a, b + 1, by omega, e2, by simp; omega, fun s => ?_, ?_, ?_, ?_, ?_⟩
      · rw [List.take_succ_cons, List.take_succ_cons, tally_cons, tally_cons, e4]; omega
      · rw [List.take_succ_cons, List.take_succ_cons, weigh_cons, weigh_cons, e5]; omega
      · intro x hx q hq
        rw [List.take_succ_cons, List.mem_cons] at hq
        rcases hq with rfl | hq
        · exact Nat.lt_of_lt_of_le (by omega) (h1.head x (List.mem_of_getElem? hx))
        · exact e6 x hx q hq
      · simpa using e7
      · intro x hx
        rw [List.take_succ_cons, List.mem_cons]
        exact .inr (e8 x hx)
theorem paired_tally {n : Nat} (s : Nat) : ∀ (l : List Pk) (b : Nat), Wide n l → b ≤ l.length / 2 → tally ((paired l).take b) s = tally (l.take (2 * b)) s
  | [], b, _, h => by simp [paired, tally]
  | [x], b, _, h => by
    have : b = 0 := by simp at h; exact h
    subst this; simp [tally]
  | x :: y :: r, 0, _, h => by simp [tally]
  | x :: y :: r, b + 1, hw, h => by
    rw [show 2 * (b + 1) = 2 * b + 1 + 1 by omega]
    simp only [List.take_succ_cons, paired, tally_cons]
    rw [paired_tally s r b (fun p hp => hw p (by simp [hp])) (by simp at h; omega), both_get x y s (by rw [hw x (by simp), hw y (by simp)])]
    omega
theorem paired_weigh : ∀ (l : List Pk) (b : Nat), b ≤ l.length / 2 → weigh ((paired l).take b) = weigh (l.take (2 * b))
  | [], b, h => by simp [paired, weigh]
  | [x], b, h => by
    have : b = 0 := by simp at h; exact h
    subst this; simp [weigh]
  | x :: y :: r, 0, h => by simp [weigh]
  | x :: y :: r, b + 1, h => by
    rw [show 2 * (b + 1) = 2 * b + 1 + 1 by omega]
    simp only [List.take_succ_cons, paired, weigh_cons]
    rw [paired_weigh r b (by simp at h; omega)]
    simp only [both]; omega
/-- The first b packages of a row in order, all below x: so are the 2b neighbours, and more than that are no lighter. -/
theorem paired_light (x : Nat) : ∀ (l : List Pk) (b : Nat), (∀ p ∈ l, 0 < p.1) → b ≤ l.length / 2 → (∀ q ∈ (paired l).take b, q.1 < x) → ∀ p ∈ l.take (2 * b), p.1 < x
  | [], b, _, h, _ => by simp
  | [y], b, _, h, _ => by
    have : b = 0 := by simp at h; exact h
    subst this; simp
  | y :: z :: r, 0, _, h, _ => by simp
  | y :: z :: r, b + 1, hp, h, hq => by
    rw [show 2 * (b + 1) = 2 * b + 1 + 1 by omega]
    simp only [List.take_succ_cons, paired] at hq ⊢
    intro p hm
    have h0 := hq _ (List.mem_cons_self ..)
    simp only [both] at h0
    have h1 := hp y (by simp)
    have h2 := hp z (by simp)
    rcases List.mem_cons.1 hm with rfl | hm
    · omega
    · rcases List.mem_cons.1 hm with rfl | hm
      · omega
      · exact paired_light x r b (fun p hp' => hp p (by simp [hp'])) (by simp at h; omega) (fun q hq' => hq q (List.mem_cons_of_mem _ hq')) p hm
theorem weigh_more (x : Nat) : ∀ (l : List Pk) (n : Nat), (∀ p ∈ l, x ≤ p.1) → n < l.length → weigh (l.take n) + x ≤ weigh (l.take (n + 1))
  | [], n, _, h => by simp at h
  | p :: l, 0, hx, h => by
    have := hx p (by simp)
    simp [weigh]; exact this
  | p :: l, n + 1, hx, h => by
    rw [List.take_succ_cons, List.take_succ_cons, weigh_cons, weigh_cons]
    have := weigh_more x l n (fun q hq => hx q (by simp [hq])) (by simpa using h)
    omega
/-- The first of a merge weigh no more than as many others. -/
theorem merged_least : ∀ (ts ps : List Pk) (a b : Nat), Up ts → Up ps → a ≤ ts.length → b ≤ ps.length → weigh ((merged ts ps).take (a + b)) ≤ weigh (ts.take a) + weigh (ps.take b)
  | [], ps, a, b, _, _, h1, h2 => by
    have : a = 0 := by simpa using h1
    subst this
    simp [merged]
  | t :: ts, [], a, b, _, _, h1, h2 => by
    have : b = 0 := by simpa using h2
    subst this
    simp [merged]
  | t :: ts, p :: ps, a, b, h1, h2, ha, hb => by
    rw [merged]
    split
    · rename_i hle
      cases a with
      | zero =>
        cases b with
        | zero => simp [weigh]
        | succ b =>
          have ih := merged_least ts (p :: ps) 0 b h1.tail h2 (by omega) (by omega)
          rw [show 0 + (b + 1) = (0 + b) + 1 by omega, List.take_succ_cons, weigh_cons]
          have := weigh_more t.1 (p :: ps) b (fun q hq => Nat.le_trans hle (h2.head q hq)) (by omega)
          simp only [List.take_zero] at ih ⊢
          have e : weigh ([] : List Pk) = 0 := rfl
          omega
      | succ a =>
        have ih := merged_least ts (p :: ps) a b h1.tail h2 (by simpa using ha) hb
        rw [show a + 1 + b = (a + b) + 1 by omega, List.take_succ_cons, List.take_succ_cons, weigh_cons, weigh_cons]
        omega
    · rename_i hle
      cases b with
      | zero =>
        cases a with
        | zero => simp [weigh]
        | succ a =>
          have ih := merged_least (t :: ts) ps a 0 h1 h2.tail (by omega) (by omega)
          rw [Nat.add_zero] at ih ⊢
          rw [List.take_succ_cons (as := merged (t :: ts) ps), weigh_cons]
          have := weigh_more p.1 (t :: ts) a (fun q hq => Nat.le_trans (by omega) (h1.head q hq)) (by omega)
          simp only [List.take_zero] at ih ⊢
          have e : weigh ([] : List Pk) = 0 := rfl
          omega
      | succ b =>
        have ih := merged_least (t :: ts) ps a b h1 h2.tail ha (by simpa using hb)
        rw [show a + (b + 1) = (a + b) + 1 by omega, List.take_succ_cons, List.take_succ_cons, weigh_cons, weigh_cons]
        omega
theorem paired_pos : ∀ l : List Pk, (∀ p ∈ l, 0 < p.1) → ∀ p ∈ paired l, 0 < p.1
  | [], _ => by simp [paired]
  | [_], _ => by simp [paired]
  | a :: b :: r, h => by
    intro p hp
    simp only [paired, List.mem_cons] at hp
    rcases hp with rfl | hp
    · have := h a (by simp)
      simp only [both]; omega
    · exact paired_pos r (fun q hq => h q (by simp [hq])) p hp
theorem row_pos {ts : List Pk} (h : ∀ p ∈ ts, 0 < p.1) : ∀ j, ∀ p ∈ row ts j, 0 < p.1
  | 0 => h
  | j + 1 => fun p hp => by
    rcases merged_mem _ _ _ hp with h1 | h1
    · exact h p h1
    · exact paired_pos _ (row_pos h j) p h1
end Go.Proofs.YthdblnfohbldcaaGreat.Pm
/-
  Package merge: the lengths are whole, in order, and no others cost less.
-/
namespace Go.Proofs.YthdblnfohbldcaaGreat.Pm
set_option linter.unusedVariables false
def sumTo : Nat → (Nat → Nat) → Nat
  | 0, _ => 0
  | k + 1, g => sumTo k g + g k
theorem sumTo_congr {k : Nat} {f g : Nat → Nat} (h : ∀ r, r < k → f r = g r) : sumTo k f = sumTo k g := by
  induction k with
  | zero => rfl
  | succ k ih => simp only [sumTo]; rw [ih (fun r hr => h r (by omega)), h k (by omega)]
theorem sumTo_add (k : Nat) (f g : Nat → Nat) : sumTo k (fun r => f r + g r) = sumTo k f + sumTo k g := by
  induction k with
  | zero => rfl
  | succ k ih => simp only [sumTo]; omega
theorem sumTo_le {k : Nat} {f g : Nat → Nat} (h : ∀ r, r < k → f r ≤ g r) : sumTo k f ≤ sumTo k g := by
  induction k with
  | zero => exact Nat.le_refl _
  | succ k ih => simp only [sumTo]; have := ih (fun r hr => h r (by omega)); have := h k (by omega); omega
theorem sumTo_below (x : Nat) : ∀ (k a : Nat), a ≤ k → sumTo k (fun r => if r < a then 0 else x) = (k - a) * x
  | 0, a, h => by simp [sumTo]
  | k + 1, a, h => by
    simp only [sumTo]
    by_cases e : a = k + 1
    · subst e
      rw [sumTo_congr (g := fun _ => 0) (fun r hr => by rw [if_pos (by omega)]), if_pos (by omega), Nat.sub_self]
      have : ∀ n, sumTo n (fun _ => 0) = 0 := by intro n; induction n with | zero => rfl | succ n ih => simp [sumTo, ih]
      rw [this]; simp
    · rw [sumTo_below x k a (by omega), if_neg (by omega), show k + 1 - a = (k - a) + 1 by omega, Nat.add_mul, Nat.one_mul]
theorem sumTo_one (x : Nat) : ∀ k, sumTo k (fun _ => x) = k * x
  | 0 => by simp [sumTo]
  | k + 1 => by simp only [sumTo]; rw [sumTo_one x k, Nat.add_mul, Nat.one_mul]
/-- Things: their symbols, each by itself, the lighter ones first. -/
structure Things (n : Nat) (ts : List Pk) (σ : Nat → Nat) : Prop where
  up : Up ts
  pos : ∀ p ∈ ts, 0 < p.1
  wide : Wide n ts
  one : ∀ a r, a ≤ ts.length → r < ts.length → tally (ts.take a) (σ r) = if r < a then 1 else 0
/-- The weight by rank. -/
def wt (ts : List Pk) (r : Nat) : Nat := (ts.getD r (0, [])).1
theorem weigh_take (ts : List Pk) : ∀ a, a ≤ ts.length → weigh (ts.take a) = sumTo a (wt ts)
  | 0, _ => by simp [weigh, sumTo]
  | a + 1, h => by
    rw [List.take_succ_eq_append_getElem (by omega), weigh_append, weigh_take ts a (by omega)]
    simp only [sumTo, wt]
    rw [List.getD_eq_getElem?_getD, List.getElem?_eq_getElem (by omega)]
    simp [weigh]
theorem wt_get {ts : List Pk} {r : Nat} (h : r < ts.length) : wt ts r = (ts[r]).1 := by
  unfold wt; rw [List.getD_eq_getElem?_getD, List.getElem?_eq_getElem h]; rfl
theorem wt_mono {n : Nat} {ts : List Pk} {σ : Nat → Nat} (T : Things n ts σ) {r q : Nat} (h : r ≤ q) (hq : q < ts.length) : wt ts r ≤ wt ts q := by
  rw [wt_get (by omega), wt_get hq]
  by_cases e : r = q
  · subst e; exact Nat.le_refl _
  · exact (List.pairwise_iff_getElem.1 T.up) r q (by omega) hq (by omega)
/-- The first a things. -/
theorem take_sum {ts : List Pk} (g : Nat → Nat) : ∀ k a, a ≤ k → sumTo k (fun r => g r * (if r < a then 1 else 0)) = sumTo a g := by
  intro k
  induction k with
  | zero => intro a h; obtain rfl : a = 0 := by omega
            rfl
  | succ k ih =>
    intro a h
    simp only [sumTo]
    by_cases e : a = k + 1
    · subst e
      rw [if_pos (by omega), Nat.mul_one]
      simp only [sumTo]
      congr 1
      exact sumTo_congr fun r hr => by rw [if_pos (by omega), Nat.mul_one]
    · rw [ih a (by omega), if_neg (by omega)]; omega
structure Good (n : Nat) (ts : List Pk) (σ : Nat → Nat) (j m A : Nat) (f : Nat → Nat) : Prop where
  le : A ≤ ts.length
  pos : ∀ r, r < ts.length → (0 < f r ↔ r < A)
  mem : ∀ r (h : r < ts.length), r < A → ts[r] ∈ (row ts j).take m
  top : ∀ r, r < ts.length → f r ≤ j + 1
  down : ∀ r q, r ≤ q → q < ts.length → f q ≤ f r
  kraft : sumTo ts.length (fun r => 2 ^ (j + 1 - f r)) + m * 2 ^ j = ts.length * 2 ^ (j + 1)
  cost : weigh ((row ts j).take m) = sumTo ts.length (fun r => wt ts r * f r)
/-- What the first m of a row are. -/
theorem good {n : Nat} {ts : List Pk} {σ : Nat → Nat} (T : Things n ts σ) : ∀ j m, m ≤ (row ts j).length → ∃ A, Good n ts σ j m A (fun r => tally ((row ts j).take m) (σ r))
  | 0, m, h => by
    simp only [row] at h
    refine ⟨m, h, ?_, ?_, ?_, ?_, ?_, ?_⟩
    · intro r hr
      simp only [row, T.one m r h hr]
      by_cases e : r < m <;> simp [e]
    · intro r hr e
      simp only [row]
      exact List.mem_take_iff_getElem.2 ⟨r, by omega, rfl⟩
    · intro r hr
      simp only [row, T.one m r h hr]
      split <;> omega
    · intro r q hrq hq
      simp only [row, T.one m r h (by omega), T.one m q h hq]
      split <;> split <;> omega
    · rw [sumTo_congr (g := fun r => 1 + if r < m then 0 else 1) (fun r hr => by
        simp only [row, T.one m r h hr]
        split <;> rfl), sumTo_add, sumTo_one, sumTo_below 1 _ m h]
      simp; omega
    · simp only [row]
      rw [weigh_take ts m h, ← take_sum (ts := ts) (wt ts) ts.length m h]
      exact sumTo_congr fun r hr => by simp only [T.one m r h hr]
  | j + 1, m, h => by
    simp only [row] at h
    rw [merged_len, paired_len] at h
    have hup := row_up T.up j
    have hpos := row_pos T.pos j
    have hwide := row_wide T.wide j
    obtain ⟨a, b, e1, e2, e3, e4, e5, e6, e7, e8⟩ := merged_take ts (paired (row ts j)) m T.up (paired_up _ hup).1 (by rw [paired_len]; omega)
    rw [paired_len] at e3
    obtain ⟨A, G⟩ := good T j (2 * b) (by omega)
    have ef : ∀ r, r < ts.length → tally ((row ts (j + 1)).take m) (σ r) = (if r < a then 1 else 0) + tally ((row ts j).take (2 * b)) (σ r) := by
      intro r hr
      show tally ((merged ts (paired (row ts j))).take m) (σ r) = _
      rw [e4, T.one a r e2 hr, paired_tally (σ r) _ b hwide e3]
    have hAa : A ≤ a := by
      refine Nat.le_of_not_lt fun hlt => ?_
      have ha : a < ts.length := Nat.lt_of_lt_of_le hlt G.le
      have hl := paired_light (ts[a]).1 (row ts j) b hpos e3 (fun q hq => e6 ts[a] (List.getElem?_eq_getElem ha) q hq)
      have := hl ts[a] (G.mem a ha hlt)
      omega
    have hz : ∀ r, r < ts.length → ¬ r < a → tally ((row ts j).take (2 * b)) (σ r) = 0 := by
      intro r hr hn
      have := (G.pos r hr)
      omega
    refine ⟨a, e2, ?_, ?_, ?_, ?_, ?_, ?_⟩
    · intro r hr
      simp only [ef r hr]
      by_cases e : r < a
      · rw [if_pos e]; exact ⟨fun _ => e, fun _ => by omega⟩
      · rw [hz r hr e]; simp [e]
    · intro r hr e
      exact e8 _ (List.mem_take_iff_getElem.2 ⟨r, by omega, rfl⟩)
    · intro r hr
      simp only [ef r hr]
      have := G.top r hr
      split <;> omega
    · intro r q hrq hq
      simp only [ef r (by omega), ef q hq]
      have := G.down r q hrq hq
      split <;> split <;> omega
    · have ek : ∀ r, r < ts.length → 2 ^ (j + 1 + 1 - tally ((row ts (j + 1)).take m) (σ r)) = 2 ^ (j + 1 - tally ((row ts j).take (2 * b)) (σ r)) + if r < a then 0 else 2 ^ (j + 1) := by
        intro r hr
        rw [ef r hr]
        by_cases e : r < a
        · rw [if_pos e, if_pos e, show j + 1 + 1 - (1 + tally ((row ts j).take (2 * b)) (σ r)) = j + 1 - tally ((row ts j).take (2 * b)) (σ r) by omega]; omega
        · rw [if_neg e, if_neg e, hz r hr e]
          simp only [Nat.add_zero, Nat.sub_zero, Nat.pow_succ]; omega
      rw [sumTo_congr ek, sumTo_add, sumTo_below _ _ a e2]
      have hk := G.kraft
      have p1 : 2 ^ (j + 1 + 1) = 2 * 2 ^ (j + 1) := by rw [Nat.pow_succ]; omega
      have p2 : 2 * b * 2 ^ j = b * 2 ^ (j + 1) := by rw [Nat.pow_succ, Nat.mul_comm 2 b, Nat.mul_assoc, Nat.mul_comm 2 (2 ^ j)]
      rw [p2] at hk
      rw [p1, ← e1, Nat.add_mul]
      generalize 2 ^ (j + 1) = X at *
      have q1 : ts.length * (2 * X) = ts.length * X + ts.length * X := by rw [Nat.mul_left_comm]; omega
      have q2 : (ts.length - a) * X + a * X = ts.length * X := by rw [← Nat.add_mul]; congr 1; omega
      rw [q1]
      omega
    · show weigh ((merged ts (paired (row ts j))).take m) = _
      rw [e5, paired_weigh _ b e3, G.cost, weigh_take ts a e2, ← take_sum (ts := ts) (wt ts) ts.length a e2, ← sumTo_add]
      exact sumTo_congr fun r hr => by simp only [ef r hr, Nat.mul_add]
/-- A row has as many as its width lets it have. -/
theorem row_cap (ts : List Pk) : ∀ j, ts.length * (2 ^ (j + 1) - 1) < ((row ts j).length + 1) * 2 ^ j
  | 0 => by simp [row]
  | j + 1 => by
    have ih := row_cap ts j
    simp only [row]
    rw [merged_len, paired_len]
    have p1 : 2 ^ (j + 1 + 1) = 2 * 2 ^ (j + 1) := by rw [Nat.pow_succ]; omega
    have p2 : 2 ^ (j + 1) = 2 * 2 ^ j := by rw [Nat.pow_succ]; omega
    have hx : 0 < 2 ^ j := Nat.two_pow_pos j
    have h1 : ((row ts j).length + 1) * 2 ^ j ≤ ((row ts j).length / 2 + 1) * 2 ^ (j + 1) := by
      rw [p2, ← Nat.mul_assoc]
      exact Nat.mul_le_mul_right _ (by omega)
    have h2 : ts.length * (2 ^ (j + 1 + 1) - 1) = ts.length * 2 ^ (j + 1) + ts.length * (2 ^ (j + 1) - 1) := by
      rw [← Nat.mul_add]; congr 1; omega
    rw [h2, show ts.length + (row ts j).length / 2 + 1 = ts.length + ((row ts j).length / 2 + 1) by omega, Nat.add_mul]
    omega
/-- The lightest m are no heavier than any m. -/
theorem mask_least (c : Nat → Nat) (k0 : Nat) (hc : ∀ r q, r ≤ q → q < k0 → c r ≤ c q) (l : Nat → Nat) : ∀ k, k ≤ k0 → sumTo k (fun r => if 0 < l r then 1 else 0) ≤ k ∧ ∀ m, m ≤ sumTo k (fun r => if 0 < l r then 1 else 0) → sumTo m c ≤ sumTo k (fun r => if 0 < l r then c r else 0)
  | 0, _ => ⟨Nat.le_refl _, fun m h => by
      simp only [sumTo] at h
      obtain rfl : m = 0 := by omega
      exact Nat.le_refl _⟩
  | k + 1, hk => by
    obtain ⟨i1, i2⟩ := mask_least c k0 hc l k (by omega)
    simp only [sumTo]
    by_cases e : 0 < l k
    · rw [if_pos e, if_pos e]
      refine ⟨by omega, fun m h => ?_⟩
      by_cases e2 : m = sumTo k (fun r => if 0 < l r then 1 else 0) + 1
      · subst e2
        simp only [sumTo]
        have := i2 _ (Nat.le_refl _)
        have := hc _ k i1 (by omega)
        omega
      · have := i2 m (by omega)
        omega
    · rw [if_neg e, if_neg e]
      exact ⟨by omega, fun m h => by have := i2 m (by omega); omega⟩
/-- No lengths whose widths suffice weigh less than the first m of a row. -/
theorem least {n : Nat} {ts : List Pk} {σ : Nat → Nat} (T : Things n ts σ) : ∀ (j m : Nat) (l : Nat → Nat), (∀ r, r < ts.length → l r ≤ j + 1) → sumTo ts.length (fun r => 2 ^ (j + 1 - l r)) + m * 2 ^ j ≤ ts.length * 2 ^ (j + 1) →
    weigh ((row ts j).take m) ≤ sumTo ts.length (fun r => wt ts r * l r)
  | 0, m, l, hl, h => by
    have hmask := (mask_least (wt ts) ts.length (fun r q h1 h2 => wt_mono T h1 h2) l ts.length (Nat.le_refl _))
    have e1 : sumTo ts.length (fun r => 2 ^ (0 + 1 - l r)) + sumTo ts.length (fun r => if 0 < l r then 1 else 0) = ts.length * 2 := by
      rw [← sumTo_add, sumTo_congr (g := fun _ => 2) (fun r hr => ?_), sumTo_one]
      have := hl r hr
      rcases Nat.eq_zero_or_pos (l r) with e | e
      · rw [e]; rfl
      · rw [if_pos e, show l r = 1 by omega]
    simp only [Nat.pow_zero, Nat.mul_one, Nat.zero_add, Nat.pow_one] at h e1
    have hm : m ≤ sumTo ts.length (fun r => if 0 < l r then 1 else 0) := by omega
    simp only [row]
    rw [weigh_take ts m (by omega)]
    refine Nat.le_trans (hmask.2 m hm) (sumTo_le fun r hr => ?_)
    rcases Nat.eq_zero_or_pos (l r) with e | e
    · rw [e]; simp
    · rw [if_pos e]; exact Nat.le_mul_of_pos_right _ e
  | j + 1, m, l, hl, h => by
    have hmask := (mask_least (wt ts) ts.length (fun r q h1 h2 => wt_mono T h1 h2) l ts.length (Nat.le_refl _))
    obtain ⟨a, ha⟩ : ∃ a, sumTo ts.length (fun r => if 0 < l r then 1 else 0) = a := ⟨_, rfl⟩
    rw [ha] at hmask
    have e1 : sumTo ts.length (fun r => 2 ^ (j + 1 + 1 - l r)) + a * 2 ^ (j + 1) = sumTo ts.length (fun r => 2 ^ (j + 1 - (l r - 1))) + ts.length * 2 ^ (j + 1) := by
      have : a * 2 ^ (j + 1) = sumTo ts.length (fun r => if 0 < l r then 2 ^ (j + 1) else 0) := by
        rw [← ha]
        have : ∀ k, sumTo k (fun r => if 0 < l r then 1 else 0) * 2 ^ (j + 1) = sumTo k (fun r => if 0 < l r then 2 ^ (j + 1) else 0) := by
          intro k
          induction k with
          | zero => simp [sumTo]
          | succ k ih =>
            simp only [sumTo]
            rw [Nat.add_mul, ih]
            congr 1
            split <;> simp
        exact this _
      rw [this, ← sumTo_one, ← sumTo_add, ← sumTo_add]
      refine sumTo_congr fun r hr => ?_
      have h1 := hl r hr
      rcases Nat.eq_zero_or_pos (l r) with e | e
      · rw [e]
        simp only [Nat.sub_zero, Nat.lt_irrefl, if_false, Nat.zero_sub, Nat.pow_succ]; omega
      · rw [if_pos e, show j + 1 + 1 - l r = j + 1 - (l r - 1) by omega]
    have ec : sumTo ts.length (fun r => wt ts r * l r) = sumTo ts.length (fun r => if 0 < l r then wt ts r else 0) + sumTo ts.length (fun r => wt ts r * (l r - 1)) := by
      rw [← sumTo_add]
      refine sumTo_congr fun r hr => ?_
      rcases Nat.eq_zero_or_pos (l r) with e | e
      · rw [e]; simp
      · rw [if_pos e]
        obtain ⟨q, hq⟩ : ∃ q, l r = q + 1 := ⟨l r - 1, by omega⟩
        rw [hq, Nat.add_sub_cancel, Nat.mul_add]; omega
    have p1 : 2 ^ (j + 1 + 1) = 2 * 2 ^ (j + 1) := by rw [Nat.pow_succ]; omega
    have hup := row_up T.up j
    rw [ec]
    show weigh ((merged ts (paired (row ts j))).take m) ≤ _
    by_cases hma : m ≤ a
    · have hk : m ≤ ts.length := by omega
      have h2 := merged_least ts (paired (row ts j)) m 0 T.up (paired_up _ hup).1 hk (Nat.zero_le _)
      rw [weigh_take ts m hk] at h2
      have := hmask.2 m hma
      have e0 : weigh ((paired (row ts j)).take 0) = 0 := by simp [weigh]
      rw [Nat.add_zero] at h2
      omega
    · obtain ⟨b, hb⟩ : ∃ b, m = a + b := ⟨m - a, by omega⟩
      subst hb
      have p2 : 2 * b * 2 ^ j = b * 2 ^ (j + 1) := by rw [Nat.pow_succ, Nat.mul_comm 2 b, Nat.mul_assoc, Nat.mul_comm 2 (2 ^ j)]
      have hs : sumTo ts.length (fun r => 2 ^ (j + 1 - (l r - 1))) + 2 * b * 2 ^ j ≤ ts.length * 2 ^ (j + 1) := by
        rw [p2]
        rw [p1, Nat.add_mul] at h
        have q1 : ts.length * (2 * 2 ^ (j + 1)) = ts.length * 2 ^ (j + 1) + ts.length * 2 ^ (j + 1) := by rw [Nat.mul_left_comm]; omega
        rw [q1] at h
        omega
      have ih := least T j (2 * b) (fun r => l r - 1) (fun r hr => by have := hl r hr; omega) hs
      have hlen : 2 * b ≤ (row ts j).length := by
        have hc := row_cap ts j
        have h1 : ts.length ≤ sumTo ts.length (fun r => 2 ^ (j + 1 - (l r - 1))) := by
          have := sumTo_le (k := ts.length) (f := fun _ => 1) (g := fun r => 2 ^ (j + 1 - (l r - 1))) (fun r _ => Nat.two_pow_pos _)
          rw [sumTo_one] at this
          omega
        have h2 : ts.length * (2 ^ (j + 1) - 1) + ts.length = ts.length * 2 ^ (j + 1) := by
          have : 0 < 2 ^ (j + 1) := Nat.two_pow_pos _
          rw [← Nat.mul_succ]; congr 1; omega
        have h3 : 2 * b * 2 ^ j < ((row ts j).length + 1) * 2 ^ j := by omega
        have := Nat.lt_of_mul_lt_mul_right h3
        omega
      have h2 := merged_least ts (paired (row ts j)) a b T.up (paired_up _ hup).1 hmask.1 (by rw [paired_len]; omega)
      rw [paired_weigh _ b (by omega), weigh_take ts a hmask.1] at h2
      have := hmask.2 a (Nat.le_refl _)
      omega
end Go.Proofs.YthdblnfohbldcaaGreat.Pm
/-
  Package merge: how much is in a row, and the things of counts.
-/
namespace Go.Proofs.YthdblnfohbldcaaGreat.Pm
set_option linter.unusedVariables false
theorem tally_merged (s : Nat) : ∀ ts ps : List Pk, tally (merged ts ps) s = tally ts s + tally ps s
  | [], ps => by rw [nil_merged]; simp [tally]
  | t :: ts, [] => by rw [merged_nil]; simp [tally]
  | t :: ts, p :: ps => by
    rw [merged]
    split
    · rw [tally_cons, tally_merged s ts (p :: ps), tally_cons t ts]; omega
    · rw [tally_cons, tally_merged s (t :: ts) ps, tally_cons p ps]; omega
theorem tally_paired {n : Nat} (s : Nat) : ∀ l : List Pk, Wide n l → tally (paired l) s ≤ tally l s
  | [], _ => by simp [paired, tally]
  | [_], _ => by simp [paired, tally]
  | a :: b :: r, h => by
    simp only [paired, tally_cons]
    have := tally_paired s r (fun p hp => h p (by simp [hp]))
    rw [both_get a b s (by rw [h a (by simp), h b (by simp)])]
    omega
theorem row_tally {n : Nat} {ts : List Pk} (h : Wide n ts) (s : Nat) : ∀ j, tally (row ts j) s ≤ (j + 1) * tally ts s
  | 0 => by simp [row]
  | j + 1 => by
    have h1 := row_tally h s j
    have h2 := tally_paired s (row ts j) (row_wide h j)
    simp only [row]
    rw [tally_merged, Nat.add_mul (j + 1) 1, Nat.one_mul]
    omega
theorem mem_tally (s : Nat) : ∀ (l : List Pk) (p : Pk), p ∈ l → p.2.getD s 0 ≤ tally l s
  | q :: l, p, h => by
    rw [tally_cons]
    rcases List.mem_cons.1 h with rfl | h
    · omega
    · have := mem_tally s l p h
      omega
theorem paired_weight {M : Nat} : ∀ l : List Pk, (∀ p ∈ l, p.1 ≤ M) → ∀ p ∈ paired l, p.1 ≤ 2 * M
  | [], _ => by simp [paired]
  | [_], _ => by simp [paired]
  | a :: b :: r, h => by
    intro p hp
    simp only [paired, List.mem_cons] at hp
    rcases hp with rfl | hp
    · have h1 := h a (by simp)
      have h2 := h b (by simp)
      simp only [both]; omega
    · exact paired_weight r (fun q hq => h q (by simp [hq])) p hp
theorem row_weight {M : Nat} {ts : List Pk} (h : ∀ p ∈ ts, p.1 ≤ M) : ∀ j, ∀ p ∈ row ts j, p.1 ≤ 2 ^ j * M
  | 0 => fun p hp => by simpa using h p hp
  | j + 1 => fun p hp => by
    have h0 : 2 ^ (j + 1) * M = 2 * (2 ^ j * M) := by rw [Nat.pow_succ, Nat.mul_comm (2 ^ j) 2, Nat.mul_assoc]
    have h2 : 1 ≤ 2 ^ j := Nat.one_le_two_pow
    rcases merged_mem _ _ _ hp with h1 | h1
    · have h3 := h p h1
      have : M ≤ 2 ^ j * M := Nat.le_mul_of_pos_left _ h2
      omega
    · rw [h0]
      exact paired_weight _ (row_weight h j) p h1
theorem tally_take_le (s : Nat) (l : List Pk) (k : Nat) : tally (l.take k) s ≤ tally l s := by
  conv => rhs; rw [← List.take_append_drop k l]
  rw [tally_append]; omega
theorem tally_snoc (s : Nat) (l : List Pk) (k : Nat) (h : k < l.length) : tally (l.take (k + 1)) s = tally (l.take k) s + (l.getD k (0, [])).2.getD s 0 := by
  have e : l.getD k (0, []) = l[k] := by rw [List.getD_eq_getElem?_getD, List.getElem?_eq_getElem h]; rfl
  rw [List.take_succ_eq_append_getElem h, tally_append, e]
  simp [tally]
end Go.Proofs.YthdblnfohbldcaaGreat.Pm
