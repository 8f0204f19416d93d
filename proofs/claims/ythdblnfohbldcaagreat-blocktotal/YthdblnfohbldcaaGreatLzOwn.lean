/-
  A text's own tokens, and what they are worth: said of lists.
-/
import Derived.Test.YthdblnfohbldcaaGreatLzTok
namespace Go.Proofs.YthdblnfohbldcaaGreat.Lz
open Go.Proofs.YthdblnfohbldcaaGreat.Base Go.Proofs.YthdblnfohbldcaaGreat.Nums
set_option linter.unusedVariables false
abbrev Txt := List (BitVec 8)
def gd (x : Txt) (k : Nat) : BitVec 8 := x.getD k 0
/-- Do the same four bytes stand at both places? -/
def same4 (x : Txt) (j i : Nat) : Bool := decide (gd x j = gd x i ∧ gd x (j + 1) = gd x (i + 1) ∧ gd x (j + 2) = gd x (i + 2) ∧ gd x (j + 3) = gd x (i + 3))
/-- How far what stands at j and i is the same, from r on, up to most, by so many steps. -/
def runF (x : Txt) (j i most : Nat) : Nat → Nat → Nat
  | 0, r => r
  | f + 1, r => if r < most ∧ gd x (j + r) = gd x (i + r) then runF x j i most f (r + 1) else r
theorem runF_any (x : Txt) (j i most : Nat) : ∀ f g r : Nat, most - r < f → most - r < g → runF x j i most f r = runF x j i most g r
  | 0, _, _, h1, _ => absurd h1 (by omega)
  | _ + 1, 0, _, _, h2 => absurd h2 (by omega)
  | f + 1, g + 1, r, h1, h2 => by
    rw [runF, runF]
    by_cases h : r < most ∧ gd x (j + r) = gd x (i + r)
    · rw [if_pos h, if_pos h, runF_any x j i most f g (r + 1) (by omega) (by omega)]
    · rw [if_neg h, if_neg h]
/-- How far what stands at j and i is the same, from r on, up to most. -/
def runFrom (x : Txt) (j i most r : Nat) : Nat := runF x j i most (most - r + 1) r
theorem runFrom_go (x : Txt) (j i most r : Nat) (h : r < most) (e : gd x (j + r) = gd x (i + r)) : runFrom x j i most r = runFrom x j i most (r + 1) := by
  have e1 : runF x j i most (most - r + 1) r = runF x j i most (most - r) (r + 1) := by rw [runF, if_pos ⟨h, e⟩]
  exact e1.trans (runF_any x j i most (most - r) (most - (r + 1) + 1) (r + 1) (by omega) (by omega))
theorem runFrom_stop (x : Txt) (j i most r : Nat) (h : ¬ (r < most ∧ gd x (j + r) = gd x (i + r))) : runFrom x j i most r = r := by rw [runFrom, runF, if_neg h]
theorem runFrom_le (x : Txt) (j i most : Nat) : ∀ n r, most - r ≤ n → r ≤ most → r ≤ runFrom x j i most r ∧ runFrom x j i most r ≤ most ∧ ∀ k, r ≤ k → k < runFrom x j i most r → gd x (j + k) = gd x (i + k) := by
  intro n
  induction n with
  | zero => intro r h1 h2; rw [runFrom_stop x j i most r (by omega)]; exact ⟨Nat.le_refl _, h2, fun k h3 h4 => by omega⟩
  | succ n ih =>
    intro r h1 h2
    by_cases h : r < most ∧ gd x (j + r) = gd x (i + r)
    · rw [runFrom_go x j i most r h.1 h.2]
      obtain ⟨g1, g2, g3⟩ := ih (r + 1) (by omega) (by omega)
      refine ⟨by omega, g2, fun k h3 h4 => ?_⟩
      by_cases hk : k = r
      · subst hk; exact h.2
      · exact g3 k (by omega) h4
    · rw [runFrom_stop x j i most r h]; exact ⟨Nat.le_refl _, h2, fun k h3 h4 => by omega⟩
def pays (d l : Nat) : Bool := decide (3 + (put d).length ≤ l)
/-- The better one of a match and the one at j. -/
def better (x : Txt) (i most j : Nat) (b : Nat × Nat) : Nat × Nat := if b.2 < runFrom x j i most 4 ∧ pays (i - j) (runFrom x j i most 4) = true then (i - j, runFrom x j i most 4) else b
/-- The places below m, the nearest first. -/
def search (x : Txt) (i most : Nat) : Nat → Nat → Nat × Nat → Nat × Nat
  | 0, _, b => b
  | m + 1, looks, b => if 32768 < i - m ∨ looks = 16 then b else if same4 x m i = true then search x i most m (looks + 1) (better x i most m b) else search x i most m looks b
def best (x : Txt) (i : Nat) : Nat × Nat := if x.length - i < 4 then (0, 0) else search x i (min 259 (x.length - i)) i 0 (0, 0)
theorem search_stop (x : Txt) (i most m looks : Nat) (b : Nat × Nat) (h : looks = 16 ∨ 32768 < i - (m - 1)) : search x i most m looks b = b := by
  cases m with
  | zero => rfl
  | succ m =>
    simp only [search]
    rw [if_pos]
    rcases h with h | h
    · exact .inr h
    · left; simpa using h
/-- The places that share a slot with i. -/
def prev (sl : Nat → Nat) (s : Nat) : Nat → Nat
  | 0 => 0
  | m + 1 => if sl m = s then m + 1 else prev sl s m
theorem prev_le (sl : Nat → Nat) (s : Nat) : ∀ m, prev sl s m ≤ m := by
  intro m
  induction m with
  | zero => exact Nat.le_refl _
  | succ m ih => simp only [prev]; split <;> omega
theorem prev_slot (sl : Nat → Nat) (s : Nat) : ∀ m j, prev sl s m = j + 1 → sl j = s ∧ j < m := by
  intro m
  induction m with
  | zero => intro j h; simp [prev] at h
  | succ m ih =>
    intro j h
    simp only [prev] at h
    split at h
    · rename_i e; have : m = j := by omega
      subst this; exact ⟨e, by omega⟩
    · obtain ⟨h1, h2⟩ := ih j h; exact ⟨h1, by omega⟩
theorem search_prev (x : Txt) (i most : Nat) (sl : Nat → Nat) (s : Nat) (hs : ∀ m, m < i → same4 x m i = true → sl m = s) (looks : Nat) (b : Nat × Nat) : ∀ m, m ≤ i → search x i most m looks b = search x i most (prev sl s m) looks b := by
  intro m
  induction m with
  | zero => intro _; rfl
  | succ m ih =>
    intro hm
    simp only [prev]
    by_cases e : sl m = s
    · rw [if_pos e]
    · rw [if_neg e]
      by_cases hst : 32768 < i - m ∨ looks = 16
      · have h1 : search x i most (m + 1) looks b = b := by simp only [search]; rw [if_pos hst]
        rw [h1]
        symm
        apply search_stop
        rcases hst with h | h
        · right
          have := prev_le sl s m
          omega
        · exact .inl h
      · have h1 : search x i most (m + 1) looks b = search x i most m looks b := by
          simp only [search]
          rw [if_neg hst, if_neg]
          intro h
          exact e (hs m (by omega) h)
        rw [h1, ih (by omega)]
theorem put_len_mono (u v : Nat) (h : u ≤ v) : (put u).length ≤ (put v).length := by
  induction v using Nat.strongRecOn generalizing u with
  | ind v ih =>
    by_cases hu : u < 128
    · rw [put_small u hu]; exact put_pos v
    · rw [put_large u (by omega), put_large v (by omega), List.length_cons, List.length_cons]
      have := ih (v / 128) (by omega) (u / 128) (Nat.div_le_div_right h)
      omega
/-- Where the longest that can be has been met, nothing farther is better. -/
theorem search_full (x : Txt) (i most : Nat) (b : Nat × Nat) (h4 : 4 ≤ most) : ∀ m looks, (most ≤ b.2 ∨ ∀ j, j < m → ∀ r, r ≤ most → pays (i - j) r = false) → search x i most m looks b = b := by
  intro m
  induction m with
  | zero => intro looks _; rfl
  | succ m ih =>
    intro looks h
    simp only [search]
    have hm : better x i most m b = b := by
      unfold better
      rw [if_neg]
      rintro ⟨h1, h2⟩
      have hr := (runFrom_le x m i most (most - 4) 4 (Nat.le_refl _) h4).2.1
      rcases h with h | h
      · omega
      · rw [h m (by omega) _ hr] at h2; cases h2
    have h' : ∀ b', b' = b → ∀ looks, search x i most m looks b' = b := fun b' e looks => by
      subst e
      refine ih looks ?_
      rcases h with h | h
      · exact .inl h
      · exact .inr (fun j hj => h j (by omega))
    split
    · rfl
    · split
      · exact h' _ hm _
      · exact h' _ rfl _
theorem better_full (x : Txt) (i most j : Nat) (b : Nat × Nat) (hb : b.2 ≤ most) (hr : runFrom x j i most 4 = most) : most ≤ (better x i most j b).2 ∨ ∀ j', j' < j → ∀ r, r ≤ most → pays (i - j') r = false := by
  by_cases h1 : most ≤ b.2
  · left
    unfold better
    split
    · rw [hr]; exact Nat.le_refl _
    · exact h1
  · by_cases h2 : pays (i - j) most = true
    · left
      unfold better
      rw [hr, if_pos ⟨by omega, h2⟩]; exact Nat.le_refl _
    · right
      intro j' hj r hle
      unfold pays at h2 ⊢
      rw [decide_eq_false_iff_not]
      intro h3
      apply h2
      rw [decide_eq_true_iff]
      have := put_len_mono (i - j) (i - j') (by omega)
      omega
theorem better_le (x : Txt) (i most j : Nat) (b : Nat × Nat) (h4 : 4 ≤ most) (hb : b.2 ≤ most) : (better x i most j b).2 ≤ most := by
  unfold better
  split
  · exact (runFrom_le x j i most (most - 4) 4 (Nat.le_refl _) h4).2.1
  · exact hb
/-- A match that may be: it pays, and says what stands there. -/
def Fits (x : Txt) (i : Nat) (b : Nat × Nat) : Prop := b = (0, 0) ∨ (1 ≤ b.1 ∧ b.1 ≤ 32768 ∧ b.1 ≤ i ∧ 4 ≤ b.2 ∧ b.2 ≤ 259 ∧ i + b.2 ≤ x.length ∧ 3 + (put b.1).length ≤ b.2 ∧ ∀ k, k < b.2 → gd x (i - b.1 + k) = gd x (i + k))
theorem search_fits (x : Txt) (i most : Nat) (h4 : 4 ≤ most) (hm : most ≤ 259) (hl : i + most ≤ x.length) : ∀ m looks b, m ≤ i → Fits x i b → Fits x i (search x i most m looks b) := by
  intro m
  induction m with
  | zero => intro looks b _ h; exact h
  | succ m ih =>
    intro looks b hmi h
    simp only [search]
    split
    · exact h
    · rename_i hst
      split
      · rename_i hs
        refine ih _ _ (by omega) ?_
        unfold better
        split
        · rename_i hb
          obtain ⟨g1, g2, g3⟩ := runFrom_le x m i most (most - 4) 4 (Nat.le_refl _) h4
          have hp := hb.2
          unfold pays at hp
          rw [decide_eq_true_iff] at hp
          unfold same4 at hs
          rw [decide_eq_true_iff] at hs
          right
          refine ⟨by simp only; omega, by simp only; omega, by simp only; omega, g1, by simp only; omega, by simp only; omega, hp, fun k hk => ?_⟩
          have e : i - (i - m) + k = m + k := by omega
          simp only [e]
          by_cases hk4 : 4 ≤ k
          · exact g3 k hk4 hk
          · rcases k with _ | _ | _ | _ | k
            · exact hs.1
            · exact hs.2.1
            · exact hs.2.2.1
            · exact hs.2.2.2
            · omega
        · exact h
      · exact ih _ _ (by omega) h
theorem best_fits (x : Txt) (i : Nat) : Fits x i (best x i) := by
  unfold best
  split
  · exact .inl rfl
  · exact search_fits x i _ (by omega) (by omega) (by omega) i 0 (0, 0) (Nat.le_refl _) (.inl rfl)
/-- A text's own tokens, from the place i on, where the last one ended at 'frm', by so many steps. -/
def ownF (x : Txt) : Nat → Nat → Nat → List Tok
  | 0, _, _ => []
  | f + 1, i, frm =>
    if i < x.length then
      if 0 < (best x i).2 then ⟨(x.drop frm).take (i - frm), ((best x i).1 : Int), ((best x i).2 : Int)⟩ :: ownF x f (i + (best x i).2) (i + (best x i).2)
      else ownF x f (i + 1) frm
    else if frm < x.length then [⟨x.drop frm, 0, 0⟩] else []
theorem ownF_any (x : Txt) : ∀ f g i frm : Nat, x.length - i < f → x.length - i < g → ownF x f i frm = ownF x g i frm
  | 0, _, _, _, h1, _ => absurd h1 (by omega)
  | _ + 1, 0, _, _, _, h2 => absurd h2 (by omega)
  | f + 1, g + 1, i, frm, h1, h2 => by
    rw [ownF, ownF]
    by_cases h : i < x.length
    · rw [if_pos h, if_pos h]
      by_cases h3 : 0 < (best x i).2
      · rw [if_pos h3, if_pos h3, ownF_any x f g (i + (best x i).2) (i + (best x i).2) (by omega) (by omega)]
      · rw [if_neg h3, if_neg h3, ownF_any x f g (i + 1) frm (by omega) (by omega)]
    · rw [if_neg h, if_neg h]
/-- A text's own tokens, from the place i on, where the last one ended at 'frm'. -/
def ownFrom (x : Txt) (i frm : Nat) : List Tok := ownF x (x.length - i + 1) i frm
theorem own_match (x : Txt) (i frm : Nat) (h : i < x.length) (h2 : 0 < (best x i).2) : ownFrom x i frm = ⟨(x.drop frm).take (i - frm), ((best x i).1 : Int), ((best x i).2 : Int)⟩ :: ownFrom x (i + (best x i).2) (i + (best x i).2) := by
  have e := ownF_any x (x.length - i) (x.length - (i + (best x i).2) + 1) (i + (best x i).2) (i + (best x i).2) (by omega) (by omega)
  rw [ownFrom, ownF, if_pos h, if_pos h2, e]
  rfl
theorem own_skip (x : Txt) (i frm : Nat) (h : i < x.length) (h2 : ¬ 0 < (best x i).2) : ownFrom x i frm = ownFrom x (i + 1) frm := by
  have e := ownF_any x (x.length - i) (x.length - (i + 1) + 1) (i + 1) frm (by omega) (by omega)
  rw [ownFrom, ownF, if_pos h, if_neg h2, e]
  rfl
theorem own_end (x : Txt) (i frm : Nat) (h : ¬ i < x.length) : ownFrom x i frm = if frm < x.length then [⟨x.drop frm, 0, 0⟩] else [] := by rw [ownFrom, ownF, if_neg h]
theorem copyN_says (x : Txt) (i d : Nat) (hd : 1 ≤ d) (hdi : d ≤ i) : ∀ n, i + n ≤ x.length → (∀ k, k < n → gd x (i - d + k) = gd x (i + k)) → copyN d n (x.take i) = x.take (i + n) := by
  intro n
  induction n with
  | zero => intro _ _; rfl
  | succ n ih =>
    intro hl hs
    rw [copyN_snoc, ih (by omega) (fun k hk => hs k (by omega))]
    have e1 : (x.take (i + n)).length = i + n := by rw [List.length_take]; omega
    rw [e1]
    have e2 : (x.take (i + n)).getD (i + n - d) 0 = gd x (i + n - d) := by
      unfold gd; rw [List.getD_eq_getElem?_getD, List.getD_eq_getElem?_getD, List.getElem?_take, if_pos (by omega)]
    have e3 := hs n (by omega)
    rw [show i - d + n = i + n - d by omega] at e3
    rw [e2, e3]
    unfold gd
    rw [show i + (n + 1) = (i + n) + 1 by omega, getD_take x (i + n) (by omega)]
/-- They are a right list, and say the text. -/
theorem own_good (x : Txt) (hx : x.length ≤ 65536) : ∀ n i frm, x.length - i ≤ n → frm ≤ i → i ≤ x.length → Good (ownFrom x i frm) frm x.length ∧ expand (x.take frm) (ownFrom x i frm) = x := by
  intro n
  induction n with
  | zero =>
    intro i frm h1 h2 h3
    rw [own_end x i frm (by omega)]
    split
    · rename_i hf
      refine ⟨⟨hf, .inl ⟨⟨rfl, rfl⟩, by simp; omega⟩, by simp [Good]; omega⟩, ?_⟩
      rw [expand_cons]
      show copyN 0 0 (x.take frm ++ x.drop frm) = x
      rw [List.take_append_drop]; rfl
    · exact ⟨by simp only [Good]; omega, by show x.take frm = x; rw [List.take_of_length_le (by omega)]⟩
  | succ n ih =>
    intro i frm h1 h2 h3
    by_cases hi : i < x.length
    · by_cases hb : 0 < (best x i).2
      · rw [own_match x i frm hi hb]
        rcases best_fits x i with e | ⟨f1, f2, f3, f4, f5, f6, f7, f8⟩
        · rw [e] at hb; simp at hb
        · obtain ⟨g1, g2⟩ := ih (i + (best x i).2) (i + (best x i).2) (by omega) (Nat.le_refl _) (by omega)
          have hlit : ((x.drop frm).take (i - frm)).length = i - frm := by rw [List.length_take, List.length_drop]; omega
          have hgrow : grow (x.take frm) ⟨(x.drop frm).take (i - frm), ((best x i).1 : Int), ((best x i).2 : Int)⟩ = x.take (i + (best x i).2) := by
            show copyN (((best x i).1 : Int)).toNat (((best x i).2 : Int)).toNat (x.take frm ++ (x.drop frm).take (i - frm)) = _
            rw [Int.toNat_natCast, Int.toNat_natCast]
            have e : x.take frm ++ (x.drop frm).take (i - frm) = x.take i := by
              have := List.take_add (l := x) (i := frm) (j := i - frm)
              rw [show frm + (i - frm) = i by omega] at this
              exact this.symm
            rw [e]
            exact copyN_says x i (best x i).1 f1 f3 (best x i).2 f6 f8
          refine ⟨⟨by omega, ?_, ?_⟩, by rw [expand_cons, hgrow]; exact g2⟩
          · by_cases hfin : False
            · exact hfin.elim
            · refine .inr ⟨by simp only [hlit]; omega, by simp only; omega, by simp only; omega, by simp only [hlit]; omega, by simp only; omega, by simp only; omega, by simp only [hlit]; omega⟩
          · have e : frm + ((x.drop frm).take (i - frm)).length + (((best x i).2 : Int)).toNat = i + (best x i).2 := by rw [hlit, Int.toNat_natCast]; omega
            simp only
            rw [e]; exact g1
      · rw [own_skip x i frm hi hb]
        exact ih (i + 1) frm (by omega) (by omega) (by omega)
    · have : i = x.length := by omega
      rw [own_end x i frm hi]
      split
      · rename_i hf
        refine ⟨⟨hf, .inl ⟨⟨rfl, rfl⟩, by simp; omega⟩, by simp [Good]; omega⟩, ?_⟩
        rw [expand_cons]
        show copyN 0 0 (x.take frm ++ x.drop frm) = x
        rw [List.take_append_drop]; rfl
      · exact ⟨by simp only [Good]; omega, by show x.take frm = x; rw [List.take_of_length_le (by omega)]⟩
end Go.Proofs.YthdblnfohbldcaaGreat.Lz
