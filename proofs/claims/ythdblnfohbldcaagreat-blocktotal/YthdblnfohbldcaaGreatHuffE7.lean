/-
  A text there and back: the mathematics.
-/
import Derived.Test.YthdblnfohbldcaaGreatHuffE5
import Derived.Test.YthdblnfohbldcaaGreatHuffN1
import Derived.Test.YthdblnfohbldcaaGreatHuffD6
namespace Go.Proofs.YthdblnfohbldcaaGreat.Huff
open Go.Proofs.YthdblnfohbldcaaGreat.Base
set_option linter.unusedVariables false
/- The lengths. -/
theorem run_split (rs : List Int) : rs = List.replicate (runOf rs) (rs.getD 0 0) ++ rs.drop (runOf rs) := by
  cases rs with
  | nil => rfl
  | cons x r =>
    have key : ∀ r : List Int, r = List.replicate (r.takeWhile fun y => decide (y = x)).length x ++ r.drop (r.takeWhile fun y => decide (y = x)).length := by
      intro r
      induction r with
      | nil => rfl
      | cons y r ih =>
        by_cases e : y = x
        · rw [List.takeWhile_cons, if_pos (by simpa using e), List.length_cons, List.replicate_succ, List.drop_succ_cons, List.cons_append, ← ih, e]
        · rw [List.takeWhile_cons, if_neg (by simpa using e)]; rfl
    show x :: r = List.replicate (1 + _) x ++ (x :: r).drop (1 + _)
    rw [Nat.add_comm 1, List.replicate_succ, List.drop_succ_cons, List.cons_append, ← key r]
theorem run_next (rs : List Int) (h : rs.drop (runOf rs) ≠ []) : (rs.drop (runOf rs)).getD 0 0 ≠ rs.getD 0 0 := by
  cases rs with
  | nil => exact absurd rfl h
  | cons x r =>
    have key : ∀ r : List Int, r.drop (r.takeWhile fun y => decide (y = x)).length ≠ [] → (r.drop (r.takeWhile fun y => decide (y = x)).length).getD 0 0 ≠ x := by
      intro r
      induction r with
      | nil => intro h; exact absurd rfl h
      | cons y r ih =>
        by_cases e : y = x
        · rw [List.takeWhile_cons, if_pos (by simpa using e), List.length_cons, List.drop_succ_cons]; exact ih
        · rw [List.takeWhile_cons, if_neg (by simpa using e)]; intro _; exact e
    have e : (x :: r).drop (runOf (x :: r)) = r.drop (r.takeWhile fun y => decide (y = x)).length := by
      show (x :: r).drop (1 + _) = _
      rw [Nat.add_comm 1, List.drop_succ_cons]
    rw [e] at h ⊢
    exact key r h
theorem put0 : Nums.put 0 = [(0 : BitVec 8)] := by rw [Nums.put_small 0 (by omega)]; rfl
theorem get0 (rest : List (BitVec 8)) : Nums.get ((0 : BitVec 8) :: rest) = (0, 1, 0) := by
  have := Nums.get_put 0 rest (by omega)
  rw [put0] at this
  exact this
theorem lens_back : ∀ (f n : Nat) (rs acc : List Int) (rest : List (BitVec 8)), (pairsGo rs.length rs).length < f → rs.length ≤ n → acc.length + rs.length ≤ 256 → (∀ x ∈ rs, 0 ≤ x ∧ x ≤ 15) → (rs ≠ [] → lastLen acc ≠ rs.getD 0 0) → lastLen (acc ++ rs) ≠ 0 →
    lensGo f (pairsGo n rs ++ (0 :: rest)) acc = some (acc ++ rs, rest)
  | 0, _, rs, acc, rest, h, _, _, _, _, _ => by omega
  | f + 1, n, rs, acc, rest, hf, hn, hl, hin, hd, hz => by
    by_cases e : rs = []
    · subst e
      have e2 : pairsGo n ([] : List Int) = [] := by cases n <;> simp [pairsGo]
      rw [e2, List.nil_append, List.append_nil]
      rw [List.append_nil] at hz
      simp only [lensGo, get0]
      rw [if_neg (by omega), if_pos trivial, if_neg hz]
      rfl
    · have hp := runOf_pos e
      rw [pairs_step e] at hf
      rw [pairsGo_more n rs rs.length hn (Nat.le_refl _), pairs_step e]
      have hx := hin (rs.getD 0 0) (by
        cases rs with
        | nil => exact absurd rfl e
        | cons x r => exact List.mem_cons_self ..)
      have hs := run_split rs
      have hnx := run_next rs
      have hb := b8_of (rs.getD 0 0) hx.1 hx.2
      have hdd := hd e
      generalize rs.getD 0 0 = x at hs hnx hx hb hdd hf ⊢
      generalize runOf rs = q at hs hnx hp hf ⊢
      have hdl : (rs.drop q).length = rs.length - q := List.length_drop ..
      have hin2 : ∀ y ∈ rs.drop q, 0 ≤ y ∧ y ≤ 15 := fun y hy => hin y (List.mem_of_mem_drop hy)
      generalize rs.drop q = r2 at hs hnx hdl hin2 hf ⊢
      simp only [List.length_append, List.length_singleton] at hf
      have hg : Nums.get (Nums.put q ++ [BitVec.ofNat 8 x.toNat] ++ pairsGo r2.length r2 ++ (0 :: rest)) = (q, (Nums.put q).length, 0) := by
        rw [List.append_assoc, List.append_assoc]; exact Nums.get_put q _ (by omega)
      have hdr : (Nums.put q ++ [BitVec.ofNat 8 x.toNat] ++ pairsGo r2.length r2 ++ (0 :: rest)).drop (Nums.put q).length = BitVec.ofNat 8 x.toNat :: (pairsGo r2.length r2 ++ (0 :: rest)) := by
        rw [List.append_assoc, List.append_assoc, List.drop_left]; rfl
      simp only [lensGo, hg, hdr]
      rw [if_neg (by omega), if_neg (by omega), if_neg (by rw [hb]; omega), hb]
      have hl2 : lastLen (acc ++ List.replicate q x) = x := lastLen_app acc q x (by omega)
      rw [lens_back f r2.length r2 (acc ++ List.replicate q x) rest (by omega) (Nat.le_refl _) (by rw [List.length_append, List.length_replicate]; omega) hin2 (fun h => by rw [hl2]; exact (hnx h).symm) (by rw [List.append_assoc, ← hs]; exact hz)]
      rw [List.append_assoc, ← hs]
theorem trimmed_last (ls : List Int) : lastLen (trimmed ls) ≠ 0 := by
  unfold lastLen trimmed
  rw [List.getLast?_reverse]
  generalize ls.reverse = r
  induction r with
  | nil => decide
  | cons y r ih =>
    by_cases e : y = 0
    · rw [List.dropWhile_cons, if_pos (by simpa using e)]; exact ih
    · rw [List.dropWhile_cons, if_neg (by simpa using e)]; exact e
theorem trimmed_pre (ls : List Int) : ∃ n, ls = trimmed ls ++ List.replicate n 0 := by
  have key : ∀ r : List Int, ∃ n, r = List.replicate n 0 ++ r.dropWhile fun x => decide (x = 0) := by
    intro r
    induction r with
    | nil => exact ⟨0, rfl⟩
    | cons y r ih =>
      by_cases e : y = 0
      · obtain ⟨n, hn⟩ := ih
        refine ⟨n + 1, ?_⟩
        rw [List.dropWhile_cons, if_pos (by simpa using e), List.replicate_succ, List.cons_append, ← hn, e]
      · exact ⟨0, by rw [List.dropWhile_cons, if_neg (by simpa using e)]; rfl⟩
  obtain ⟨n, hn⟩ := key ls.reverse
  refine ⟨n, ?_⟩
  have := congrArg List.reverse hn
  rw [List.reverse_reverse, List.reverse_append, List.reverse_replicate] at this
  exact this
theorem getD_mem {xs : List Int} (h : xs ≠ []) : xs.getD 0 0 ∈ xs := by
  cases xs with
  | nil => exact absurd rfl h
  | cons x r => exact List.mem_cons_self ..
theorem lensOf_pairs (ls : List Int) (hl : ls.length ≤ 256) (hin : allIn 15 ls = true) (rest : List (BitVec 8)) : lensOf (pairsOf ls ++ [0] ++ rest) = some (trimmed ls, rest) := by
  obtain ⟨n, hn⟩ := trimmed_pre ls
  have h1 : ∀ x ∈ trimmed ls, 0 ≤ x ∧ x ≤ 15 := by
    intro x hx
    have hm : x ∈ ls := by rw [hn]; exact List.mem_append_left _ hx
    unfold allIn at hin
    have := List.all_eq_true.1 hin x hm
    exact of_decide_eq_true this
  have h2 : (trimmed ls).length ≤ ls.length := by
    have := congrArg List.length hn
    rw [List.length_append] at this; omega
  unfold lensOf pairsOf
  rw [List.append_assoc]
  have := lens_back ((pairsGo (trimmed ls).length (trimmed ls) ++ ([0] ++ rest)).length + 1) (trimmed ls).length (trimmed ls) [] rest (by rw [List.length_append]; omega) (Nat.le_refl _) (by simp; omega) h1 (fun h => by rw [lastLen_nil]; have := h1 ((trimmed ls).getD 0 0) (getD_mem h); omega) (by rw [List.nil_append]; exact trimmed_last ls)
  exact this
/- The same words without the zeros at the end. -/
theorem trimmed_get (ls : List Int) (i : Nat) : (trimmed ls).getD i 0 = ls.getD i 0 := by
  obtain ⟨n, hn⟩ := trimmed_pre ls
  generalize trimmed ls = ts at hn ⊢
  subst hn
  rw [List.getD_eq_getElem?_getD, List.getD_eq_getElem?_getD, List.getElem?_append]
  by_cases h : i < ts.length
  · rw [if_pos h]
  · rw [if_neg h, List.getElem?_eq_none (by omega), List.getElem?_replicate]
    split <;> rfl
theorem cnt_congr {a b : List Int} (h : ∀ i, a.getD i 0 = b.getD i 0) (l : Nat) : ∀ k, cnt a l k = cnt b l k
  | 0 => rfl
  | k + 1 => by simp only [cnt]; rw [cnt_congr h l k, h k]
theorem cnt_far {ls : List Int} {l m : Nat} (hl : 0 < l) : ∀ n, (∀ j, m ≤ j → j < n → ls.getD j 0 = 0) → m ≤ n → cnt ls l n = cnt ls l m
  | 0, _, h => by rw [show m = 0 by omega]
  | n + 1, h0, h => by
    by_cases e : m = n + 1
    · rw [e]
    · simp only [cnt]
      rw [cnt_far hl n (fun j h1 h2 => h0 j h1 (by omega)) (by omega), h0 n (by omega) (by omega), if_neg (by omega)]; rfl
theorem trimmed_cntW (ls : List Int) (l : Nat) : cntW (trimmed ls) (trimmed ls).length l = cntW ls ls.length l := by
  unfold cntW
  by_cases h : l = 0
  · rw [if_pos h, if_pos h]
  · rw [if_neg h, if_neg h, cnt_congr (trimmed_get ls) l]
    symm
    refine cnt_far (by omega) _ (fun j h1 h2 => ?_) ?_
    · rw [← trimmed_get, List.getD_eq_getElem?_getD, List.getElem?_eq_none h1]; rfl
    · obtain ⟨n, hn⟩ := trimmed_pre ls
      have := congrArg List.length hn
      rw [List.length_append] at this; omega
theorem trimmed_first (ls : List Int) : ∀ l, first (trimmed ls) l = first ls l
  | 0 => rfl
  | l + 1 => by simp only [first]; rw [trimmed_first ls l, trimmed_cntW]
theorem trimmed_code (ls : List Int) (i : Nat) : codeAt (trimmed ls) i = codeAt ls i := by
  unfold codeAt
  rw [trimmed_get, trimmed_first, cnt_congr (trimmed_get ls)]
theorem trimmed_right (ls : List Int) : right (trimmed ls) = right ls := by
  unfold right last
  rw [trimmed_first, trimmed_cntW]
/- The bits. -/
structure Pk8 (S : List Nat) (s : List (BitVec 8) × Nat × Nat) : Prop where
  f : s.2.2 = S.length % 8
  len : s.1.length = S.length / 8
  low : ∀ i, i < 8 * s.1.length → bitAt s.1 i = S.getD i 0
  part : ∀ j, j < s.2.2 → s.2.1 / 2 ^ j % 2 = S.getD (8 * s.1.length + j) 0
  small : s.2.1 < 2 ^ s.2.2
theorem bitAt_app (B : List (BitVec 8)) (c : BitVec 8) (i : Nat) (h : i < 8 * B.length) : bitAt (B ++ [c]) i = bitAt B i := by
  unfold bitAt
  rw [List.getD_eq_getElem?_getD, List.getElem?_append_left (by omega), ← List.getD_eq_getElem?_getD]
theorem bitAt_new (B : List (BitVec 8)) (c : BitVec 8) (j : Nat) (h : j < 8) : bitAt (B ++ [c]) (8 * B.length + j) = c.toNat / 2 ^ j % 2 := by
  unfold bitAt
  rw [show (8 * B.length + j) / 8 = B.length by omega, show (8 * B.length + j) % 8 = j by omega, List.getD_eq_getElem?_getD, List.getElem?_append_right (by omega), Nat.sub_self]
  rfl
theorem add_bit (g b f j : Nat) (hg : g < 2 ^ f) (hb : b ≤ 1) : (g + b * 2 ^ f) / 2 ^ j % 2 = if j < f then g / 2 ^ j % 2 else if j = f then b else 0 := by
  by_cases h : j < f
  · rw [if_pos h, show b * 2 ^ f = 2 ^ j * (b * (2 * 2 ^ (f - j - 1))) by
      rw [← Nat.pow_succ', show (f - j - 1).succ = f - j by omega, Nat.mul_left_comm, ← Nat.pow_add, show j + (f - j) = f by omega], Nat.add_mul_div_left _ _ (Nat.pow_pos (by decide)), Nat.mul_left_comm, Nat.add_mul_mod_self_left]
  · rw [if_neg h]
    by_cases e : j = f
    · rw [if_pos e, e, Nat.add_mul_div_right _ _ (Nat.pow_pos (by decide)), Nat.div_eq_of_lt hg]; omega
    · rw [if_neg e, Nat.div_eq_of_lt]
      have h1 : 2 ^ (f + 1) ≤ 2 ^ j := Nat.pow_le_pow_right (by decide) (by omega)
      have h2 := Nat.mul_le_mul_right (2 ^ f) hb
      rw [Nat.pow_succ] at h1
      omega
theorem getD_app (S : List Nat) (b i : Nat) : (S ++ [b]).getD i 0 = if i < S.length then S.getD i 0 else if i = S.length then b else 0 := by
  rw [List.getD_eq_getElem?_getD, List.getElem?_append]
  by_cases h : i < S.length
  · rw [if_pos h, if_pos h, List.getD_eq_getElem?_getD]
  · rw [if_neg h, if_neg h]
    by_cases e : i = S.length
    · rw [if_pos e, e, Nat.sub_self]; rfl
    · rw [if_neg e, List.getElem?_eq_none (by simp; omega)]; rfl
theorem pk_step {S : List Nat} {s : List (BitVec 8) × Nat × Nat} (h : Pk8 S s) (b : Nat) (hb : b ≤ 1) : Pk8 (S ++ [b]) (bstep s b) := by
  obtain ⟨B, g, f⟩ := s
  obtain ⟨h1, h2, h3, h4, h5⟩ := h
  simp only [] at h1 h2 h3 h4 h5
  unfold bstep
  simp only []
  by_cases h7 : f = 7
  · rw [if_pos h7]
    subst h7
    have ht : (BitVec.ofNat 8 (g + b * 128)).toNat = g + b * 2 ^ 7 := by rw [BitVec.toNat_ofNat]; omega
    refine ⟨by simp; omega, by simp; omega, fun i hi => ?_, fun j hj => by simp only [] at hj; omega, Nat.zero_lt_one⟩
    simp only [List.length_append, List.length_singleton] at hi
    simp only []
    rw [getD_app]
    by_cases hl : i < 8 * B.length
    · rw [bitAt_app _ _ _ hl, h3 i hl, if_pos (by omega)]
    · obtain ⟨j, rfl⟩ : ∃ j, i = 8 * B.length + j := ⟨i - 8 * B.length, by omega⟩
      rw [bitAt_new _ _ _ (by omega), ht, add_bit g b 7 j h5 hb]
      by_cases hj : j < 7
      · rw [if_pos hj, if_pos (by omega), h4 j hj]
      · rw [if_neg hj, if_pos (by omega), if_neg (by omega), if_pos (by omega)]
  · rw [if_neg h7]
    refine ⟨by simp; omega, by simp; omega, fun i hi => ?_, fun j hj => ?_, ?_⟩
    · simp only [] at hi ⊢
      rw [h3 i hi, getD_app, if_pos (by omega)]
    · simp only [] at hj ⊢
      rw [add_bit g b f j h5 hb, getD_app]
      by_cases h8 : j < f
      · rw [if_pos h8, if_pos (by omega), h4 j h8]
      · rw [if_neg h8, if_pos (by omega), if_neg (by omega), if_pos (by omega)]
    · simp only []
      rw [Nat.pow_succ]
      have := Nat.mul_le_mul_right (2 ^ f) hb
      omega
theorem pk_all : ∀ (T S : List Nat) (s : List (BitVec 8) × Nat × Nat), Pk8 S s → (∀ b ∈ T, b ≤ 1) → Pk8 (S ++ T) (T.foldl bstep s)
  | [], S, s, h, _ => by rw [List.append_nil]; exact h
  | b :: T, S, s, h, hb => by
    have := pk_all T (S ++ [b]) (bstep s b) (pk_step h b (hb b (List.mem_cons_self ..))) (fun c hc => hb c (List.mem_cons_of_mem _ hc))
    rw [List.append_assoc] at this
    exact this
theorem pk_packed (S : List Nat) (h : ∀ b ∈ S, b ≤ 1) : Pk8 S (packed [] S) := by
  have := pk_all S [] ([], 0, 0) ⟨rfl, rfl, fun i hi => by simp at hi, fun j hj => by simp at hj, Nat.zero_lt_one⟩ h
  rw [List.nil_append] at this
  exact this
theorem bstep_app (P : List (BitVec 8)) (s : List (BitVec 8) × Nat × Nat) (b : Nat) : bstep (P ++ s.1, s.2.1, s.2.2) b = (P ++ (bstep s b).1, (bstep s b).2.1, (bstep s b).2.2) := by
  unfold bstep
  simp only []
  by_cases h : s.2.2 = 7
  · rw [if_pos h, if_pos h, List.append_assoc]
  · rw [if_neg h, if_neg h]
theorem fold_app (P : List (BitVec 8)) : ∀ (S : List Nat) (s : List (BitVec 8) × Nat × Nat), S.foldl bstep (P ++ s.1, s.2.1, s.2.2) = (P ++ (S.foldl bstep s).1, (S.foldl bstep s).2.1, (S.foldl bstep s).2.2)
  | [], s => rfl
  | b :: S, s => by rw [List.foldl_cons, List.foldl_cons, bstep_app, fold_app P S (bstep s b)]
theorem packed_app (P : List (BitVec 8)) (S : List Nat) : flush (packed P S) = P ++ flush (packed [] S) := by
  have h := fold_app P S ([], 0, 0)
  rw [List.append_nil] at h
  unfold packed
  rw [h]
  unfold flush
  simp only []
  by_cases e : (S.foldl bstep ([], 0, 0)).2.2 = 0
  · rw [if_pos e, if_pos e]
  · rw [if_neg e, if_neg e, List.append_assoc]
/-- What the flushed bytes hold. -/
theorem flushed (S : List Nat) (h : ∀ b ∈ S, b ≤ 1) : (flush (packed [] S)).length = (S.length + 7) / 8 ∧ ∀ i, i < 8 * (flush (packed [] S)).length → bitAt (flush (packed [] S)) i = S.getD i 0 := by
  obtain ⟨h1, h2, h3, h4, h5⟩ := pk_packed S h
  unfold flush
  by_cases e : (packed [] S).2.2 = 0
  · rw [if_pos e]
    exact ⟨by omega, h3⟩
  · rw [if_neg e]
    generalize packed [] S = s at h1 h2 h3 h4 h5 e ⊢
    obtain ⟨B, g, f⟩ := s
    simp only [] at h1 h2 h3 h4 h5 e ⊢
    refine ⟨by rw [List.length_append, List.length_singleton]; omega, fun i hi => ?_⟩
    rw [List.length_append, List.length_singleton] at hi
    by_cases hl : i < 8 * B.length
    · rw [bitAt_app _ _ _ hl, h3 i hl]
    · obtain ⟨j, rfl⟩ : ∃ j, i = 8 * B.length + j := ⟨i - 8 * B.length, by omega⟩
      have hp : 2 ^ f ≤ 2 ^ 8 := Nat.pow_le_pow_right (by decide) (by omega)
      have ht : (BitVec.ofNat 8 g).toNat = g := by rw [BitVec.toNat_ofNat]; omega
      rw [bitAt_new _ _ _ (by omega), ht]
      by_cases hj : j < f
      · exact h4 j hj
      · have hz := add_bit g 0 f j h5 (by omega)
        rw [Nat.zero_mul, Nat.add_zero, if_neg hj] at hz
        rw [hz, List.getD_eq_getElem?_getD, List.getElem?_eq_none (by omega)]
        split <;> rfl
/- The words. -/
theorem wbits_get (l v m : Nat) (h : m < l) : (wbits l v).getD m 0 = v / 2 ^ (l - 1 - m) % 2 := by
  unfold wbits
  rw [List.getD_eq_getElem?_getD, List.getElem?_map, List.getElem?_range h]; rfl
theorem div_step (v d : Nat) : 2 * (v / 2 ^ (d + 1)) + v / 2 ^ d % 2 = v / 2 ^ d := by
  rw [Nat.pow_succ, ← Nat.div_div_eq_div_mul]; omega
theorem word_back (ls : List Int) (R : List (BitVec 8)) (l v : Nat) (hl : l ≤ 15) (h1 : first ls l ≤ v) (h2 : v < first ls l + cntW ls ls.length l) : ∀ (f i m : Nat), f + m = 16 → 1 ≤ m → m ≤ l → i + (l - m) < 8 * R.length → (∀ j, j < l + 1 - m → bitAt R (i + j) = v / 2 ^ (l - m - j) % 2) → wordGo ls R f i m (v / 2 ^ (l - m + 1)) = some (l, v)
  | 0, i, m, hf, h0, hm, hi, hb => by omega
  | f + 1, i, m, hf, h0, hm, hi, hb => by
    simp only [wordGo]
    have hb0 := hb 0 (by omega)
    rw [Nat.add_zero, Nat.sub_zero] at hb0
    rw [if_neg (by omega), hb0, div_step]
    by_cases e : m = l
    · subst e
      rw [Nat.sub_self, Nat.pow_zero, Nat.div_one, if_pos ⟨h1, h2⟩]
    · have hfar := first_far ls m (l - m - 1)
      rw [show l - m - 1 + 1 = l - m by omega, show m + (l - m - 1) + 1 = l by omega] at hfar
      have hge : first ls m + cntW ls ls.length m ≤ v / 2 ^ (l - m) := (Nat.le_div_iff_mul_le (Nat.pow_pos (by decide))).2 (by omega)
      rw [if_neg (by omega)]
      have := word_back ls R l v hl h1 h2 f (i + 1) (m + 1) (by omega) (by omega) (by omega) (by omega) (fun j hj => by
        rw [show i + 1 + j = i + (j + 1) by omega, hb (j + 1) (by omega), show l - m - (j + 1) = l - (m + 1) - j by omega])
      rw [show l - (m + 1) + 1 = l - m by omega] at this
      exact this
theorem flat_get (A B : List Nat) (i : Nat) (h : i < B.length) : (A ++ B).getD (A.length + i) 0 = B.getD i 0 := by
  rw [List.getD_eq_getElem?_getD, List.getElem?_append_right (by omega), show A.length + i - A.length = i by omega, List.getD_eq_getElem?_getD]
theorem flat_pre (A B : List Nat) (i : Nat) (h : i < A.length) : (A ++ B).getD i 0 = A.getD i 0 := by
  rw [List.getD_eq_getElem?_getD, List.getElem?_append_left h, List.getD_eq_getElem?_getD]
theorem bitsOf_split (cs : List (Int × Nat)) (t : List (BitVec 8)) (k : Nat) : bitsOf cs t = bitsOf cs (t.take k) ++ bitsOf cs (t.drop k) := by
  unfold bitsOf
  rw [← List.flatten_append, ← List.map_append, List.take_append_drop]
theorem codesOf_get (ls : List Int) (i : Nat) (h : i < ls.length) : (codesOf ls).getD i (0, 0) = codeAt ls i := by
  unfold codesOf
  rw [List.getD_eq_getElem?_getD, List.getElem?_map, List.getElem?_range h]; rfl
/-- The text of words that were laid one behind the other. -/
theorem text_back (ls : List Int) (hl : ls.length = 256) (hin : allIn 15 ls = true) (hr : right ls = true) (t : List (BitVec 8)) (hp : ∀ c ∈ t, 0 < ls.getD c.toNat 0) (R : List (BitVec 8)) (hR : R.length = ((bitsOf (codesOf ls) t).length + 7) / 8) (hb : ∀ i, i < 8 * R.length → bitAt R i = (bitsOf (codesOf ls) t).getD i 0) :
    ∀ k, k ≤ t.length → textTo (trimmed ls) R k = some (t.take k, (bitsOf (codesOf ls) (t.take k)).length)
  | 0, _ => by simp [textTo, bitsOf]
  | k + 1, h => by
    have ih := text_back ls hl hin hr t hp R hR hb k (by omega)
    have hk : k < t.length := by omega
    have hcm : t.getD k 0 ∈ t := by
      rw [List.getD_eq_getElem?_getD, List.getElem?_eq_getElem hk]; exact List.getElem_mem hk
    have hnx := bitsOf_next (codesOf ls) t k hk
    have htk := getD_take t k hk
    have hpos := hp _ hcm
    generalize t.getD k 0 = c at hnx htk hpos hcm
    have hc := lt8 c
    have hx := allIn_get hin c.toNat (by omega)
    rw [codesOf_get ls _ (by omega)] at hnx
    obtain ⟨l, hlen⟩ : ∃ l : Nat, ls.getD c.toNat 0 = (l : Int) := ⟨(ls.getD c.toNat 0).toNat, by omega⟩
    rw [hlen] at hx hpos
    have hcode : codeAt ls c.toNat = ((l : Int), first ls l + cnt ls l c.toNat) := by
      unfold codeAt
      rw [hlen, if_neg (by omega)]; rfl
    rw [hcode] at hnx
    simp only [Int.toNat_natCast] at hnx
    have hcn := cnt_lt ls l (i := c.toNat) (k := ls.length) (by omega) hlen
    have hcw : cntW ls ls.length l = cnt ls l ls.length := by unfold cntW; rw [if_neg (by omega)]
    generalize hv : first ls l + cnt ls l c.toNat = v at hnx hcode
    have hsp := bitsOf_split (codesOf ls) t (k + 1)
    rw [hnx] at hsp
    have hS := congrArg List.length hsp
    simp only [List.length_append, wbits_len] at hS
    have hbit : ∀ j, j < l → bitAt R ((bitsOf (codesOf ls) (t.take k)).length + j) = v / 2 ^ (l - 1 - j) % 2 := by
      intro j hj
      rw [hb _ (by omega), hsp, List.append_assoc, flat_get _ _ _ (by rw [List.length_append, wbits_len]; omega), flat_pre _ _ _ (by rw [wbits_len]; exact hj), wbits_get l v j hj]
    have hw : wordAt (trimmed ls) R (bitsOf (codesOf ls) (t.take k)).length = some (l, v) := by
      unfold wordAt
      have hlt : v < 2 ^ l := word_small ls hr (by omega) (by omega) (by omega) hcode
      have := word_back (trimmed ls) R l v (by omega) (by rw [trimmed_first]; omega) (by rw [trimmed_first, trimmed_cntW, hcw]; omega) 15 (bitsOf (codesOf ls) (t.take k)).length 1 rfl (by omega) (by omega) (by omega) (fun j hj => by rw [hbit j (by omega)])
      rw [show l - 1 + 1 = l by omega, Nat.div_eq_of_lt hlt] at this
      exact this
    rw [textTo_next ih hw, hnx, htk, List.length_append, wbits_len]
    have hsym : symOf (trimmed ls) l v = c.toNat := symOf_eq (trimmed ls) l v c.toNat (by omega) (by
      by_cases hh : c.toNat < (trimmed ls).length
      · exact hh
      · have := trimmed_get ls c.toNat
        rw [List.getD_eq_getElem?_getD, List.getElem?_eq_none (by omega), hlen] at this
        simp at this; omega) (by rw [trimmed_code]; exact hcode)
    rw [hsym]
    simp
theorem there_back (t : List (BitVec 8)) (h : t.length ≤ 65536) : (encoded t).2 = 0 ∧ decoded (encoded t).1 (t.length : Int) = (t, 0) := by
  have E : encoded t = (flush (packed (pairsOf (textLens t) ++ [0]) (bitsOf (codesOf (textLens t)) t)), 0) := if_neg (by omega)
  rw [E]
  refine ⟨rfl, ?_⟩
  obtain ⟨L, _, _, hr⟩ := textLens_ok t h
  have hin : allIn 15 (textLens t) = true := L.all
  have hle := bitsOf_le (codesOf (textLens t)) t
  obtain ⟨f1, f2⟩ := flushed (bitsOf (codesOf (textLens t)) t) hle
  simp only []
  rw [packed_app]
  have hlo := lensOf_pairs (textLens t) (by rw [textLens_len]; omega) hin (flush (packed [] (bitsOf (codesOf (textLens t)) t)))
  have hp : ∀ c ∈ t, 0 < (textLens t).getD c.toNat 0 := by
    intro c hc
    have he := (L.each c.toNat (by rw [countsOf_len]; exact lt8 c)).2.2
    refine he.2 ?_
    rw [countsOf_get t _ (lt8 c)]
    have := (List.countP_pos_iff (p := fun x : BitVec 8 => decide (x.toNat = c.toNat)) (l := t)).2 ⟨c, hc, decide_eq_true rfl⟩
    omega
  generalize flush (packed [] (bitsOf (codesOf (textLens t)) t)) = R at f1 f2 hlo ⊢
  have ht := text_back (textLens t) (textLens_len t) hin hr t hp R f1 f2 t.length (Nat.le_refl _)
  rw [List.take_length] at ht
  rw [dec_text _ R t (trimmed (textLens t)) t.length _ h hlo (by rw [trimmed_right]; exact hr) ht]
  rw [if_pos]
  unfold isEnd
  rw [decide_eq_true_iff]
  refine ⟨f1, fun j h1 h2 => ?_⟩
  rw [f2 j h1, List.getD_eq_getElem?_getD, List.getElem?_eq_none h2]; rfl
end Go.Proofs.YthdblnfohbldcaaGreat.Huff
