/-
  Which symbol has a word: the one that stands so far behind the first of its length.
-/
import Derived.Test.YtalnhhpcncjflaaHuffM2
import Derived.Test.YtalnhhpcncjflaaHuffE4
import Derived.Test.YtalnhhpcncjflaaHuffLZ
import Derived.Test.YtalnhhpcncjflaaHuffC5
namespace Go.Proofs.Ytalnhhpcncjflaa.Huff
open Go.ChangeShapes Go.WideShapes Go.ChangeAt Go.RowKit
open Go.Proofs.Ytalnhhpcncjflaa.Base
set_option linter.unusedVariables false
theorem cnt_hit (ls : List Int) (l : Nat) : ∀ k m, m < cnt ls l k → ∃ i, i < k ∧ ls.getD i 0 = (l : Int) ∧ cnt ls l i = m := by
  intro k
  induction k with
  | zero => intro m h; simp [cnt] at h
  | succ k ih =>
    intro m h
    simp only [cnt] at h
    by_cases e : ls.getD k 0 = (l : Int)
    · rw [if_pos e] at h
      by_cases hm : m < cnt ls l k
      · obtain ⟨i, h1, h2, h3⟩ := ih m hm
        exact ⟨i, by omega, h2, h3⟩
      · exact ⟨k, by omega, e, by omega⟩
    · rw [if_neg e] at h
      obtain ⟨i, h1, h2, h3⟩ := ih m (by omega)
      exact ⟨i, by omega, h2, h3⟩
theorem cnt_lt (ls : List Int) (l : Nat) {i k : Nat} (hi : i < k) (h : ls.getD i 0 = (l : Int)) : cnt ls l i < cnt ls l k := by
  have h1 := cnt_mono ls l (show i + 1 ≤ k by omega)
  simp only [cnt] at h1
  rw [if_pos h] at h1
  omega
theorem cnt_uniq (ls : List Int) (l : Nat) {i j : Nat} (hi : ls.getD i 0 = (l : Int)) (hj : ls.getD j 0 = (l : Int)) (h : cnt ls l i = cnt ls l j) : i = j := by
  rcases Nat.lt_trichotomy i j with q | q | q
  · have := cnt_lt ls l q hi; omega
  · exact q
  · have := cnt_lt ls l q hj; omega
/-- A symbol has the word N of length l just if it stands N - first behind the first of its length. -/
theorem code_iff (ls : List Int) (l N i : Nat) (hl : 0 < l) : codeAt ls i = ((l : Int), N) ↔ ls.getD i 0 = (l : Int) ∧ first ls l ≤ N ∧ cnt ls l i = N - first ls l := by
  unfold codeAt
  by_cases h0 : ls.getD i 0 = 0
  · rw [if_pos h0]
    constructor
    · intro h
      have := congrArg Prod.fst h
      simp only at this
      omega
    · intro h; omega
  · rw [if_neg h0]
    constructor
    · intro h
      have h1 := congrArg Prod.fst h
      have h2 := congrArg Prod.snd h
      simp only at h1 h2
      rw [h1, Int.toNat_natCast] at h2
      exact ⟨h1, by omega, by omega⟩
    · rintro ⟨h1, h2, h3⟩
      rw [h1, Int.toNat_natCast]
      congr 1
      omega
/-- Is there a word N of length l? -/
theorem word_there (ls : List Int) (l N : Nat) (hl : 0 < l) : (∃ i, i < ls.length ∧ codeAt ls i = ((l : Int), N)) ↔ first ls l ≤ N ∧ N < first ls l + cntW ls ls.length l := by
  have hw : cntW ls ls.length l = cnt ls l ls.length := by unfold cntW; rw [if_neg (by omega)]
  rw [hw]
  constructor
  · rintro ⟨i, hi, h⟩
    obtain ⟨h1, h2, h3⟩ := (code_iff ls l N i hl).1 h
    have := cnt_lt ls l hi h1
    omega
  · rintro ⟨h1, h2⟩
    obtain ⟨i, hi, h3, h4⟩ := cnt_hit ls l ls.length (N - first ls l) (by omega)
    exact ⟨i, hi, (code_iff ls l N i hl).2 ⟨h3, h1, h4⟩⟩
theorem word_one (ls : List Int) (l N : Nat) (hl : 0 < l) {i j : Nat} (hi : codeAt ls i = ((l : Int), N)) (hj : codeAt ls j = ((l : Int), N)) : i = j := by
  obtain ⟨a1, a2, a3⟩ := (code_iff ls l N i hl).1 hi
  obtain ⟨b1, b2, b3⟩ := (code_iff ls l N j hl).1 hj
  exact cnt_uniq ls l a1 b1 (by omega)
/-- A number that is no word of its length is behind the last one: so is the next length's number not ahead of the first one. -/
theorem next_first (ls : List Int) (l N b : Nat) (h : ¬ N < first ls l + cntW ls ls.length l) : first ls (l + 1) ≤ 2 * N + b := by
  simp only [first]
  omega
/-- The symbols in the order of their words: by length, then rising. -/
def placeOf (ls : List Int) (i : Nat) : Nat := ahead ls (ls.getD i 0).toNat + cnt ls (ls.getD i 0).toNat i
theorem ahead_mono (ls : List Int) {l m : Nat} (h : l ≤ m) : ahead ls l ≤ ahead ls m := by
  induction m with
  | zero => have : l = 0 := by omega
            subst this; exact Nat.le_refl _
  | succ m ih =>
    by_cases e : l = m + 1
    · subst e; exact Nat.le_refl _
    · simp only [ahead]; have := ih (by omega); omega
theorem place_lt (ls : List Int) (l i : Nat) (hl : 0 < l) (hi : i < ls.length) (h : ls.getD i 0 = (l : Int)) : placeOf ls i < ahead ls (l + 1) := by
  unfold placeOf
  rw [h, Int.toNat_natCast]
  have := cnt_lt ls l hi h
  simp only [ahead]
  unfold cntW
  rw [if_neg (by omega)]
  omega
theorem place_uniq (ls : List Int) {i j : Nat} (hi : i < ls.length) (hj : j < ls.length) {l m : Nat} (hl : 0 < l) (hm : 0 < m) (h1 : ls.getD i 0 = (l : Int)) (h2 : ls.getD j 0 = (m : Int)) (h : placeOf ls i = placeOf ls j) : i = j := by
  have p1 := place_lt ls l i hl hi h1
  have p2 := place_lt ls m j hm hj h2
  have q1 : ahead ls l ≤ placeOf ls i := by unfold placeOf; rw [h1, Int.toNat_natCast]; omega
  have q2 : ahead ls m ≤ placeOf ls j := by unfold placeOf; rw [h2, Int.toNat_natCast]; omega
  rcases Nat.lt_trichotomy l m with q | q | q
  · have := ahead_mono ls (show l + 1 ≤ m by omega); omega
  · subst q
    unfold placeOf at h
    rw [h1, h2, Int.toNat_natCast] at h
    exact cnt_uniq ls l h1 h2 (by omega)
  · have := ahead_mono ls (show m + 1 ≤ l by omega); omega
end Go.Proofs.Ytalnhhpcncjflaa.Huff
/-
  No word begins another one; words of one length rise with their symbols; a word has no more bits than its length.
-/
namespace Go.Proofs.Ytalnhhpcncjflaa.Huff
open Go.ChangeShapes Go.WideShapes Go.ChangeAt Go.RowKit
open Go.Proofs.Ytalnhhpcncjflaa.Base
set_option linter.unusedVariables false
theorem first_far (ls : List Int) (l : Nat) : ∀ d, (first ls l + cntW ls ls.length l) * 2 ^ (d + 1) ≤ first ls (l + d + 1) := by
  intro d
  induction d with
  | zero => simp only [first]; omega
  | succ d ih =>
    have e : first ls (l + (d + 1) + 1) = 2 * (first ls (l + d + 1) + cntW ls ls.length (l + d + 1)) := rfl
    rw [e, Nat.pow_succ, ← Nat.mul_assoc]
    omega
theorem code_parts {ls : List Int} {i l A : Nat} (hl : 0 < l) (hi : i < ls.length) (h : codeAt ls i = ((l : Int), A)) : ls.getD i 0 = (l : Int) ∧ first ls l ≤ A ∧ A < first ls l + cntW ls ls.length l ∧ cnt ls l i = A - first ls l := by
  obtain ⟨h1, h2, h3⟩ := (code_iff ls l A i hl).1 h
  have := (word_there ls l A hl).1 ⟨i, hi, h⟩
  exact ⟨h1, h2, this.2, h3⟩
theorem prefix_free (ls : List Int) {i k l m A B : Nat} (hi : i < ls.length) (hk : k < ls.length) (hne : i ≠ k) (hl : 0 < l) (hlm : l ≤ m) (ha : codeAt ls i = ((l : Int), A)) (hb : codeAt ls k = ((m : Int), B)) : B / 2 ^ (m - l) ≠ A := by
  intro e
  obtain ⟨a1, a2, a3, a4⟩ := code_parts hl hi ha
  obtain ⟨b1, b2, b3, b4⟩ := code_parts (by omega) hk hb
  by_cases q : l = m
  · subst q
    rw [Nat.sub_self, Nat.pow_zero, Nat.div_one] at e
    subst e
    exact hne (word_one ls l B hl ha hb)
  · have hf := first_far ls l (m - l - 1)
    rw [show m - l - 1 + 1 = m - l by omega, show l + (m - l - 1) + 1 = m by omega] at hf
    have hp : 0 < 2 ^ (m - l) := Nat.pos_of_ne_zero (by simp)
    have h1 : first ls l + cntW ls ls.length l ≤ B / 2 ^ (m - l) := (Nat.le_div_iff_mul_le hp).2 (Nat.le_trans hf b2)
    omega
theorem rises (ls : List Int) {i k l A B : Nat} (hi : i < ls.length) (hk : k < ls.length) (hl : 0 < l) (ha : codeAt ls i = ((l : Int), A)) (hb : codeAt ls k = ((l : Int), B)) : i < k ↔ A < B := by
  obtain ⟨a1, a2, a3, a4⟩ := code_parts hl hi ha
  obtain ⟨b1, b2, b3, b4⟩ := code_parts hl hk hb
  constructor
  · intro h
    have := cnt_lt ls l h a1
    omega
  · intro h
    rcases Nat.lt_trichotomy i k with q | q | q
    · exact q
    · subst q; omega
    · have := cnt_lt ls l q b1; omega
theorem fits_len (ls : List Int) (hr : right ls = true) {l : Nat} (hl : l ≤ 15) : first ls l + cntW ls ls.length l ≤ 2 ^ l := by
  have h15 : last ls ≤ 32768 := by unfold right at hr; exact of_decide_eq_true hr
  unfold last at h15
  by_cases e : l = 15
  · subst e; exact h15
  · have hf := first_far ls l (15 - l - 1)
    rw [show 15 - l - 1 + 1 = 15 - l by omega, show l + (15 - l - 1) + 1 = 15 by omega] at hf
    have hp : 0 < 2 ^ (15 - l) := Nat.pos_of_ne_zero (by simp)
    have h2 : (first ls l + cntW ls ls.length l) * 2 ^ (15 - l) ≤ 2 ^ l * 2 ^ (15 - l) := by
      rw [← Nat.pow_add, show l + (15 - l) = 15 by omega]
      exact Nat.le_trans hf (by omega)
    exact Nat.le_of_mul_le_mul_right h2 hp
theorem word_small (ls : List Int) (hr : right ls = true) {i l A : Nat} (hi : i < ls.length) (hl : 0 < l) (h15 : l ≤ 15) (ha : codeAt ls i = ((l : Int), A)) : A < 2 ^ l := by
  have h1 := (code_parts hl hi ha).2.2.1
  have h2 := fits_len ls hr h15
  omega
end Go.Proofs.Ytalnhhpcncjflaa.Huff
/-
  Encode: the counts of a text, its lengths, its words.
-/
namespace Go.Proofs.Ytalnhhpcncjflaa.Huff
open Go.ChangeShapes Go.WideShapes Go.ChangeAt Go.RowKit
open Go.Proofs.Ytalnhhpcncjflaa.Base
set_option linter.unusedVariables false
def countsOf (t : List (BitVec 8)) : List Int := (List.range 256).map fun s => ((t.countP fun c => decide (c.toNat = s) : Nat) : Int)
theorem countsOf_len (t : List (BitVec 8)) : (countsOf t).length = 256 := by simp [countsOf]
theorem countsOf_get (t : List (BitVec 8)) (s : Nat) (h : s < 256) : (countsOf t).getD s 0 = ((t.countP fun c => decide (c.toNat = s) : Nat) : Int) := by
  unfold countsOf
  rw [List.getD_eq_getElem?_getD, List.getElem?_map, List.getElem?_range h]; rfl
theorem countsOf_nil : countsOf [] = List.replicate 256 0 := by
  refine List.ext_getElem? fun i => ?_
  unfold countsOf
  rw [List.getElem?_map, List.getElem?_replicate]
  by_cases h : i < 256
  · rw [List.getElem?_range h, if_pos h]; rfl
  · rw [List.getElem?_eq_none (by simp; omega), if_neg h]; rfl
theorem countsOf_next (t : List (BitVec 8)) (c : BitVec 8) : (countsOf t).set c.toNat ((countsOf t).getD c.toNat 0 + 1) = countsOf (t ++ [c]) := by
  have hc := lt8 c
  refine List.ext_getElem? fun i => ?_
  rw [List.getElem?_set, countsOf_len]
  by_cases e : c.toNat = i
  · subst e
    rw [if_pos rfl, if_pos hc, countsOf_get _ _ hc]
    unfold countsOf
    rw [List.getElem?_map, List.getElem?_range hc]
    simp [List.countP_append, List.countP_cons]
  · rw [if_neg e]
    unfold countsOf
    rw [List.getElem?_map, List.getElem?_map]
    by_cases h : i < 256
    · rw [List.getElem?_range h]
      simp [List.countP_append, List.countP_cons, e]
    · rw [List.getElem?_eq_none (by simp; omega)]; rfl
theorem countsOf_in (t : List (BitVec 8)) (h : t.length ≤ 1099511627776) : allIn 1099511627776 (countsOf t) = true := by
  unfold allIn
  rw [List.all_eq_true]
  intro x hx
  obtain ⟨s, _, rfl⟩ := List.mem_map.1 hx
  have := List.countP_le_length (p := fun c : BitVec 8 => decide (c.toNat = s)) (l := t)
  exact decide_eq_true ⟨by omega, by omega⟩
/-- The last word's place is the sum of the shares. -/
def firstK (ls : List Int) (k : Nat) : Nat → Nat
  | 0 => 0
  | l + 1 => 2 * (firstK ls k l + cntW ls k l)
theorem firstK_all (ls : List Int) : ∀ l, firstK ls ls.length l = first ls l
  | 0 => rfl
  | l + 1 => by simp only [firstK, first]; rw [firstK_all ls l]
theorem cntW_succ (ls : List Int) (k l : Nat) : cntW ls (k + 1) l = cntW ls k l + if l ≠ 0 ∧ ls.getD k 0 = (l : Int) then 1 else 0 := by
  unfold cntW
  by_cases h : l = 0
  · rw [if_pos h, if_pos h, if_neg (fun e => e.1 h)]
  · rw [if_neg h, if_neg h]
    simp only [cnt]
    by_cases e : ls.getD k 0 = (l : Int)
    · rw [if_pos e, if_pos ⟨h, e⟩]
    · rw [if_neg e, if_neg (fun x => e x.2)]
/-- One symbol of length m more. -/
theorem firstK_succ (ls : List Int) (k m : Nat) (h : ls.getD k 0 = (m : Int)) : ∀ l, firstK ls (k + 1) l = firstK ls k l + if 0 < m ∧ m < l then 2 ^ (l - m) else 0
  | 0 => by simp [firstK]
  | l + 1 => by
    simp only [firstK]
    rw [firstK_succ ls k m h l, cntW_succ, h]
    by_cases h0 : 0 < m
    · by_cases h1 : m < l
      · rw [if_pos ⟨h0, h1⟩, if_neg (by omega), if_pos ⟨h0, by omega⟩, show l + 1 - m = (l - m) + 1 by omega, Nat.pow_succ]; omega
      · rw [if_neg (by omega)]
        by_cases h2 : m = l
        · rw [if_pos ⟨by omega, by omega⟩, if_pos ⟨h0, by omega⟩, show l + 1 - m = 1 by omega]; omega
        · rw [if_neg (by omega), if_neg (by omega)]; omega
    · rw [if_neg (by omega), if_neg (by omega), if_neg (by omega)]; omega
theorem last_kraft (ls : List Int) (hin : allIn 15 ls = true) : ∀ k, k ≤ ls.length → firstK ls k 15 + cntW ls k 15 = Pm.kraftTo ls k
  | 0, _ => by
    have h0 : ∀ l, firstK ls 0 l = 0 := by
      intro l
      induction l with
      | zero => rfl
      | succ l ih => simp only [firstK]; rw [ih]; simp [cntW, cnt]
    rw [h0]; simp [cntW, cnt, Pm.kraftTo]
  | k + 1, h => by
    have hx := allIn_get hin k (by omega)
    obtain ⟨m, hm⟩ : ∃ m : Nat, ls.getD k 0 = (m : Int) := ⟨(ls.getD k 0).toNat, by omega⟩
    rw [Pm.kraftTo_add ls k (by omega), ← last_kraft ls hin k (by omega), firstK_succ ls k m hm, cntW_succ, hm]
    rw [hm] at hx
    unfold Pm.share
    by_cases h0 : 0 < m
    · rw [if_pos (c := 0 < (m : Int) ∧ (m : Int) ≤ 15) ⟨by omega, by omega⟩, Int.toNat_natCast]
      by_cases h1 : m < 15
      · rw [if_pos ⟨h0, h1⟩, if_neg (by omega)]; omega
      · have : m = 15 := by omega
        subst this
        rw [if_neg (by omega), if_pos ⟨by omega, rfl⟩]; simp; omega
    · rw [if_neg (by omega), if_neg (by omega), if_neg (by omega)]; omega
theorem right_kraft (ls : List Int) (hin : allIn 15 ls = true) (h : Pm.kraftTo ls ls.length ≤ 32768) : right ls = true := by
  unfold right last
  rw [← firstK_all, last_kraft ls hin ls.length (Nat.le_refl _)]
  exact decide_eq_true h
/-- The lengths of a text's words. -/
def textLens (t : List (BitVec 8)) : List Int := Pm.lensBy (countsOf t) 15
theorem textLens_len (t : List (BitVec 8)) : (textLens t).length = 256 := by simp [textLens, Pm.lensBy, countsOf_len]
theorem order_small (cs : List Int) (h : cs.length ≤ 256) : (Pm.orderOf cs).length ≤ 256 :=
  Nat.le_trans (Pm.ordered_len (Pm.orderOf_ok cs)) h
theorem textLens_ok (t : List (BitVec 8)) (h : t.length ≤ 65536) : Pm.Lens (countsOf t) 15 ∧ Pm.lengthsd (countsOf t) 15 = (textLens t, 0) ∧ coded (textLens t) = (codesOf (textLens t), 0) ∧ right (textLens t) = true := by
  have hin := countsOf_in t (by omega)
  have ho := order_small (countsOf t) (by rw [countsOf_len]; omega)
  have L := Pm.lens_ok (countsOf t) (by rw [countsOf_len]; omega) hin 15 (by omega) (by omega) (by omega)
  have hall : allIn 15 (textLens t) = true := L.all
  have hk : Pm.kraftTo (textLens t) (textLens t).length ≤ 32768 := by
    have := L.right
    rw [countsOf_len] at this
    rw [textLens_len]; exact this
  have hr := right_kraft _ hall hk
  refine ⟨L, ?_, ?_, hr⟩
  · unfold Pm.lengthsd
    rw [if_neg (by rw [countsOf_len]; omega), if_neg (by rw [hin]; simp), if_neg (by show ¬ 2 ^ 15 < _; omega)]
    rfl
  · unfold coded
    rw [if_neg (by rw [textLens_len]; omega), if_neg (by rw [hall]; simp), if_pos hr]
/-- What Encode answers. -/
def encoded (t : List (BitVec 8)) : List (BitVec 8) × Int :=
  if 65536 < t.length then ([], 2) else (flush (packed (pairsOf (textLens t) ++ [0]) (bitsOf (codesOf (textLens t)) t)), 0)
theorem codes_lenOk (t : List (BitVec 8)) (h : t.length ≤ 65536) : LenOk (codesOf (textLens t)) := by
  have hall := (textLens_ok t h).1.all
  have hr := (textLens_ok t h).2.2.2
  refine ⟨by rw [codesOf_len, textLens_len], fun k hk => ?_⟩
  have e : (codesOf (textLens t)).getD k (0, 0) = codeAt (textLens t) k := by
    unfold codesOf
    rw [List.getD_eq_getElem?_getD, List.getElem?_map, textLens_len, List.getElem?_range hk]; rfl
  have hx := allIn_get hall k (by have := textLens_len t; unfold textLens at this; omega)
  have hx2 : 0 ≤ (textLens t).getD k 0 ∧ (textLens t).getD k 0 ≤ 15 := hx
  rw [e]
  by_cases h0 : (textLens t).getD k 0 = 0
  · unfold codeAt
    rw [if_pos h0]
    exact ⟨by decide, by decide, by decide⟩
  · obtain ⟨l, hl⟩ : ∃ l : Nat, (textLens t).getD k 0 = (l : Int) := ⟨((textLens t).getD k 0).toNat, by omega⟩
    have hc : codeAt (textLens t) k = ((l : Int), first (textLens t) l + cnt (textLens t) l k) := by
      unfold codeAt
      rw [if_neg h0, hl]; rfl
    have hs := word_small (textLens t) hr (i := k) (by rw [textLens_len]; exact hk) (l := l) (by omega) (by omega) hc
    rw [hc]
    have h15 : 2 ^ l ≤ 2 ^ 15 := Nat.pow_le_pow_right (by decide) (by omega)
    exact ⟨by simp only []; omega, by simp only []; omega, by simp only []; omega⟩
end Go.Proofs.Ytalnhhpcncjflaa.Huff
