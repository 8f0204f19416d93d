/-
  Encode: the counts of a text, its lengths, its words.
-/
import Derived.Test.YthdblnfohbldcaaGreatHuffE4
import Derived.Test.YthdblnfohbldcaaGreatHuffL3
import Derived.Test.YthdblnfohbldcaaGreatHuffC5
import Derived.Test.YthdblnfohbldcaaGreatHuffM4
namespace Go.Proofs.YthdblnfohbldcaaGreat.Huff
open Go.ChangeShapes Go.WideShapes Go.ChangeAt Go.RowKit
open Go.Proofs.YthdblnfohbldcaaGreat.Base
set_option linter.unusedVariables false
def countsOf (t : List (BitVec 8)) : List Int := (List.range 256).map fun s => ((t.countP fun c => decide (c.toNat = s) : Nat) : Int)
theorem countsOf_len (t : List (BitVec 8)) : (countsOf t).length = 256 := by simp [countsOf]
theorem countsOf_get (t : List (BitVec 8)) (s : Nat) (h : s < 256) : (countsOf t).getD s 0 = ((t.countP fun c => decide (c.toNat = s) : Nat) : Int) := by
  unfold countsOf
  rw [List.getD_eq_getElem?_getD, List.getElem?_map, List.getElem?_range h]; rfl
theorem countsOf_nil : countsOf [] = List.replicate 256 0 := by
  refine List.ext_getElem? fun i => ?_
  unfold countsOf
  rw [List.getElem?_map, List.getElem?_replicate]
  by_cases h : i < 256
  · rw [List.getElem?_range h, if_pos h]; rfl
  · rw [List.getElem?_eq_none (by simp; omega), if_neg h]; rfl
theorem countsOf_next (t : List (BitVec 8)) (c : BitVec 8) : (countsOf t).set c.toNat ((countsOf t).getD c.toNat 0 + 1) = countsOf (t ++ [c]) := by
  have hc := lt8 c
  refine List.ext_getElem? fun i => ?_
  rw [List.getElem?_set, countsOf_len]
  by_cases e : c.toNat = i
  · subst e
    rw [if_pos rfl, if_pos hc, countsOf_get _ _ hc]
    unfold countsOf
    rw [List.getElem?_map, List.getElem?_range hc]
    simp [List.countP_append, List.countP_cons]
  · rw [if_neg e]
    unfold countsOf
    rw [List.getElem?_map, List.getElem?_map]
    by_cases h : i < 256
    · rw [List.getElem?_range h]
      simp [List.countP_append, List.countP_cons, e]
    · rw [List.getElem?_eq_none (by simp; omega)]; rfl
theorem countsOf_in (t : List (BitVec 8)) (h : t.length ≤ 1099511627776) : allIn 1099511627776 (countsOf t) = true := by
  unfold allIn
  rw [List.all_eq_true]
  intro x hx
  obtain ⟨s, _, rfl⟩ := List.mem_map.1 hx
  have := List.countP_le_length (p := fun c : BitVec 8 => decide (c.toNat = s)) (l := t)
  exact decide_eq_true ⟨by omega, by omega⟩
/-- The last word's place is the sum of the shares. -/
def firstK (ls : List Int) (k : Nat) : Nat → Nat
  | 0 => 0
  | l + 1 => 2 * (firstK ls k l + cntW ls k l)
theorem firstK_all (ls : List Int) : ∀ l, firstK ls ls.length l = first ls l
  | 0 => rfl
  | l + 1 => by simp only [firstK, first]; rw [firstK_all ls l]
theorem cntW_succ (ls : List Int) (k l : Nat) : cntW ls (k + 1) l = cntW ls k l + if l ≠ 0 ∧ ls.getD k 0 = (l : Int) then 1 else 0 := by
  unfold cntW
  by_cases h : l = 0
  · rw [if_pos h, if_pos h, if_neg (fun e => e.1 h)]
  · rw [if_neg h, if_neg h]
    simp only [cnt]
    by_cases e : ls.getD k 0 = (l : Int)
    · rw [if_pos e, if_pos ⟨h, e⟩]
    · rw [if_neg e, if_neg (fun x => e x.2)]
/-- One symbol of length m more. -/
theorem firstK_succ (ls : List Int) (k m : Nat) (h : ls.getD k 0 = (m : Int)) : ∀ l, firstK ls (k + 1) l = firstK ls k l + if 0 < m ∧ m < l then 2 ^ (l - m) else 0
  | 0 => by simp [firstK]
  | l + 1 => by
    simp only [firstK]
    rw [firstK_succ ls k m h l, cntW_succ, h]
    by_cases h0 : 0 < m
    · by_cases h1 : m < l
      · rw [if_pos ⟨h0, h1⟩, if_neg (by omega), if_pos ⟨h0, by omega⟩, show l + 1 - m = (l - m) + 1 by omega, Nat.pow_succ]; omega
      · rw [if_neg (by omega)]
        by_cases h2 : m = l
        · rw [if_pos ⟨by omega, by omega⟩, if_pos ⟨h0, by omega⟩, show l + 1 - m = 1 by omega]; omega
        · rw [if_neg (by omega), if_neg (by omega)]; omega
    · rw [if_neg (by omega), if_neg (by omega), if_neg (by omega)]; omega
theorem last_kraft (ls : List Int) (hin : allIn 15 ls = true) : ∀ k, k ≤ ls.length → firstK ls k 15 + cntW ls k 15 = Pm.kraftTo ls k
  | 0, _ => by
    have h0 : ∀ l, firstK ls 0 l = 0 := by
      intro l
      induction l with
      | zero => rfl
      | succ l ih => simp only [firstK]; rw [ih]; simp [cntW, cnt]
    rw [h0]; simp [cntW, cnt, Pm.kraftTo]
  | k + 1, h => by
    have hx := allIn_get hin k (by omega)
    obtain ⟨m, hm⟩ : ∃ m : Nat, ls.getD k 0 = (m : Int) := ⟨(ls.getD k 0).toNat, by omega⟩
    rw [Pm.kraftTo_add ls k (by omega), ← last_kraft ls hin k (by omega), firstK_succ ls k m hm, cntW_succ, hm]
    rw [hm] at hx
    unfold Pm.share
    by_cases h0 : 0 < m
    · rw [if_pos (c := 0 < (m : Int) ∧ (m : Int) ≤ 15) ⟨by omega, by omega⟩, Int.toNat_natCast]
      by_cases h1 : m < 15
      · rw [if_pos ⟨h0, h1⟩, if_neg (by omega)]; omega
      · have : m = 15 := by omega
        subst this
        rw [if_neg (by omega), if_pos ⟨by omega, rfl⟩]; simp; omega
    · rw [if_neg (by omega), if_neg (by omega), if_neg (by omega)]; omega
theorem right_kraft (ls : List Int) (hin : allIn 15 ls = true) (h : Pm.kraftTo ls ls.length ≤ 32768) : right ls = true := by
  unfold right last
  rw [← firstK_all, last_kraft ls hin ls.length (Nat.le_refl _)]
  exact decide_eq_true h
/-- The lengths of a text's words. -/
def textLens (t : List (BitVec 8)) : List Int := Pm.lensBy (countsOf t) 15
theorem textLens_len (t : List (BitVec 8)) : (textLens t).length = 256 := by simp [textLens, Pm.lensBy, countsOf_len]
theorem order_small (cs : List Int) (h : cs.length ≤ 256) : (Pm.orderOf cs).length ≤ 256 :=
  Nat.le_trans (Pm.ordered_len (Pm.orderOf_ok cs)) h
theorem textLens_ok (t : List (BitVec 8)) (h : t.length ≤ 65536) : Pm.Lens (countsOf t) 15 ∧ Pm.lengthsd (countsOf t) 15 = (textLens t, 0) ∧ coded (textLens t) = (codesOf (textLens t), 0) ∧ right (textLens t) = true := by
  have hin := countsOf_in t (by omega)
  have ho := order_small (countsOf t) (by rw [countsOf_len]; omega)
  have L := Pm.lens_ok (countsOf t) (by rw [countsOf_len]; omega) hin 15 (by omega) (by omega) (by omega)
  have hall : allIn 15 (textLens t) = true := L.all
  have hk : Pm.kraftTo (textLens t) (textLens t).length ≤ 32768 := by
    have := L.right
    rw [countsOf_len] at this
    rw [textLens_len]; exact this
  have hr := right_kraft _ hall hk
  refine ⟨L, ?_, ?_, hr⟩
  · unfold Pm.lengthsd
    rw [if_neg (by rw [countsOf_len]; omega), if_neg (by rw [hin]; simp), if_neg (by show ¬ 2 ^ 15 < _; omega)]
    rfl
  · unfold coded
    rw [if_neg (by rw [textLens_len]; omega), if_neg (by rw [hall]; simp), if_pos hr]
/-- What Encode answers. -/
def encoded (t : List (BitVec 8)) : List (BitVec 8) × Int :=
  if 65536 < t.length then ([], 2) else (flush (packed (pairsOf (textLens t) ++ [0]) (bitsOf (codesOf (textLens t)) t)), 0)
theorem codes_lenOk (t : List (BitVec 8)) (h : t.length ≤ 65536) : LenOk (codesOf (textLens t)) := by
  have hall := (textLens_ok t h).1.all
  have hr := (textLens_ok t h).2.2.2
  refine ⟨by rw [codesOf_len, textLens_len], fun k hk => ?_⟩
  have e : (codesOf (textLens t)).getD k (0, 0) = codeAt (textLens t) k := by
    unfold codesOf
    rw [List.getD_eq_getElem?_getD, List.getElem?_map, textLens_len, List.getElem?_range hk]; rfl
  have hx := allIn_get hall k (by have := textLens_len t; unfold textLens at this; omega)
  have hx2 : 0 ≤ (textLens t).getD k 0 ∧ (textLens t).getD k 0 ≤ 15 := hx
  rw [e]
  by_cases h0 : (textLens t).getD k 0 = 0
  · unfold codeAt
    rw [if_pos h0]
    exact ⟨by decide, by decide, by decide⟩
  · obtain ⟨l, hl⟩ : ∃ l : Nat, (textLens t).getD k 0 = (l : Int) := ⟨((textLens t).getD k 0).toNat, by omega⟩
    have hc : codeAt (textLens t) k = ((l : Int), first (textLens t) l + cnt (textLens t) l k) := by
      unfold codeAt
      rw [if_neg h0, hl]; rfl
    have hs := word_small (textLens t) hr (i := k) (by rw [textLens_len]; exact hk) (l := l) (by omega) (by omega) hc
    rw [hc]
    have h15 : 2 ^ l ≤ 2 ^ 15 := Nat.pow_le_pow_right (by decide) (by omega)
    exact ⟨by simp only []; omega, by simp only []; omega, by simp only []; omega⟩
end Go.Proofs.YthdblnfohbldcaaGreat.Huff
