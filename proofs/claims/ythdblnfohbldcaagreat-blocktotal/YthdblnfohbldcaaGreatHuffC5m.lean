/-
  Codes, at any lengths.
-/
import Derived.Test.YthdblnfohbldcaaGreatHuffC4
import Derived.Test.YthdblnfohbldcaaGreatHuffM2
import Derived.Deep.DeepCutAuto
namespace Go.Proofs.YthdblnfohbldcaaGreat.Huff
open Go.ChangeShapes Go.WideShapes Go.ChangeAt Go.RowKit
open Go.Proofs.YthdblnfohbldcaaGreat.Base
set_option linter.unusedVariables false
/-- The number of the next word of each length, ahead of symbol k. -/
def NextAt (ls NX : List Int) (k : Nat) : Prop := NX.length = 16 ∧ ∀ l, 0 < l → l < 16 → NX.getD l 0 = ((first ls l + cnt ls l k : Nat) : Int)
theorem nextAt_zero (ls : List Int) : NextAt ls (((wordsOf ls).drop 16).take 16) 0 := by
  refine ⟨by rw [List.length_take, List.length_drop, wordsOf_len]; rfl, fun l h0 h1 => ?_⟩
  rw [List.getD_eq_getElem?_getD, List.getElem?_take, if_pos h1, List.getElem?_drop, ← List.getD_eq_getElem?_getD, wordsOf_first ls l h1]
  simp [cnt]
theorem nextAt_skip {ls NX : List Int} {k : Nat} (h : NextAt ls NX k) (hx : ls.getD k 0 = 0) : NextAt ls NX (k + 1) := by
  refine ⟨h.1, fun l h0 h1 => ?_⟩
  rw [h.2 l h0 h1]
  simp only [cnt]
  rw [if_neg (by rw [hx]; omega)]
  rfl
theorem nextAt_inc {ls NX : List Int} {k q : Nat} (h : NextAt ls NX k) (hx : ls.getD k 0 = (q : Int)) (hq : 0 < q) (hq2 : q < 16) : NextAt ls (NX.set q (((first ls q + cnt ls q k : Nat) : Int) + 1)) (k + 1) := by
  refine ⟨by rw [List.length_set]; exact h.1, fun l h0 h1 => ?_⟩
  rw [getD_set _ _ _ _ (by rw [h.1]; omega)]
  simp only [cnt]
  by_cases e : q = l
  · subst e
    rw [if_pos rfl, if_pos hx]
    omega
  · rw [if_neg e, h.2 l h0 h1, if_neg (by rw [hx]; omega)]
    rfl
/-- What Codes answers. -/
def coded (ls : List Int) : List (Int × Nat) × Int :=
  if 256 < ls.length then ([], 2) else if allIn 15 ls = false then ([], 3) else if right ls = true then (codesOf ls, 0) else ([], 41)
theorem infoC : (Tryz.prog.info? 163).map (fun i => (i.zero, i.size, i.bytes)) = some (some (.agg #[.int .i64 0, .int .u32 0]), 2, 16) := by kernel_rfl
theorem info16 : (Tryz.prog.info? 79).map (·.size) = some 16 := by kernel_rfl
def Z16 : Array Value := (ivals (List.replicate 16 0)).toArray
theorem z16 : #[Value.int .i64 0, Value.int .i64 0, Value.int .i64 0, Value.int .i64 0, Value.int .i64 0, Value.int .i64 0, Value.int .i64 0, Value.int .i64 0, Value.int .i64 0, Value.int .i64 0, Value.int .i64 0, Value.int .i64 0, Value.int .i64 0, Value.int .i64 0, Value.int .i64 0, Value.int .i64 0] = Z16 := by rfl
end Go.Proofs.YthdblnfohbldcaaGreat.Huff
