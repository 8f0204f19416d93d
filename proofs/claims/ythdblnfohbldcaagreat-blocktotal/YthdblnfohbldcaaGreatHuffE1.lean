/-
  putLengths: lengths as pairs of bytes.
-/
import Derived.Test.YthdblnfohbldcaaGreatHuffS2
import Derived.Test.YthdblnfohbldcaaGreatHuffC1
import Derived.Test.YthdblnfohbldcaaGreatNumsPutC
namespace Go.Proofs.YthdblnfohbldcaaGreat.Huff
open Go.ChangeShapes Go.WideShapes Go.ChangeAt Go.RowKit
open Go.Proofs.YthdblnfohbldcaaGreat.Base
set_option linter.unusedVariables false
/-- How many at the head are alike. -/
def runOf : List Int → Nat
  | [] => 0
  | x :: r => 1 + (r.takeWhile fun y => decide (y = x)).length
def pairsGo : Nat → List Int → List (BitVec 8)
  | 0, _ => []
  | f + 1, ls => if ls = [] then [] else Nums.put (runOf ls) ++ [BitVec.ofNat 8 (ls.getD 0 0).toNat] ++ pairsGo f (ls.drop (runOf ls))
/-- Without the zeros at the end. -/
def trimmed (ls : List Int) : List Int := (ls.reverse.dropWhile fun x => decide (x = 0)).reverse
def pairsOf (ls : List Int) : List (BitVec 8) := pairsGo (trimmed ls).length (trimmed ls)
theorem runOf_pos {ls : List Int} (h : ls ≠ []) : 1 ≤ runOf ls ∧ runOf ls ≤ ls.length := by
  cases ls with
  | nil => exact absurd rfl h
  | cons x r =>
    have h2 := (List.takeWhile_sublist (fun y => decide (y = x)) (l := r)).length_le
    simp only [runOf, List.length_cons]
    omega
theorem pairsGo_more : ∀ (f : Nat) (ls : List Int) (g : Nat), ls.length ≤ f → ls.length ≤ g → pairsGo f ls = pairsGo g ls
  | 0, ls, g, h, _ => by
    have : ls = [] := List.length_eq_zero_iff.1 (by omega)
    subst this
    cases g <;> simp [pairsGo]
  | f + 1, ls, 0, _, h => by
    have : ls = [] := List.length_eq_zero_iff.1 (by omega)
    subst this
    simp [pairsGo]
  | f + 1, ls, g + 1, h1, h2 => by
    simp only [pairsGo]
    by_cases e : ls = []
    · rw [if_pos e, if_pos e]
    · rw [if_neg e, if_neg e]
      have := runOf_pos e
      rw [pairsGo_more f (ls.drop (runOf ls)) g (by rw [List.length_drop]; omega) (by rw [List.length_drop]; omega)]
theorem pairs_step {ls : List Int} (h : ls ≠ []) : pairsGo ls.length ls = Nums.put (runOf ls) ++ [BitVec.ofNat 8 (ls.getD 0 0).toNat] ++ pairsGo (ls.drop (runOf ls)).length (ls.drop (runOf ls)) := by
  have hp := runOf_pos h
  obtain ⟨f, hf⟩ : ∃ f, ls.length = f + 1 := ⟨ls.length - 1, by omega⟩
  rw [hf]
  simp only [pairsGo]
  rw [if_neg h, pairsGo_more f _ (ls.drop (runOf ls)).length (by rw [List.length_drop]; omega) (Nat.le_refl _)]
theorem trim_zero (ls : List Int) (l : Nat) (h : l < ls.length) (h0 : ls.getD l 0 = 0) : trimmed (ls.take (l + 1)) = trimmed (ls.take l) := by
  have e : ls.getD l 0 = ls[l] := by rw [List.getD_eq_getElem?_getD, List.getElem?_eq_getElem h]; rfl
  unfold trimmed
  rw [List.take_succ_eq_append_getElem h, List.reverse_append, List.reverse_singleton, List.singleton_append, List.dropWhile_cons, if_pos (by rw [← e, h0]; decide)]
theorem trim_keep (ls : List Int) (l : Nat) (h : l < ls.length) (h0 : ls.getD l 0 ≠ 0) : trimmed (ls.take (l + 1)) = ls.take (l + 1) := by
  have e : ls.getD l 0 = ls[l] := by rw [List.getD_eq_getElem?_getD, List.getElem?_eq_getElem h]; rfl
  unfold trimmed
  rw [List.take_succ_eq_append_getElem h, List.reverse_append, List.reverse_singleton, List.singleton_append, List.dropWhile_cons, if_neg (by rw [← e]; simpa using h0)]
  simp
theorem run_at {ls : List Int} {r : Nat} (h : ∀ j, j < r → ls.getD j 0 = ls.getD 0 0) (hr : 1 ≤ r) (hl : r ≤ ls.length) (hs : r = ls.length ∨ ls.getD r 0 ≠ ls.getD 0 0) : runOf ls = r := by
  cases ls with
  | nil => simp at hl; omega
  | cons x t =>
    simp only [runOf]
    have hx : (x :: t).getD 0 0 = x := rfl
    rw [hx] at h hs
    obtain ⟨m, rfl⟩ : ∃ m, r = m + 1 := ⟨r - 1, by omega⟩
    have key : ∀ (t : List Int) (m : Nat), m ≤ t.length → (∀ j, j < m → t.getD j 0 = x) → (m = t.length ∨ t.getD m 0 ≠ x) → (t.takeWhile fun y => decide (y = x)).length = m := by
      intro t
      induction t with
      | nil => intro m h1 _ _; simp at h1; subst h1; rfl
      | cons y t ih =>
        intro m h1 h2 h3
        cases m with
        | zero =>
          rcases h3 with h3 | h3
          · simp at h3
          · rw [List.takeWhile_cons, if_neg (by simpa using h3)]; rfl
        | succ m =>
          have hy : y = x := h2 0 (by omega)
          rw [List.takeWhile_cons, if_pos (by simpa using hy), List.length_cons, ih m (by simpa using h1) (fun j hj => h2 (j + 1) (by omega)) (by simpa using h3)]
    rw [key t m (by simpa using hl) (fun j hj => h (j + 1) (by omega)) (by simpa using hs)]
    omega
theorem elemInts : Tryz.prog.underlying 55 = some (.slice (Tryz.prog.elem 55)) := by kernel_rfl
theorem elemIntSize (W : World) : (sizeOf (Tryz.prog.elem 55)).run Tryz.prog W = .ok 1 W := by
  have h : (Tryz.prog.info? (Tryz.prog.elem 55)).map (·.size) = some 1 := by kernel_rfl
  cases hq : Tryz.prog.info? (Tryz.prog.elem 55) with
  | none => simp [hq] at h
  | some i => simp [hq] at h; simp [sizeOf, typeInfo, hq, h]
/-- 'lens[e:]'. -/
theorem slice_ints (b off len cap e : Nat) (h : e ≤ len) (hc : len ≤ cap) : ∃ la : Addr, (∀ W, (Instr.sliceAt 55 (.slice (some ⟨b, off, none⟩) len cap) (some (.int .i64 (e : Int))) none none).run Tryz.prog W = .ok (.slice (some la) (len - e) (cap - e)) W) ∧
    (e < len → la = ⟨b, off + e, none⟩) := by
  refine ⟨if cap = e then ⟨b, off, none⟩ else ⟨b, off + e, none⟩, fun W => ?_, fun hc => by rw [if_neg (by omega)]⟩
  rw [run_sliceAt_slice (h := elemInts), run_slice_l (ht := elemInts) (h0 := by omega) (h1 := by omega), elemIntSize]
  simp only [Result.andThen, sliced, Int.toNat_natCast]
  by_cases hc : cap = e
  · rw [if_pos hc, if_pos hc]
  · rw [if_neg hc, if_neg hc]
    simp [Addr.add]
theorem rdi_rest {w : World} {b off len e : Nat} {la : Addr} {xs : List Int} (hr : RdI w (some ⟨b, off, none⟩) len xs) (h : e ≤ len) (hl : e < len → la = ⟨b, off + e, none⟩) : RdI w (some la) (len - e) (xs.drop e) := by
  refine ⟨by rw [List.length_drop, hr.1], by have := hr.2.1; omega, fun hp => ?_⟩
  obtain ⟨b', o', e1, hb, hc⟩ := hr.2.2 (by omega)
  simp only [Option.some.injEq, Addr.mk.injEq, and_true] at e1
  obtain ⟨rfl, rfl⟩ := e1
  refine ⟨b, off + e, by rw [hl (by omega)], hb, fun i hi => ?_⟩
  rw [Nat.add_assoc, hc (e + i) (by omega), List.getD_eq_getElem?_getD, List.getD_eq_getElem?_getD, List.getElem?_drop]
theorem rdi_cut {w : World} {a : Option Addr} {len m : Nat} {xs : List Int} (hr : RdI w a len xs) (h : m ≤ len) : RdI w a m (xs.take m) := by
  refine ⟨by rw [List.length_take, hr.1]; omega, by have := hr.2.1; omega, fun hp => ?_⟩
  obtain ⟨b', o', e1, hb, hc⟩ := hr.2.2 (by omega)
  refine ⟨b', o', e1, hb, fun i hi => ?_⟩
  rw [hc i (by omega), List.getD_eq_getElem?_getD, List.getD_eq_getElem?_getD, List.getElem?_take, if_pos hi]
end Go.Proofs.YthdblnfohbldcaaGreat.Huff
