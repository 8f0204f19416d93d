/-
  The statements' own merging of two lists.
-/
import Derived.Test.YtlbplicafcoifaaSoApp
import Derived.Test.YtlbplicafcoifaaSoMerge
import Derived.Test.YtlbplicafcoifaaSoSortC
namespace Go.Proofs.Ytlbplicafcoifaa.So
open Go.ChangeShapes Go.WideShapes Go.ChangeAt Go.RowKit
open Go.Proofs.Ytlbplicafcoifaa.Base
set_option linter.unusedVariables false
theorem cutR_any (a : Option Addr) (len cap i : Nat) (h : i ≤ len) (hc : len ≤ cap) (hnil : a = none → len = 0 ∧ cap = 0) : ∃ a' : Option Addr, (∀ W, (Instr.sliceAt 38 (.slice a len cap) (some (.int .i64 (i : Int))) none none).run Try.prog W = .ok (.slice a' (len - i) (cap - i)) W) ∧
    (a' = none → len - i = 0 ∧ cap - i = 0) ∧ (∀ b off, a = some ⟨b, off, none⟩ → i < len → a' = some ⟨b, off + i * 3, none⟩) := by
  refine ⟨if cap = i then a else a.map (·.add (i * 3)), fun W => ?_, ?_, ?_⟩
  · rw [run_sliceAt_slice (h := elR), run_slice_l (ht := elR) (h0 := by omega) (h1 := by omega), szR]
    simp only [Result.andThen, sliced, Int.toNat_natCast]
  · split
    · intro e; have := hnil e; omega
    · intro e
      cases a with
      | none => have := hnil rfl; omega
      | some ad => cases e
  · intro b off e hi
    rw [if_neg (by omega), e]
    exact congrArg some (addr_add ⟨b, off, none⟩ rfl (i * 3))
theorem getD_drop (rs : List Rec) (i j : Nat) : (rs.drop i).getD j rec0 = rs.getD (i + j) rec0 := by
  rw [List.getD_eq_getElem?_getD, List.getD_eq_getElem?_getD, List.getElem?_drop]
theorem RdR.drop {w : World} {a a' : Option Addr} {len i : Nat} {rs : List Rec} (h : RdR w a len rs) (hi : i ≤ len) (ha : ∀ b off, a = some ⟨b, off, none⟩ → i < len → a' = some ⟨b, off + i * 3, none⟩) : RdR w a' (len - i) (rs.drop i) := by
  refine ⟨by rw [List.length_drop, h.1], fun hp => ?_⟩
  obtain ⟨b, off, e, hl, hc⟩ := h.2 (by omega)
  refine ⟨b, off + i * 3, ha b off e (by omega), hl, fun j hj => ?_⟩
  rw [getD_drop, show off + i * 3 + j * 3 = off + (i + j) * 3 by omega]
  exact hc (i + j) (by omega)
/-- A slice of one record that has just been built. -/
theorem rdr_one {w : World} {g : Nat} {x : Rec} (h : RB w g x) : RdR w (some ⟨g, 0, none⟩) 1 [x] := by
  refine ⟨rfl, fun _ => ⟨g, 0, rfl, lt_row h, fun j hj => ?_⟩⟩
  obtain rfl : j = 0 := by omega
  exact h.cells
theorem getD_cons {rs : List Rec} {i : Nat} (h : i < rs.length) : rs.drop i = rs.getD i rec0 :: rs.drop (i + 1) := by
  rw [List.drop_eq_getElem_cons h, List.getD_eq_getElem?_getD, List.getElem?_eq_getElem h]; rfl
theorem mrg_step_left (A B : List Rec) (i k : Nat) (hi : i < A.length) (hk : k < B.length) (h : le (A.getD i rec0) (B.getD k rec0) = true) : mrg (A.drop i) (B.drop k) = A.getD i rec0 :: mrg (A.drop (i + 1)) (B.drop k) := by
  rw [getD_cons hi, getD_cons hk, mrg_cons, if_pos h]
theorem mrg_step_right (A B : List Rec) (i k : Nat) (hk : k < B.length) (h : A.length ≤ i ∨ le (A.getD i rec0) (B.getD k rec0) = false) : mrg (A.drop i) (B.drop k) = B.getD k rec0 :: mrg (A.drop i) (B.drop (k + 1)) := by
  by_cases hi : i < A.length
  · have h' : le (A.getD i rec0) (B.getD k rec0) = false := h.elim (fun h => by omega) id
    rw [getD_cons hi, getD_cons hk, mrg_cons, if_neg (by rw [h']; simp)]
  · rw [List.drop_eq_nil_of_le (by omega), nil_mrg, nil_mrg, getD_cons hk]
end Go.Proofs.Ytlbplicafcoifaa.So
