/-
  Slice expressions on records.
-/
import Derived.Test.YtlbplicafcoifaaSoRow
namespace Go.Proofs.Ytlbplicafcoifaa.So
open Go.ChangeShapes Go.WideShapes Go.ChangeAt Go.RowKit
open Go.Proofs.Ytlbplicafcoifaa.Base
set_option linter.unusedVariables false
theorem elR : Try.prog.underlying 38 = some (.slice (Try.prog.elem 38)) := by kernel_rfl
theorem szR (W : World) : (sizeOf (Try.prog.elem 38)).run Try.prog W = .ok 3 W := by
  have h : (Try.prog.info? (Try.prog.elem 38)).map (·.size) = some 3 := by kernel_rfl
  cases hq : Try.prog.info? (Try.prog.elem 38) with
  | none => simp [hq] at h
  | some i => simp [hq] at h; simp [sizeOf, typeInfo, hq, h]
theorem addr_add (a : Addr) (hs : a.spot = none) (n : Nat) : a.add n = ⟨a.block, a.off + n, none⟩ := by
  obtain ⟨b, off, sp⟩ := a
  simp only at hs
  subst hs
  unfold Addr.add
  split
  · rename_i h; have h0 : n = 0 := by simpa using h
    subst h0; rfl
  · rfl
theorem cutR_l (a : Addr) (hs : a.spot = none) (len cap e : Nat) (h : e ≤ len) (hc : len ≤ cap) : ∃ la : Addr, (∀ W, (Instr.sliceAt 38 (.slice (some a) len cap) (some (.int .i64 (e : Int))) none none).run Try.prog W = .ok (.slice (some la) (len - e) (cap - e)) W) ∧
    (e < cap → la = ⟨a.block, a.off + e * 3, none⟩) ∧ la.spot = none := by
  refine ⟨if cap = e then a else ⟨a.block, a.off + e * 3, none⟩, fun W => ?_, fun hc => by rw [if_neg (by omega)], by split <;> first | exact hs | rfl⟩
  rw [run_sliceAt_slice (h := elR), run_slice_l (ht := elR) (h0 := by omega) (h1 := by omega), szR]
  simp only [Result.andThen, sliced, Int.toNat_natCast]
  by_cases hc : cap = e
  · rw [if_pos hc, if_pos hc]
  · rw [if_neg hc, if_neg hc]
    simp [addr_add a hs]
theorem cutR_lh (a : Addr) (hs : a.spot = none) (len cap l h : Nat) (h1 : l ≤ h) (h2 : h ≤ cap) : ∃ la : Addr, (∀ W, (Instr.sliceAt 38 (.slice (some a) len cap) (some (.int .i64 (l : Int))) (some (.int .i64 (h : Int))) none).run Try.prog W = .ok (.slice (some la) (h - l) (cap - l)) W) ∧
    (l < cap → la = ⟨a.block, a.off + l * 3, none⟩) ∧ la.spot = none := by
  refine ⟨if cap = l then a else ⟨a.block, a.off + l * 3, none⟩, fun W => ?_, fun hc => by rw [if_neg (by omega)], by split <;> first | exact hs | rfl⟩
  rw [run_sliceAt_slice (h := elR), run_slice_lh (ht := elR) (h0 := by omega) (h1 := by omega) (h2 := by omega), szR]
  simp only [Result.andThen, sliced, Int.toNat_natCast]
  by_cases hc : cap = l
  · rw [if_pos hc, if_pos hc]
  · rw [if_neg hc, if_neg hc]
    simp [addr_add a hs]
end Go.Proofs.Ytlbplicafcoifaa.So
