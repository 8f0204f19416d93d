/-
  Slice expressions on bytes, whose capacity may come to nothing.
-/
import Derived.Test.YthdblnfohbldcaaGreatBase
namespace Go.Proofs.YthdblnfohbldcaaGreat.Base
open Go.ChangeShapes Go.WideShapes Go.ChangeAt Go.RowKit
set_option linter.unusedVariables false
theorem el8 : Tryz.prog.underlying 24 = some (.slice (Tryz.prog.elem 24)) := by kernel_rfl
theorem sz8 (W : World) : (sizeOf (Tryz.prog.elem 24)).run Tryz.prog W = .ok 1 W := by
  have h : (Tryz.prog.info? (Tryz.prog.elem 24)).map (·.size) = some 1 := by kernel_rfl
  cases hq : Tryz.prog.info? (Tryz.prog.elem 24) with
  | none => simp [hq] at h
  | some i => simp [hq] at h; simp [sizeOf, typeInfo, hq, h]
theorem cut_l (b off len cap e : Nat) (h : e ≤ len) (hc : len ≤ cap) : ∃ la : Addr, (∀ W, (Instr.sliceAt 24 (.slice (some ⟨b, off, none⟩) len cap) (some (.int .i64 (e : Int))) none none).run Tryz.prog W = .ok (.slice (some la) (len - e) (cap - e)) W) ∧
    (e < len → la = ⟨b, off + e, none⟩) ∧ la.spot = none ∧ la.block = b := by
  refine ⟨if cap = e then ⟨b, off, none⟩ else ⟨b, off + e, none⟩, fun W => ?_, fun hc => by rw [if_neg (by omega)], by split <;> rfl, by split <;> rfl⟩
  rw [run_sliceAt_slice (h := el8), run_slice_l (ht := el8) (h0 := by omega) (h1 := by omega), sz8]
  simp only [Result.andThen, sliced, Int.toNat_natCast]
  by_cases hc : cap = e
  · rw [if_pos hc, if_pos hc]
  · rw [if_neg hc, if_neg hc]
    simp [Addr.add]
/-- What stands behind the first e bytes. -/
theorem Rd.past {w : World} {b off len : Nat} {bs : List (BitVec 8)} (h : Rd w (some ⟨b, off, none⟩) len bs) (e : Nat) (he : e ≤ len) (la : Addr) (hla : e < len → la = ⟨b, off + e, none⟩) : Rd w (some la) (len - e) (bs.drop e) := by
  by_cases hlt : e < len
  · rw [hla hlt]; exact h.from e he
  · obtain rfl : e = len := by omega
    rw [Nat.sub_self, List.drop_eq_nil_of_le (by rw [h.1]; exact Nat.le_refl _)]
    exact rd_zero _ _
end Go.Proofs.YthdblnfohbldcaaGreat.Base
