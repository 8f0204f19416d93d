/-
  A slice of ints that came in: its values are within their kind.
-/
import Derived.Test.YtcnfkgmefikcjaaIBase
namespace Go.Proofs.Ytcnfkgmefikcjaa.Me
open Go.ChangeShapes Go.WideShapes Go.ChangeAt Go.RowKit
open Go.Proofs.Ytcnfkgmefikcjaa.Base
set_option linter.unusedVariables false
theorem rdi_row9 {w : World} {x : Addr} {l c : Nat} {zs : List Int} (hl : l ≤ c) (hz : zs.length = c) (hcell : ∀ i, i < zs.length → w.cell? (x.add i) = some (.int .i64 (zs.getD i 0)))
    (hc : c ≤ 17592186044416) (hwz : ∀ n ∈ zs, (Lit.int .i64 n).wf = true) : ∃ xs, RdI w (some x) l xs ∧ ∀ v ∈ xs, v ≤ 9223372036854775807 := by
  refine ⟨zs.take l, ⟨by simp; omega, by omega, fun hp => ?_⟩, fun v hv => ?_⟩
  · obtain ⟨b, off, spot⟩ := x
    have h0 := hcell 0 (by omega)
    have hspot : spot = none := by simpa [Addr.add] using World.cell?_spot h0
    subst hspot
    refine ⟨b, off, rfl, ?_, fun i hi => ?_⟩
    · have := block_lt_of_cell h0
      simpa [Addr.add] using this
    · have h := hcell i (by omega)
      rw [show (⟨b, off, none⟩ : Addr).add i = ⟨b, off + i, none⟩ by simp [Addr.add]] at h
      rw [h, List.getD_eq_getElem?_getD, List.getD_eq_getElem?_getD, List.getElem?_take, if_pos hi]
  · have h := hwz v (List.mem_of_mem_take hv)
    have h2 : IntKind.i64.min ≤ v ∧ v ≤ 9223372036854775807 := by simpa [Lit.wf] using h
    exact h2.2
end Go.Proofs.Ytcnfkgmefikcjaa.Me
