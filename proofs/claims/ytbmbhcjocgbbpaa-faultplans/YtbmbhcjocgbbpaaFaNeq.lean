/-
  Entries compared as a whole.
-/
import Derived.Test.YtbmbhcjocgbbpaaFaList
namespace Go.Proofs.Ytbmbhcjocgbbpaa.Fa
open Go.ChangeShapes Go.WideShapes Go.ChangeAt Go.RowKit
open Go.Proofs.Ytbmbhcjocgbbpaa.Base
set_option linter.unusedVariables false
theorem flt_ext {f g : Flt} (h : f.k = g.k ∧ f.j = g.j ∧ f.t = g.t ∧ f.a = g.a ∧ f.m = g.m ∧ f.r = g.r ∧ f.p = g.p ∧ f.q.toNat = g.q.toNat) : f = g := by
  obtain ⟨a1, a2, a3, a4, a5, a6, a7, a8⟩ := f
  obtain ⟨b1, b2, b3, b4, b5, b6, b7, b8⟩ := g
  simp only at h
  obtain ⟨rfl, rfl, rfl, rfl, rfl, rfl, rfl, h8⟩ := h
  obtain rfl := BitVec.eq_of_toNat_eq h8
  rfl
set_option maxHeartbeats 1000000 in
set_option maxRecDepth 100000 in
theorem neq_run (f g : Flt) (h : f ≠ g) (W : World) : (binOp .neq 25 (.agg #[.int .i64 f.k, .int .i64 f.j, .int .i64 f.t, .int .i64 f.a, .int .i64 f.m, .int .i64 f.r, .int .i64 f.p, .int .u32 (f.q.toNat : Int)]) (.agg #[.int .i64 g.k, .int .i64 g.j, .int .i64 g.t, .int .i64 g.a, .int .i64 g.m, .int .i64 g.r, .int .i64 g.p, .int .u32 (g.q.toNat : Int)])).run Try.prog W = .ok (.bool true) W := by
  by_cases h1 : f.k = g.k
  · by_cases h2 : f.j = g.j
    · by_cases h3 : f.t = g.t
      · by_cases h4 : f.a = g.a
        · by_cases h5 : f.m = g.m
          · by_cases h6 : f.r = g.r
            · by_cases h7 : f.p = g.p
              · have h8 : ¬ (f.q.toNat : Int) = (g.q.toNat : Int) := fun e => h (flt_ext ⟨h1, h2, h3, h4, h5, h6, h7, by omega⟩)
                simp [h1, h2, h3, h4, h5, h6, h7, h8, go_sem]
              · simp [h1, h2, h3, h4, h5, h6, h7, go_sem]
            · simp [h1, h2, h3, h4, h5, h6, go_sem]
          · simp [h1, h2, h3, h4, h5, go_sem]
        · simp [h1, h2, h3, h4, go_sem]
      · simp [h1, h2, h3, go_sem]
    · simp [h1, h2, go_sem]
  · simp [h1, go_sem]
end Go.Proofs.Ytbmbhcjocgbbpaa.Fa
