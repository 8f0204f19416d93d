/-
  The document's own answer: a text's own tokens.
-/
import Derived.Test.YtcchknpgkcmneaaLzR7
import Derived.Deep.LoopGhost
namespace Go.Proofs.Ytcchknpgkcmneaa.Lz
open Go.ChangeShapes Go.WideShapes Go.ChangeAt Go.RowKit
open Go.Proofs.Ytcchknpgkcmneaa.Base Go.Proofs.Ytcchknpgkcmneaa.Nums
set_option linter.unusedVariables false
theorem kp_facts {w : World} {g1 g2 : Nat} {x : Txt} {len c : Nat} (h : Kp w g1 g2 x len c) (hc : c ≤ len) : ∃ s pv v : Nat, Hid (refSlot x c = s) ∧ (s : Int) ≤ 4095 ∧ w.cell? ⟨g1, s, none⟩ = some (.int .i64 (pv : Int)) ∧ w.cell? ⟨g2, c, none⟩ = some (.int .i64 (v : Int)) ∧ w.frozen? ⟨g1, s, none⟩ = false ∧ w.frozen? ⟨g2, c, none⟩ = false ∧
    Hid (∀ u : Int, u = (c : Int) + 1 → Kp ((w.setCell ⟨g2, c, none⟩ (.int .i64 (pv : Int))).setCell ⟨g1, s, none⟩ (.int .i64 u)) g1 g2 x len (c + 1)) := by
  obtain ⟨v, hv, _⟩ := h.ahead c hc
  have hs := refSlot_lt x c
  refine ⟨refSlot x c, prev (refSlot x) (refSlot x c) c, v, rfl, by omega, h.last _ hs, hv, h.fr1 _, h.fr2 _, fun u hu => ?_⟩
  have := h.add hc
  subst hu
  exact this
/-- 'b[p:e]'. -/
theorem slice_lh (b off len cap p c e r : Nat) (he : p + c = e) (h : e ≤ cap) (hr : p + r = cap) (h0 : 0 < r) : ∀ W, (Instr.sliceAt 22 (.slice (some ⟨b, off, none⟩) len cap) (some (.int .i64 (p : Int))) (some (.int .i64 (e : Int))) none).run Try.prog W = .ok (.slice (some ⟨b, off + p, none⟩) c r) W := by
  intro W
  rw [run_sliceAt_slice (h := elem8), run_slice_lh (ht := elem8) (h0 := by omega) (h1 := by omega) (h2 := by omega), size8]
  simp only [Result.andThen, sliced, Int.toNat_natCast]
  rw [if_neg (by omega), show e - p = c by omega, show cap - p = r by omega]
  simp [Addr.add]
theorem best_at (x : Txt) (i : Nat) (h : i + 4 ≤ x.length) : best x i = search x i (min 259 (x.length - i)) i 0 (0, 0) := by unfold best; rw [if_neg (by omega)]
theorem grown_one {w : World} {g : Nat} (a : Nat) (u : Value) : w.grownBy (w.setCell ⟨g, a, none⟩ u) (some g) := grown_cell (World.grownBy.refl _ _) a u
end Go.Proofs.Ytcchknpgkcmneaa.Lz
