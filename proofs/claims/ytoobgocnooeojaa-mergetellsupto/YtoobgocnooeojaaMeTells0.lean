/-
  For MergeTells: what asked and the way out say.
-/
import Derived.Test.YtoobgocnooeojaaMeAllO
import Derived.Test.YtoobgocnooeojaaMeRunA
namespace Go.Proofs.Ytoobgocnooeojaa.Me
open Go.ChangeShapes Go.WideShapes Go.ChangeAt Go.RowKit
open Go.Proofs.Ytoobgocnooeojaa.Base
set_option linter.unusedVariables false
/-- The way out without a mark: the result lies in a cell. -/
theorem leaves_cell0 {P : Program} {fn : Func} {tmps : Array Value} {W : World} {R : Ending → World → Prop} {gc : Nat} {v : Value} (hc : W.cell? ⟨gc, 0, none⟩ = some v)
    (hload : ∀ V : World, V.cell? ⟨gc, 0, none⟩ = some v → (results fn tmps).run P V = .ok v V) (hR : R (.returned v) W) : bodyPostM Fence.wide 1 P fn R .ret { tmps := tmps, defers := [] } W :=
  ⟨v, hload W hc, hR⟩
/-- How often all have been asked, as the statements count it. -/
theorem AtA.asks {w : World} {gm g2 lo : Nat} {gs : List Nat} {B : Nat → Fd} {P : List Th} (h : AtA w gm g2 gs.length (fun j => gs.getD j 0) B P) (al : Option Addr) (cl : Nat) (hrow : w.ownsRow lo 54 1 (.slice al gs.length cl) gs.length (ptrs gs)) (hn : gs.length ≤ 64) (hP : P.length ≤ 67108864) :
    ∃ q : Nat, (P = [] → q = 0) ∧ (0 < P.length → q + 1 = gs.length + P.length) ∧ Calls Try.prog 18 #[.slice al gs.length cl] w fun e w' => e = .returned (.int .i64 (q : Int)) ∧ w' = w := by
  obtain ⟨fd, hf, hs⟩ := h.asked
  refine ⟨sumN (asksOf fd) gs.length, fun e => ?_, fun hp => ?_, asked_any al cl lo gs fd w hrow hf (by omega) ?_⟩
  · rcases hs with ⟨_, q⟩ | ⟨q, _⟩
    · exact q
    · rw [e] at q; simp at q
  · rcases hs with ⟨q, _⟩ | ⟨_, q⟩
    · rw [q] at hp; simp at hp
    · exact q
  · rcases hs with ⟨_, q⟩ | ⟨_, q⟩
    · rw [q]; omega
    · omega
end Go.Proofs.Ytoobgocnooeojaa.Me
