/-
  Sources of the call's own, played and merged.
-/
import Derived.Test.YtoobgocnooeojaaMeTidy
import Derived.Test.YtoobgocnooeojaaMeRunC
namespace Go.Proofs.Ytoobgocnooeojaa.Me
open Go.ChangeShapes Go.WideShapes Go.ChangeAt Go.RowKit
open Go.Proofs.Ytoobgocnooeojaa.Base
set_option linter.unusedVariables false
/-- Sources that can be read, and lie below lo. -/
structure Rdy (w : World) (a : Option Addr) (us : List Src) : Prop where
  rdq : RdQ w a us
  rdh : ∀ j, j < us.length → RdH w (us.getD j src0).a (us.getD j src0).ts
theorem RdQ.below {w w' : World} {a : Option Addr} {us : List Src} (h : RdQ w a us) (hb : Below w.heap.size w w') : RdQ w' a us := fun hp => by
  obtain ⟨b, off, e1, e2, e3⟩ := h hp
  exact ⟨b, off, e1, Nat.lt_of_lt_of_le e2 hb.size, fun j hj => ⟨(hb.cell (p := ⟨b, off + j * 2, none⟩) e2).trans (e3 j hj).1, (hb.cell (p := ⟨b, off + j * 2 + 1, none⟩) e2).trans (e3 j hj).2⟩⟩
theorem Rdy.below {w w' : World} {a : Option Addr} {us : List Src} (h : Rdy w a us) (hb : Below w.heap.size w w') : Rdy w' a us :=
  ⟨h.rdq.below hb, fun j hj => (h.rdh j hj).below hb⟩
theorem getD_srcmem {us : List Src} {j : Nat} (hj : j < us.length) : us.getD j src0 ∈ us := by
  rw [List.getD_eq_getElem?_getD, List.getElem?_eq_getElem hj]
  exact List.getElem_mem hj
theorem OutS.rdy {w : World} {base : Nat} {a : Option Addr} {n c : Nat} {us : List Src} (h : OutS w base (.slice a n c) us) : Rdy w a us :=
  ⟨h.rdq, fun j hj => (h.own _ (getD_srcmem hj)).rd⟩
theorem Row.shape {w : World} {lo : Nat} {v : Value} {gs : List Nat} {fd : Nat → Fd} (h : Row w lo v gs fd) : ∃ al cl, v = .slice al gs.length cl := by
  rcases h.row.2 with ⟨q1, q2⟩ | ⟨g, cap, cur, q1, _⟩
  · exact ⟨none, 0, by rw [q1, q2]⟩
  · exact ⟨_, _, q1⟩
/-- feeds, then run. -/
theorem feed_run (a : Option Addr) (c : Nat) (us : List Src) (w : World) (hR : Rdy w a us) (hn : us.length ≤ 64) (hl : ∀ j, j < us.length → (plays us j).ts.length ≤ 1048576) :
    Calls Try.prog 9 #[.slice a us.length c] w fun e w1 => ∃ al cl gs, e = .returned (.slice al gs cl) ∧ Below w.heap.size w w1 ∧
      Calls Try.prog 17 #[.slice al gs cl] w1 fun e w' => ∃ al cl L x, e = .returned (.tuple #[.slice al L.length cl, .int .i64 x, .bool true]) ∧ Runs (plays us) us.length L x ∧ OwnT w' w1.heap.size (.slice al L.length cl) L ∧ Below w.heap.size w1 w' := by
  refine (feeds_any a c us w hR.rdq (by omega)).mono ?_
  rintro e w1 ⟨v, gs, rfl, hg, hrow, hb⟩
  obtain ⟨al, cl, rfl⟩ := hrow.shape
  refine ⟨al, cl, gs.length, rfl, hb, ?_⟩
  have hfed : Fed w1 w.heap.size (.slice al gs.length cl) gs (plays us) := by
    refine ⟨hrow, fun j hj => ?_, fun j hj b off e1 e2 => ?_, fun j hj => ⟨rfl, rfl, rfl, rfl⟩, fun j hj => ?_⟩
    · exact (hR.rdh j (by omega)).below hb
    · obtain ⟨b', off', e3, e4, _⟩ := hR.rdh j (by omega) e2
      have e5 : some (⟨b, off, none⟩ : Addr) = some ⟨b', off', none⟩ := e1.symm.trans e3
      simp only [Option.some.injEq, Addr.mk.injEq] at e5
      omega
    · have := hl j (by omega); omega
  have hsum : sumN (lens (plays us)) gs.length ≤ gs.length * 1048576 := sum_bound (fun j hj => hl j (by omega))
  refine (run_any al cl w.heap.size gs (plays us) w1 hfed hb.size (by omega) (by omega)).mono ?_
  rintro e w2 ⟨v, L, x, rfl, hru, how, hbw⟩
  obtain ⟨a2, c2, rfl, _⟩ := how.shape'
  exact ⟨a2, c2, L, x, rfl, by rw [← hg]; exact hru, how, hbw⟩
end Go.Proofs.Ytoobgocnooeojaa.Me
