/-
  Sources of the call's own, played and merged.
-/
import Derived.Test.YtcnfkgmefikcjaaMeTidy
import Derived.Test.YtcnfkgmefikcjaaMeRunC
namespace Go.Proofs.Ytcnfkgmefikcjaa.Me
open Go.ChangeShapes Go.WideShapes Go.ChangeAt Go.RowKit
open Go.Proofs.Ytcnfkgmefikcjaa.Base
set_option linter.unusedVariables false
/-- Sources that can be read, and lie below lo. -/
structure Rdy (w : World) (a : Option Addr) (us : List Src) : Prop where
  rdq : RdQ w a us
  rdh : ∀ j, j < us.length → RdH w (us.getD j src0).a (us.getD j src0).ts
theorem RdQ.below {w w' : World} {a : Option Addr} {us : List Src} (h : RdQ w a us) (hb : Below w.heap.size w w') : RdQ w' a us := fun hp => by
  obtain ⟨b, off, e1, e2, e3⟩ := h hp
  exact ⟨b, off, e1, Nat.lt_of_lt_of_le e2 hb.size, fun j hj => ⟨(hb.cell (p := ⟨b, off + j * 2, none⟩) e2).trans (e3 j hj).1, (hb.cell (p := ⟨b, off + j * 2 + 1, none⟩) e2).trans (e3 j hj).2⟩⟩
theorem Rdy.below {w w' : World} {a : Option Addr} {us : List Src} (h : Rdy w a us) (hb : Below w.heap.size w w') : Rdy w' a us :=
  ⟨h.rdq.below hb, fun j hj => (h.rdh j hj).below hb⟩
theorem getD_srcmem {us : List Src} {j : Nat} (hj : j < us.length) : us.getD j src0 ∈ us := by
  rw [List.getD_eq_getElem?_getD, List.getElem?_eq_getElem hj]
  exact List.getElem_mem hj
theorem OutS.rdy {w : World} {base : Nat} {a : Option Addr} {n c : Nat} {us : List Src} (h : OutS w base (.slice a n c) us) : Rdy w a us :=
  ⟨h.rdq, fun j hj => (h.own _ (getD_srcmem hj)).rd⟩
theorem Row.shape {w : World} {lo : Nat} {v : Value} {gs : List Nat} {fd : Nat → Fd} (h : Row w lo v gs fd) : ∃ al cl, v = .slice al gs.length cl := by
  rcases h.row.2 with ⟨q1, q2⟩ | ⟨g, cap, cur, q1, _⟩
  · exact ⟨none, 0, by rw [q1, q2]⟩
  · exact ⟨_, _, q1⟩
end Go.Proofs.Ytcnfkgmefikcjaa.Me
