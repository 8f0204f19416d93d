/-
  A record, and a slice of records, as they are handed in.
-/
import Derived.Test.YtlbplicafcoifaaSoCmp
import Derived.ProofKit
import Derived.ChangeMaps5
import Derived.Deep.Slices
import Derived.Deep.Strs
namespace Go.Proofs.Ytlbplicafcoifaa.So
open Go.ChangeShapes Go.WideShapes Go.ChangeAt Go.RowKit Go.ChangeMaps Go.Deep
open Go.Proofs.Ytlbplicafcoifaa.Base
set_option linter.unusedVariables false
/-- What is handed in is of a size that may be. -/
def Rec.fits (r : Rec) : Prop := r.k.size ≤ 140737488351232 ∧ r.v.size ≤ 140737488351232
theorem three {α : Type} {cs : Array α} (h : cs.size = 3) : ∃ c0 c1 c2, cs = #[c0, c1, c2] := by
  obtain ⟨l⟩ := cs
  match l, h with
  | [c0, c1, c2], _ => exact ⟨c0, c1, c2, rfl⟩
theorem three_l {cs : List Value} (h : cs.length = 3) : ∃ c0 c1 c2, cs = [c0, c1, c2] := by
  match cs, h with
  | [c0, c1, c2], _ => exact ⟨c0, c1, c2, rfl⟩
theorem trod_struct3 {H : Type} {enc : TypeId × Value → H} {P : Program} {w : World} {base : Nat} {spare : Nat → Bool} {held : Bool} {t : TypeId} {f0 f1 f2 : Field} {fuel : Nat} {cs : List Value} {x : DataW H × List MemPlace} (ht : P.underlying t = some (.struct #[f0, f1, f2])) (h : DataW.trod enc P w base spare held fuel t cs = some x) :
    ∃ y0 y1 y2 n, x.1 = .agg [y0.1, y1.1, y2.1] ∧ DataW.trod enc P w base spare held n f0.type ((cs.drop f0.offset).take (P.cellsOf f0.type)) = some y0 ∧
      DataW.trod enc P w base spare held n f1.type ((cs.drop f1.offset).take (P.cellsOf f1.type)) = some y1 ∧ DataW.trod enc P w base spare held n f2.type ((cs.drop f2.offset).take (P.cellsOf f2.type)) = some y2 := by
  obtain ⟨xs, n, _, rfl, hl, hlen, hf⟩ := DataW.trod_struct ht h
  match xs, hlen with
  | [y0, y1, y2], _ => exact ⟨y0, y1, y2, n, by simp, by simpa using hf 0 f0 rfl, by simpa using hf 1 f1 rfl, by simpa using hf 2 f2 rfl⟩
theorem cells_int : Try.prog.cellsOf 3 = 1 := by kernel_rfl
theorem cells_str : Try.prog.cellsOf 9 = 1 := by kernel_rfl
theorem cells_rec : Try.prog.cellsOf 34 = 3 := by kernel_rfl
theorem bytes_rec : Try.prog.bytesOf 34 = 40 := by kernel_rfl
theorem open_rec {H : Type} {enc : TypeId × Value → H} {W : World} {base : Nat} {spare : Nat → Bool} {held : Bool} {fuel : Nat} {c0 c1 c2 : Value} {D : DataW H} {Pl : List MemPlace}
    (hf : DataW.trod enc Try.prog W base spare held fuel 34 [c0, c1, c2] = some (D, Pl)) (hw : ∀ z ∈ D.weights Try.prog 34, z ≤ reachBytes) :
    ∃ r : Rec, c0 = .int .i64 r.p ∧ c1 = .string r.k ∧ c2 = .string r.v ∧ r.fits := by
  obtain ⟨y0, y1, y2, n, hx, t0, t1, t2⟩ := trod_struct3 Try.underlying34 hf
  simp only [cells_int, cells_str] at t0 t1 t2
  simp only at hx
  subst hx
  obtain ⟨o, h0, _, _⟩ := DataW.trod_int Try.underlying3 t0
  obtain ⟨s, h1, hy1, _⟩ := DataW.trod_string Try.underlying9 t1
  obtain ⟨u, h2, hy2, _⟩ := DataW.trod_string Try.underlying9 t2
  simp at h0 h1 h2
  subst h0 h1 h2
  have hr : reachBytes = 140737488351232 := by decide
  have hb := hw s.data.toList.length (by
    unfold DataW.weights
    rw [Try.underlying34]
    refine DataW.weights_mem_each (j := 1) (t := 9) (d := y1.1) rfl rfl _ ?_
    rw [hy1]
    simp [DataW.weights])
  have hc := hw u.data.toList.length (by
    unfold DataW.weights
    rw [Try.underlying34]
    refine DataW.weights_mem_each (j := 2) (t := 9) (d := y2.1) rfl rfl _ ?_
    rw [hy2]
    simp [DataW.weights])
  rw [hr] at hb hc
  exact ⟨⟨o, s, u⟩, rfl, rfl, rfl, hb, hc⟩
end Go.Proofs.Ytlbplicafcoifaa.So
