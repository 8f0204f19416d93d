/-
  A filter that is handed in, opened.
-/
import Derived.Test.YtmndjgmlndpgaaaDoorFiLaid
import Derived.ChangeMaps5
import Derived.ShutString
import Derived.ChangeOld
import Derived.Below
import Derived.Deep.Strs
namespace Go.Proofs.YtmndjgmlndpgaaaDoor.Filt
open Go.ChangeShapes Go.WideShapes Go.ChangeAt Go.RowKit Go.ChangeMaps
open Go.Proofs.YtmndjgmlndpgaaaDoor.Base
set_option linter.unusedVariables false
theorem three {α : Type} {cs : Array α} (h : cs.size = 3) : ∃ c0 c1 c2, cs = #[c0, c1, c2] := by
  obtain ⟨l⟩ := cs
  match l, h with
  | [c0, c1, c2], _ => exact ⟨c0, c1, c2, rfl⟩
theorem trod_struct3 {H : Type} {enc : TypeId × Value → H} {P : Program} {w : World} {base : Nat} {spare : Nat → Bool} {held : Bool} {t : TypeId} {f0 f1 f2 : Field} {fuel : Nat} {cs : List Value} {x : DataW H × List MemPlace} (ht : P.underlying t = some (.struct #[f0, f1, f2])) (h : DataW.trod enc P w base spare held fuel t cs = some x) :
    ∃ y0 y1 y2 n, x.1 = .agg [y0.1, y1.1, y2.1] ∧ DataW.trod enc P w base spare held n f0.type ((cs.drop f0.offset).take (P.cellsOf f0.type)) = some y0 ∧
      DataW.trod enc P w base spare held n f1.type ((cs.drop f1.offset).take (P.cellsOf f1.type)) = some y1 ∧ DataW.trod enc P w base spare held n f2.type ((cs.drop f2.offset).take (P.cellsOf f2.type)) = some y2 := by
  obtain ⟨xs, n, _, rfl, hl, hlen, hf⟩ := DataW.trod_struct ht h
  match xs, hlen with
  | [y0, y1, y2], _ => exact ⟨y0, y1, y2, n, by simp, by simpa using hf 0 f0 rfl, by simpa using hf 1 f1 rfl, by simpa using hf 2 f2 rfl⟩
theorem cells_bytes : Tryd.prog.cellsOf 22 = 1 := by kernel_rfl
theorem cells_filter : Tryd.prog.cellsOf 24 = 3 := by kernel_rfl
theorem open_filter {H : Type} {enc : TypeId × Value → H} {W : World} {base fuel : Nat} {v : Value} {d : DataW H} {p : List MemPlace} {pol} (hv : Value.okWide Tryd.prog W pol base 24 v) (hf : DataW.trod enc Tryd.prog W 0 (fun _ => true) true fuel 24 v.cells.toList = some (d, p)) (hwt : ∀ m ∈ d.weights Tryd.prog 24, m ≤ 140737488351232) :
    ∃ (A : Bool) (N : Int) (a : Option Addr) (len cap : Nat) (bs : List (BitVec 8)), v = .agg #[.bool A, .int .i64 N, .slice a len cap] ∧ (Lit.int .i64 N).wf = true ∧ Rd W a len bs ∧ len ≤ cap ∧ cap ≤ 140737488351232 ∧ (a = none → len = 0 ∧ cap = 0) := by
  obtain ⟨cs, rfl, hcs⟩ := okWide_struct Tryd.underlying24 hv
  obtain ⟨c0, c1, c2, rfl⟩ := three (hcs.trans cells_filter)
  obtain ⟨y0, y1, y2, f, hx, t0, t1, t2⟩ := trod_struct3 Tryd.underlying24 hf
  simp only [c_int, c_bool, cells_bytes, Value.cells] at t0 t1 t2
  obtain ⟨o, e0, _⟩ := DataW.trod_bool Tryd.underlying4 t0
  obtain ⟨s, e1, _, hwf⟩ := DataW.trod_int Tryd.underlying3 t1
  simp at e0 e1 t2
  subst e0 e1
  rcases open_ints Tryd.underlying22 Tryd.underlying5 (by kernel_rfl) t2 with ⟨hcs, _⟩ | ⟨x, l, c, zs, hcs, _, hl, hm, hz, hx2, hcell, hwz⟩
  · simp at hcs
    subst hcs
    exact ⟨o, s, none, 0, 0, [], rfl, hwf, rd_nil _, by omega, by omega, fun _ => ⟨rfl, rfl⟩⟩
  · simp at hcs
    subst hcs
    have hz' : zs.length = c := by simpa using hz
    have hw : c ≤ 140737488351232 := by
      have h1 : (zs.length) * Tryd.prog.bytesOf 5 ∈ d.weights Tryd.prog 24 := by
        simp only at hx
        rw [hx]
        unfold DataW.weights
        rw [Tryd.underlying24]
        refine DataW.weights_mem_each (j := 2) (t := 22) (d := y2.1) rfl rfl _ ?_
        rw [hx2]
        simp [DataW.weights, Tryd.underlying22, lits]
        left
        congr 1
        omega
      have h2 := hwt _ h1
      rw [bytes8] at h2
      omega
    obtain ⟨bs, hbs⟩ := rd_row hl hz' hcell hwz (by omega)
    exact ⟨o, s, some x, l, c, bs, rfl, hwf, hbs, hl, by omega, fun h => by cases h⟩
end Go.Proofs.YtmndjgmlndpgaaaDoor.Filt
