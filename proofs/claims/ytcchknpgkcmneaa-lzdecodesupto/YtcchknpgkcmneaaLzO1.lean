/-
  Tokens that were handed out, written full: each Lit is memory of its own.
-/
import Derived.Test.YtcchknpgkcmneaaOutB
import Derived.Test.YtcchknpgkcmneaaLzC7
import Derived.Deep.RegionHeld
namespace Go.Proofs.Ytcchknpgkcmneaa.Lz
open Go.ChangeShapes Go.WideShapes Go.ChangeAt Go.RowKit
open Go.Proofs.Ytcchknpgkcmneaa.Base Go.Proofs.Ytcchknpgkcmneaa.Nums
set_option linter.unusedVariables false
def lt (ps : List (Value × Tok)) (j : Nat) : Value × Tok := ps.getD j (.slice none 0 0, ⟨[], 0, 0⟩)
theorem lt_get (ps : List (Value × Tok)) (j : Nat) (h : j < ps.length) : lt ps j = ps[j] := by
  unfold lt; rw [List.getD_eq_getElem?_getD, List.getElem?_eq_getElem h]; rfl
theorem lt_mem (ps : List (Value × Tok)) (j : Nat) (h : j < ps.length) : lt ps j ∈ ps := by rw [lt_get ps j h]; exact List.getElem_mem h
/-- The tokens of ps, whose Lits now read as F tells. -/
structure Sp (w : World) (base : Nat) (v : Value) (ps : List (Value × Tok)) (F : Nat → List (BitVec 8)) : Prop where
  row : w.ownsRow base 61 3 v ps.length (cellsOf ps)
  lits : ∀ j, j < ps.length → Own w base (lt ps j).1 (F j)
theorem Sp.start {w : World} {base : Nat} {v : Value} {ps : List (Value × Tok)} (h : OwnToks w base v ps) : Sp w base v ps (fun j => (lt ps j).2.lit) :=
  ⟨h.row, fun j hj => h.lits _ (lt_mem ps j hj)⟩
theorem lt_apart {w : World} {base : Nat} {v : Value} {ps : List (Value × Tok)} (h : OwnToks w base v ps) (i j g : Nat) (hi : i < ps.length) (hj : j < ps.length) (hij : i ≠ j) (e : (lt ps i).1.ownBlock = some g) : (lt ps j).1.ownBlock ≠ some g := by
  rw [lt_get ps i hi] at e
  rw [lt_get ps j hj]
  have hp := List.pairwise_iff_getElem.1 h.apart
  by_cases hlt : i < j
  · exact hp i j hi hj hlt g e
  · exact fun e2 => hp j i hj hi (by omega) g e2 e
theorem lt_full {w : World} {base : Nat} {v : Value} {ps : List (Value × Tok)} (h : OwnToks w base v ps) (i : Nat) (hi : i < ps.length) : ∃ g, (lt ps i).1 = .slice (some ⟨g, 0, none⟩) (lt ps i).2.lit.length (lt ps i).2.lit.length := h.full _ (lt_mem ps i hi)
theorem Sp.some' {w : World} {base n c : Nat} {a : Option Addr} {ps : List (Value × Tok)} {F : Nat → List (BitVec 8)} (h : Sp w base (.slice a n c) ps F) (hn : 0 < n) : ∃ g, a = some ⟨g, 0, none⟩ := by
  rcases h.row.2 with ⟨e, _⟩ | ⟨g, c', cur, e, _⟩
  · simp only [Value.slice.injEq] at e; omega
  · simp only [Value.slice.injEq] at e; exact ⟨g, e.1⟩
theorem Sp.cell {w : World} {base n c g : Nat} {ps : List (Value × Tok)} {F : Nat → List (BitVec 8)} (h : Sp w base (.slice (some ⟨g, 0, none⟩) n c) ps F) (j : Nat) (hj : j < ps.length) : w.cell? ⟨g, j * 3, none⟩ = some (lt ps j).1 := by
  have hn : n = ps.length := by
    rcases h.row.2 with ⟨e1, e2⟩ | ⟨g, cap, cur, e1, _⟩
    · simp at e1
    · simp only [Value.slice.injEq] at e1; exact e1.2.1
  subst hn
  rw [World.ownsRow.cellAt h.row (j * 3) (by omega), lt_get ps j hj]
  exact (cellsOf_get ps j hj).1
/-- A byte of one Lit is written. -/
theorem Sp.store {w : World} {base i g k m c : Nat} {v : Value} {ps : List (Value × Tok)} {F : Nat → List (BitVec 8)} (h : Sp w base v ps F) (hap : ∀ j, j < ps.length → j ≠ i → (lt ps j).1.ownBlock ≠ some g) (hi : i < ps.length) (hg : (lt ps i).1 = .slice (some ⟨g, 0, none⟩) m c) (d : BitVec 8) :
    Sp (w.setCell ⟨g, k, none⟩ (.int .u8 (d.toNat : Int))) base v ps (fun j => if j = i then (F i).set k d else F j) ∧ w.grownBy (w.setCell ⟨g, k, none⟩ (.int .u8 (d.toNat : Int))) (some g) := by
  have ho := h.lits i hi
  rw [hg] at ho
  have hs := ho.store k d
  refine ⟨⟨World.ownsRow.kept (row := some g) h.row hs.2 ?_, fun j hj => ?_⟩, hs.2⟩
  · cases hv : v.ownBlock with
    | none => exact .inl rfl
    | some q => exact .inr (fun e => row_lit h.row (h.lits i hi) q hv (by rw [hg]; exact e.symm))
  · by_cases hji : j = i
    · subst hji
      rw [hg]
      show Own _ _ _ (if j = j then _ else _)
      rw [if_pos rfl]; exact hs.1
    · simp only [if_neg hji]
      exact Base.keep (h.lits j hj) hs.2 (fun a b e1 e2 e => hap j hj hji (by rw [e1, e, ← Option.some.inj e2]))
theorem Sp.low {B base : Nat} {w w' : World} {v : Value} {ps : List (Value × Tok)} {F : Nat → List (BitVec 8)} (h : Sp w base v ps F) (hb : Below B w w') (h1 : ∀ i, v.ownBlock = some i → i < B) (h2 : ∀ j, j < ps.length → ∀ i, (lt ps j).1.ownBlock = some i → i < B) : Sp w' base v ps F := by
  refine ⟨?_, fun j hj => own_low hb (h.lits j hj) (h2 j hj)⟩
  obtain ⟨r1, r2⟩ := h.row
  refine ⟨r1, ?_⟩
  rcases r2 with r2 | ⟨g, cap, cur, e1, e2, e3, e4⟩
  · exact .inl r2
  · have hb2 : v.ownBlock = some g := by rw [e1]; rfl
    exact .inr ⟨g, cap, cur, e1, e2, by rw [hb.block g (h1 g hb2)]; exact e3, e4⟩
/-- The mark of the token number i. -/
def markOf (i : Nat) : BitVec 8 := BitVec.ofNat 8 (i % 251)
theorem markOf_nat (i : Nat) : (markOf i).toNat = i % 251 := by
  unfold markOf
  rw [BitVec.toNat_ofNat]
  omega
end Go.Proofs.Ytcchknpgkcmneaa.Lz
