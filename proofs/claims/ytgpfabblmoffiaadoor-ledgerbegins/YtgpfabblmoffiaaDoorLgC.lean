/-
  Lists of tasks' states as they are read; a book's block; Check.
-/
import Derived.Test.YtgpfabblmoffiaaDoorLgB
namespace Go.Proofs.YtgpfabblmoffiaaDoor.Lg
open Go.ChangeShapes Go.WideShapes Go.ChangeAt Go.RowKit
open Go.Proofs.YtgpfabblmoffiaaDoor.Base Go.Proofs.YtgpfabblmoffiaaDoor.Rf
set_option linter.unusedVariables false
/-- The slice reads as the states L. -/
def RdT (w : World) (a : Option Addr) (n : Nat) (L : List TS) : Prop := L.length = n ∧ n ≤ 4611686018427387904 ∧ RdF w a 3 n (tf L)
theorem RdT.below {w w' : World} {a : Option Addr} {n : Nat} {L : List TS} (h : RdT w a n L) (hb : Below w.heap.size w w') : RdT w' a n L := ⟨h.1, h.2.1, h.2.2.below hb⟩
theorem rdt_nil (w : World) : RdT w none 0 [] := ⟨rfl, by omega, rdf_zero _ _ _ _⟩
theorem rdt_zero (w : World) (a : Option Addr) : RdT w a 0 [] := ⟨rfl, by omega, rdf_zero _ _ _ _⟩
theorem RdT.at {w : World} {a : Option Addr} {n : Nat} {L : List TS} (h : RdT w a n L) (k : Nat) (hk : k < n) : ∃ b off, a = some ⟨b, off, none⟩ ∧ b < w.heap.size ∧ w.cell? ⟨b, off + k * 3, none⟩ = some (.int .i64 (L.getD k z0).s) ∧ w.cell? ⟨b, off + k * 3 + 1, none⟩ = some (.int .i64 (L.getD k z0).a) ∧ w.cell? ⟨b, off + k * 3 + 2, none⟩ = some (.int .i64 (L.getD k z0).c) := by
  obtain ⟨b, off, e, hl, hc⟩ := h.2.2 (by omega)
  refine ⟨b, off, e, hl, ?_, ?_, ?_⟩
  · have := hc k 0 _ hk rfl (by omega)
    rw [Nat.add_zero] at this
    exact this
  · have := hc k 1 _ hk rfl (by omega)
    rw [← Nat.add_assoc] at this
    exact this
  · have := hc k 2 _ hk rfl (by omega)
    rw [← Nat.add_assoc] at this
    exact this
/-- A book lies in the block g. -/
def BC (w : World) (g : Nat) (t : Int) (v1 v2 : Value) (f : Bool) : Prop := w.heap[g]? = some (.cells #[.int .i64 t, v1, v2, .bool f] 26)
theorem BC.lt {w : World} {g : Nat} {t : Int} {v1 v2 : Value} {f : Bool} (h : BC w g t v1 v2 f) : g < w.heap.size := (Array.getElem?_eq_some_iff.1 h).1
theorem BC.below {w w' : World} {g : Nat} {t : Int} {v1 v2 : Value} {f : Bool} (h : BC w g t v1 v2 f) (hb : Below w.heap.size w w') : BC w' g t v1 v2 f := (hb.block g h.lt).trans h
theorem BC.c0 {w : World} {g : Nat} {t : Int} {v1 v2 : Value} {f : Bool} (h : BC w g t v1 v2 f) : w.cell? ⟨g, 0, none⟩ = some (.int .i64 t) := by rw [cell_of_row _ _ _ _ _ _ h]; rfl
theorem BC.c1 {w : World} {g : Nat} {t : Int} {v1 v2 : Value} {f : Bool} (h : BC w g t v1 v2 f) : w.cell? ⟨g, 1, none⟩ = some v1 := by rw [cell_of_row _ _ _ _ _ _ h]; rfl
theorem BC.c2 {w : World} {g : Nat} {t : Int} {v1 v2 : Value} {f : Bool} (h : BC w g t v1 v2 f) : w.cell? ⟨g, 2, none⟩ = some v2 := by rw [cell_of_row _ _ _ _ _ _ h]; rfl
theorem BC.c3 {w : World} {g : Nat} {t : Int} {v1 v2 : Value} {f : Bool} (h : BC w g t v1 v2 f) : w.cell? ⟨g, 3, none⟩ = some (.bool f) := by rw [cell_of_row _ _ _ _ _ _ h]; rfl
theorem BC.fz {w : World} {g : Nat} {t : Int} {v1 v2 : Value} {f : Bool} (h : BC w g t v1 v2 f) (k : Nat) : w.frozen? ⟨g, k, none⟩ = false := frozen_of_row _ _ _ _ _ h
theorem bc_new (w : World) (t : Int) (v1 v2 : Value) (f : Bool) : BC (w.alloc (.cells #[.int .i64 t, v1, v2, .bool f] 26)) w.heap.size t v1 v2 f := heap_alloc_new _ _
theorem sz_wi (b : Bk) : sz b = (wi (b.m.length : Int) 0 256 && (wi (b.r.length : Int) 1 65535 && wi b.t 1 16)) := by
  unfold sz wi
  rw [← Bool.decide_and, ← Bool.decide_and]
  apply decide_eq_decide.2
  constructor
  · rintro ⟨h1, h2, h3, h4, h5⟩; exact ⟨⟨by omega, by omega⟩, ⟨by omega, by omega⟩, h4, h5⟩
  · rintro ⟨⟨h1, h2⟩, ⟨h3, h4⟩, h5, h6⟩; exact ⟨by omega, by omega, by omega, h5, h6⟩
/-- What the first k lists of a book hold: how many are charged Tries times. -/
def cntK (b : Bk) (k : Nat) : Nat := if k = 0 then 0 else if k = 1 then cnt b.t b.m else full b
def okK (b : Bk) (k : Nat) : Prop := (1 ≤ k → b.m.all (good false b.t) = true) ∧ (2 ≤ k → b.r.all (good true b.t) = true)
theorem chk_of {b : Bk} (h1 : sz b = true) (h2 : okK b 2) : chk b = (decide (full b ≤ 1) && (b.f == decide (full b = 1))) := by
  unfold chk; rw [h1, h2.1 (by omega), h2.2 (by omega)]; simp
theorem chk_bad0 {b : Bk} (h : sz b = false) : chk b = false := by unfold chk; rw [h]; rfl
theorem chk_bad1 {b : Bk} (k : Nat) (hk : k < b.m.length) (h : good false b.t (b.m.getD k z0) = false) : chk b = false := by
  unfold chk; rw [all_false k hk h]; simp
theorem chk_bad2 {b : Bk} (k : Nat) (hk : k < b.r.length) (h : good true b.t (b.r.getD k z0) = false) : chk b = false := by
  unfold chk; rw [all_false (L := b.r) k hk h]; simp
/-- One list and what of it has been looked at. -/
theorem cnt_all {t : Int} {L : List TS} {n : Nat} (h : L.length = n) : cnt t (L.take n) = cnt t L := by rw [← h, List.take_length]
end Go.Proofs.YtgpfabblmoffiaaDoor.Lg
