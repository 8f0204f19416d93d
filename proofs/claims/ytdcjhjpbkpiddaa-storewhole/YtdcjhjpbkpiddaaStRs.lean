/-
  A round of StoreWhole: the piece beside the four blobs and books.
-/
import Derived.Test.YtdcjhjpbkpiddaaStMake
namespace Go.Proofs.Ytdcjhjpbkpiddaa.St
open Go.ChangeShapes Go.WideShapes Go.ChangeAt Go.RowKit
open Go.Proofs.Ytdcjhjpbkpiddaa.Base
set_option linter.unusedVariables false
/-- The block g is a piece. -/
def PB (w : World) (g : Nat) (wh : Int) (d : Value) (stp : Bool) (att : Int) (pb : Bool) : Prop := w.heap[g]? = some (.cells #[.int .i64 wh, d, .bool stp, .int .i64 att, .bool pb] 33)
theorem PB.cells {w : World} {g : Nat} {wh att : Int} {d : Value} {stp pb : Bool} (h : PB w g wh d stp att pb) : w.cell? ⟨g, 0, none⟩ = some (.int .i64 wh) ∧ w.cell? ⟨g, 1, none⟩ = some d ∧ w.cell? ⟨g, 2, none⟩ = some (.bool stp) ∧ w.cell? ⟨g, 3, none⟩ = some (.int .i64 att) ∧ w.cell? ⟨g, 4, none⟩ = some (.bool pb) := by
  refine ⟨?_, ?_, ?_, ?_, ?_⟩ <;> (rw [cell_of_row _ _ _ _ _ _ h]; rfl)
theorem PB.frozen {w : World} {g : Nat} {wh att : Int} {d : Value} {stp pb : Bool} (h : PB w g wh d stp att pb) (k : Nat) : w.frozen? ⟨g, k, none⟩ = false := frozen_of_row _ _ _ _ _ h
theorem PB.set {w : World} {g : Nat} {wh att : Int} {d : Value} {stp pb : Bool} (h : PB w g wh d stp att pb) (v : Value) : PB (w.setCell ⟨g, 1, none⟩ v) g wh v stp att pb := by
  unfold PB; rw [heap_setCell_same _ _ _ _ _ _ h]; rfl
theorem rem_four (x : Int) : ∃ k : Nat, k < 4 ∧ ((¬ Int.tmod x 4 < 0 ∧ Int.tmod x 4 = (k : Int)) ∨ (Int.tmod x 4 < 0 ∧ Int.tmod x 4 = (k : Int) - 4)) := by
  have h1 : Int.tmod x 4 < 4 := Int.tmod_lt_of_pos x (by omega)
  have h2 : -4 < Int.tmod x 4 := by
    rcases Int.le_total 0 x with h | h
    · have := Int.tmod_nonneg 4 h; omega
    · have := Int.tmod_lt_of_pos (-x) (show (0 : Int) < 4 by omega)
      rw [Int.neg_tmod] at this
      omega
  by_cases h : Int.tmod x 4 < 0
  · exact ⟨(Int.tmod x 4 + 4).toNat, by omega, .inr ⟨h, by omega⟩⟩
  · exact ⟨(Int.tmod x 4).toNat, by omega, .inl ⟨h, by omega⟩⟩
/-- The piece and the blobs. -/
structure Rs (w0 w : World) (s bm lb base : Nat) (D : DataW Unit) (bl : Nat → Nat) (u : Nat → Value) (X Y : Nat → Bk) (g : Nat) (wh : Int) (d : Value) (stp : Bool) (att : Int) (pb : Bool) : Prop where
  inv : Inv w s bm lb base D bl u X Y
  pb : PB w g wh d stp att pb
  gb : base ≤ g
  gl : g < w.heap.size
  far : ∀ j, j < 8 → (u j).ownBlock ≠ some g
  bel : Below w0.heap.size w0 w
section
variable {w0 w w' : World} {s bm lb base : Nat} {D : DataW Unit} {bl : Nat → Nat} {u u' : Nat → Value} {X Y X' Y' : Nat → Bk} {g : Nat} {wh : Int} {d : Value} {stp : Bool} {att : Int} {pb : Bool}
theorem Rs.next (h : Rs w0 w s bm lb base D bl u X Y g wh d stp att pb) (hi : Inv w' s bm lb base D bl u' X' Y') (hb : Below w0.heap.size w w') (hf : Far w w' base u u') : Rs w0 w' s bm lb base D bl u' X' Y' g wh d stp att pb := by
  obtain ⟨h1, h2⟩ := hf g h.gb h.gl h.far
  refine ⟨hi, ?_, h.gb, Nat.lt_of_lt_of_le h.gl hb.size, h2, ⟨hb.os.trans h.bel.os, hb.tape.trans h.bel.tape, hb.output.trans h.bel.output, Nat.le_trans h.bel.size hb.size, fun i hi => (hb.block i hi).trans (h.bel.block i hi)⟩⟩
  have := h.pb
  unfold PB at this ⊢
  rw [h1]; exact this
theorem Rs.below (h : Rs w0 w s bm lb base D bl u X Y g wh d stp att pb) (hb : Below w.heap.size w w') : Rs w0 w' s bm lb base D bl u X Y g wh d stp att pb := by
  refine ⟨h.inv.below hb, ?_, h.gb, Nat.lt_of_lt_of_le h.gl hb.size, h.far, below_trans h.bel hb⟩
  have := h.pb
  unfold PB at this ⊢
  rw [hb.block g h.gl]; exact this
theorem Rs.append (f : Fix w0.heap.size s bm lb base D bl) (h : Rs w0 w s bm lb base D bl u X Y g wh d stp att pb) (k : Nat) (hk : k < 4) (ma : Option Addr) (ml mc : Nat) (bs : List (BitVec 8))
    (hr : Rd w0 ma ml bs) (hrl : 0 < ml → ∀ ad, ma = some ad → ad.block < w0.heap.size) (hnil : ma = none → ml = 0 ∧ mc = 0) (hmc : ml ≤ mc) (hl : (X k).xs.length + ml ≤ 268435456) :
    Calls Try.prog 10 #[.pointer (some ⟨s, 0, none⟩), .string (nameOf k), .slice ma ml mc] w fun e w' => e = .returned (.int .i64 (appE (X k) bs)) ∧ ∃ u', Rs w0 w' s bm lb base D bl u' (updX X k (appX (X k) bs)) Y g wh d stp att pb := by
  refine (inv_append f h.inv k hk ma ml mc bs (hr.below h.bel) hrl hnil hmc hl).mono ?_
  rintro e w' ⟨r, rfl, rfl, hb, v, hi, hf⟩
  exact ⟨rfl, _, h.next hi hb hf⟩
theorem Rs.wants (f : Fix w0.heap.size s bm lb base D bl) (h : Rs w0 w s bm lb base D bl u X Y g wh d stp att pb) (k : Nat) (hk : k < 4) (hy : (Y k).ok) (ma : Option Addr) (ml mc : Nat) (bs : List (BitVec 8)) (hr : Rd w0 ma ml bs) (hnil : ma = none → ml = 0 ∧ mc = 0) (hmc : ml ≤ mc) (hl : (Y k).xs.length + ml ≤ 268435456) :
    Calls Try.prog 11 #[.pointer (some ⟨lb, k * 5, none⟩), .slice ma ml mc] w fun e w' => e = .returned (.int .i64 (appE (Y k) bs)) ∧ ∃ u', Rs w0 w' s bm lb base D bl u' X (updX Y k (appX (Y k) bs)) g wh d stp att pb := by
  refine (inv_wants f h.inv k hk hy ma ml mc bs (hr.below h.bel) hnil hmc hl).mono ?_
  rintro e w' ⟨rfl, hb, v, hi, hf⟩
  exact ⟨rfl, _, h.next hi hb hf⟩
theorem Rs.stop (f : Fix w0.heap.size s bm lb base D bl) (h : Rs w0 w s bm lb base D bl u X Y g wh d stp att pb) (k : Nat) (hk : k < 4) (m : Int) :
    Calls Try.prog 9 #[.pointer (some ⟨s, 0, none⟩), .string (nameOf k), .int .i64 m] w fun e w' => e = .returned (.int .i64 (closedOf (X k).st (X k).sd)) ∧ Rs w0 w' s bm lb base D bl u (updX X k (stopX (X k) m)) Y g wh d stp att pb := by
  refine (inv_stop f h.inv k hk m).mono ?_
  rintro e w' ⟨r, rfl, rfl, hb, hi, hf⟩
  exact ⟨rfl, h.next hi hb hf⟩
theorem Rs.publish (f : Fix w0.heap.size s bm lb base D bl) (h : Rs w0 w s bm lb base D bl u X Y g wh d stp att pb) (k : Nat) (hk : k < 4) :
    Calls Try.prog 12 #[.pointer (some ⟨s, 0, none⟩), .string (nameOf k)] w fun e w' => e = .returned (.int .i64 (pubE (X k))) ∧ Rs w0 w' s bm lb base D bl u (updX X k (pubX (X k))) Y g wh d stp att pb := by
  refine (inv_publish f h.inv k hk).mono ?_
  rintro e w' ⟨r, rfl, rfl, hb, hi, hf⟩
  exact ⟨rfl, h.next hi hb hf⟩
end
end Go.Proofs.Ytdcjhjpbkpiddaa.St
