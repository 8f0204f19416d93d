/-
  A reader in memory; Len, groups; a new walker.
-/
import Derived.Test.YthdblnfohbldcaaGreatBlStep
import Derived.Test.YthdblnfohbldcaaGreatFaCur
namespace Go.Proofs.YthdblnfohbldcaaGreat.Bl
open Go.ChangeShapes Go.WideShapes Go.ChangeAt Go.RowKit
open Go.Proofs.YthdblnfohbldcaaGreat.Base Go.Proofs.YthdblnfohbldcaaGreat.Nums Go.Proofs.YthdblnfohbldcaaGreat.Curs
set_option linter.unusedVariables false
/-- A reader stands at q. -/
def RR (w : World) (q : Nat) (ev pv : Value) (r n : Int) : Prop := w.heap[q]? = some (.cells #[ev, pv, .int .i64 r, .int .i64 n] 106)
theorem RR.cells {w : World} {q : Nat} {ev pv : Value} {r n : Int} (h : RR w q ev pv r n) : w.cell? ⟨q, 0, none⟩ = some ev ∧ w.cell? ⟨q, 1, none⟩ = some pv ∧ w.cell? ⟨q, 2, none⟩ = some (.int .i64 r) ∧ w.cell? ⟨q, 3, none⟩ = some (.int .i64 n) := by
  refine ⟨?_, ?_, ?_, ?_⟩ <;> (rw [cell_of_row _ _ _ _ _ _ h]; rfl)
theorem RR.fz {w : World} {q : Nat} {ev pv : Value} {r n : Int} (h : RR w q ev pv r n) (k : Nat) : w.frozen? ⟨q, k, none⟩ = false := frozen_of_row _ _ _ _ _ h
theorem RR.lt {w : World} {q : Nat} {ev pv : Value} {r n : Int} (h : RR w q ev pv r n) : q < w.heap.size := (Array.getElem?_eq_some_iff.1 h).1
theorem RR.below {w w' : World} {q : Nat} {ev pv : Value} {r n : Int} (h : RR w q ev pv r n) (hb : Below w.heap.size w w') : RR w' q ev pv r n := (hb.block q h.lt).trans h
theorem RR.grown {w w' : World} {q : Nat} {ev pv : Value} {r n : Int} {o : Option Nat} (h : RR w q ev pv r n) (hb : w.grownBy w' o) (hne : o ≠ some q) : RR w' q ev pv r n := (hb.block q h.lt (fun e => hne e.symm)).trans h
theorem RR.set0 {w : World} {q : Nat} {ev pv : Value} {r n : Int} (h : RR w q ev pv r n) (v : Value) : RR (w.setCell ⟨q, 0, none⟩ v) q v pv r n := by
  unfold RR; rw [heap_setCell_same _ _ _ _ _ _ h]; rfl
theorem RR.set1 {w : World} {q : Nat} {ev pv : Value} {r n : Int} (h : RR w q ev pv r n) (v : Value) : RR (w.setCell ⟨q, 1, none⟩ v) q ev v r n := by
  unfold RR; rw [heap_setCell_same _ _ _ _ _ _ h]; rfl
set_option maxRecDepth 100000 in
theorem rlen_any (q : Nat) (ev pv : Value) (r n : Int) (w : World) (h : RR w q ev pv r n) :
    Calls Tryz.prog 17 #[.pointer (some ⟨q, 0, none⟩)] w fun e w' => e = .returned (.int .i64 n) ∧ w' = w := by
  obtain ⟨c0, c1, c2, c3⟩ := h.cells
  clear h
  go_enter Tryz.func17, Tryz.ntmps17
  go_wp2_with fail
  go_ret
  exact ⟨rfl, rfl⟩
set_option maxRecDepth 100000 in
theorem rlen_nil (w : World) : Calls Tryz.prog 17 #[.pointer none] w fun e w' => e = .returned (.int .i64 0) ∧ w' = w := by
  go_enter Tryz.func17, Tryz.ntmps17
  go_wp2_with fail
  go_ret
  exact ⟨rfl, rfl⟩
set_option maxRecDepth 100000 in
theorem groups_any (q : Nat) (ev : Value) (pa : Option Addr) (pl pc : Nat) (r n : Int) (w : World) (h : RR w q ev (.slice pa (pl + 1) pc) r n) (hl : pl ≤ 1048576) :
    Calls Tryz.prog 87 #[.pointer (some ⟨q, 0, none⟩)] w fun e w' => e = .returned (.int .i64 (pl : Nat)) ∧ w' = w := by
  obtain ⟨c0, c1, c2, c3⟩ := h.cells
  clear h
  go_enter Tryz.func87, Tryz.ntmps87
  go_wp2_with fail
  go_ret
  exact ⟨ret_int (by first | rfl | omega), rfl⟩
/-- A walker stands at k: its cursor, the key read last. -/
def WK (w : World) (k g : Nat) (key : ByteArray) : Prop := w.heap[k]? = some (.cells #[.pointer (some ⟨g, 0, none⟩), .string key] 143)
theorem WK.cells {w : World} {k g : Nat} {key : ByteArray} (h : WK w k g key) : w.cell? ⟨k, 0, none⟩ = some (.pointer (some ⟨g, 0, none⟩)) ∧ w.cell? ⟨k, 1, none⟩ = some (.string key) := by
  refine ⟨?_, ?_⟩ <;> (rw [cell_of_row _ _ _ _ _ _ h]; rfl)
theorem WK.fz {w : World} {k g : Nat} {key : ByteArray} (h : WK w k g key) (j : Nat) : w.frozen? ⟨k, j, none⟩ = false := frozen_of_row _ _ _ _ _ h
theorem WK.lt {w : World} {k g : Nat} {key : ByteArray} (h : WK w k g key) : k < w.heap.size := (Array.getElem?_eq_some_iff.1 h).1
theorem WK.below {w w' : World} {k g : Nat} {key : ByteArray} (h : WK w k g key) (hb : Below w.heap.size w w') : WK w' k g key := (hb.block k h.lt).trans h
theorem WK.grown {w w' : World} {k g : Nat} {key : ByteArray} {o : Option Nat} (h : WK w k g key) (hb : w.grownBy w' o) (hne : o ≠ some k) : WK w' k g key := (hb.block k h.lt (fun e => hne e.symm)).trans h
theorem WK.set1 {w : World} {k g : Nat} {key : ByteArray} (h : WK w k g key) (s : ByteArray) : WK (w.setCell ⟨k, 1, none⟩ (.string s)) k g s := by
  unfold WK; rw [heap_setCell_same _ _ _ _ _ _ h]; rfl
set_option maxRecDepth 100000 in
theorem newW_any (a : Option Addr) (n c : Nat) (L : List (BitVec 8)) (w : World) (HN : Hid (Calls Tryz.prog 83 #[.slice a n c] w fun e w' => ∃ g, e = .returned (.pointer (some ⟨g, 0, none⟩)) ∧ w.heap.size ≤ g ∧ Cur w' g L 0 ∧ Below w.heap.size w w')) :
    Calls Tryz.prog 101 #[.slice a n c] w fun e w' => ∃ k g, e = .returned (.pointer (some ⟨k, 0, none⟩)) ∧ WK w' k g ⟨#[]⟩ ∧ w.heap.size ≤ g ∧ g < k ∧ Fa.Cst w' g (some L) ∧ Below w.heap.size w w' := by
  go_enter Tryz.func101, Tryz.ntmps101
  go_wp2_with (go_at_call 83; refine HN.out.mono ?_; rintro e w1 ⟨g, rfl, hg, hc, hb⟩; have HG := hide hg; have HC : Hid (Fa.Cst w1 g (some L)) := ⟨0, hc⟩; have HB := hide hb; clear hg hc hb)
  go_ret
  have hb1 : Below w1.heap.size w1 (w1.alloc (.cells #[.pointer (some ⟨g, 0, none⟩), .string ⟨#[]⟩] 143)) := (Below.refl _ _).alloc (Nat.le_refl _) _
  exact ⟨w1.heap.size, g, rfl, heap_alloc_new _ _, HG.out, HC.out.lt, HC.out.below hb1, below_trans HB.out hb1⟩
end Go.Proofs.YthdblnfohbldcaaGreat.Bl
