/-
  A block's builder in memory; New, Len, Size, atRestart.
-/
import Derived.Test.YthdblnfohbldcaaGreatBlEnt
import Derived.Test.YthdblnfohbldcaaGreatIBase2
namespace Go.Proofs.YthdblnfohbldcaaGreat.Bl
open Go.ChangeShapes Go.WideShapes Go.ChangeAt Go.RowKit
open Go.Proofs.YthdblnfohbldcaaGreat.Base Go.Proofs.YthdblnfohbldcaaGreat.Nums
set_option linter.unusedVariables false
/-- A builder stands at q. -/
def BB (w : World) (q : Nat) (r m : Int) (ev pv : Value) (n : Int) (last : ByteArray) : Prop := w.heap[q]? = some (.cells #[.int .i64 r, .int .i64 m, ev, pv, .int .i64 n, .string last] 108)
/-- Its six cells. -/
def C6 (w : World) (q : Nat) (r m : Int) (ev pv : Value) (n : Int) (last : ByteArray) : Prop := w.cell? ⟨q, 0, none⟩ = some (.int .i64 r) ∧ w.cell? ⟨q, 1, none⟩ = some (.int .i64 m) ∧ w.cell? ⟨q, 2, none⟩ = some ev ∧ w.cell? ⟨q, 3, none⟩ = some pv ∧ w.cell? ⟨q, 4, none⟩ = some (.int .i64 n) ∧ w.cell? ⟨q, 5, none⟩ = some (.string last)
theorem BB.cells {w : World} {q : Nat} {r m : Int} {ev pv : Value} {n : Int} {last : ByteArray} (h : BB w q r m ev pv n last) : C6 w q r m ev pv n last := by
  unfold C6
  refine ⟨?_, ?_, ?_, ?_, ?_, ?_⟩ <;> (rw [cell_of_row _ _ _ _ _ _ h]; rfl)
theorem BB.fz {w : World} {q : Nat} {r m : Int} {ev pv : Value} {n : Int} {last : ByteArray} (h : BB w q r m ev pv n last) (k : Nat) : w.frozen? ⟨q, k, none⟩ = false := frozen_of_row _ _ _ _ _ h
theorem BB.lt {w : World} {q : Nat} {r m : Int} {ev pv : Value} {n : Int} {last : ByteArray} (h : BB w q r m ev pv n last) : q < w.heap.size := (Array.getElem?_eq_some_iff.1 h).1
theorem BB.same {w w' : World} {q : Nat} {r m : Int} {ev pv : Value} {n : Int} {last : ByteArray} (h : BB w q r m ev pv n last) (e : w'.heap[q]? = w.heap[q]?) : BB w' q r m ev pv n last := by
  unfold BB at h ⊢; rw [e]; exact h
theorem BB.below {w w' : World} {q : Nat} {r m : Int} {ev pv : Value} {n : Int} {last : ByteArray} (h : BB w q r m ev pv n last) (hb : Below w.heap.size w w') : BB w' q r m ev pv n last := h.same (hb.block q h.lt)
theorem BB.grown {w w' : World} {q : Nat} {r m : Int} {ev pv : Value} {n : Int} {last : ByteArray} {o : Option Nat} (h : BB w q r m ev pv n last) (hb : w.grownBy w' o) (hne : o ≠ some q) : BB w' q r m ev pv n last := h.same (hb.block q h.lt (fun e => hne e.symm))
theorem BB.set2 {w : World} {q : Nat} {r m : Int} {ev pv : Value} {n : Int} {last : ByteArray} (h : BB w q r m ev pv n last) (v : Value) : BB (w.setCell ⟨q, 2, none⟩ v) q r m v pv n last := by
  unfold BB; rw [heap_setCell_same _ _ _ _ _ _ h]; rfl
theorem BB.set3 {w : World} {q : Nat} {r m : Int} {ev pv : Value} {n : Int} {last : ByteArray} (h : BB w q r m ev pv n last) (v : Value) : BB (w.setCell ⟨q, 3, none⟩ v) q r m ev v n last := by
  unfold BB; rw [heap_setCell_same _ _ _ _ _ _ h]; rfl
theorem BB.set4 {w : World} {q : Nat} {r m : Int} {ev pv : Value} {n : Int} {last : ByteArray} (h : BB w q r m ev pv n last) (n' : Int) : BB (w.setCell ⟨q, 4, none⟩ (.int .i64 n')) q r m ev pv n' last := by
  unfold BB; rw [heap_setCell_same _ _ _ _ _ _ h]; rfl
theorem BB.set5 {w : World} {q : Nat} {r m : Int} {ev pv : Value} {n : Int} {last : ByteArray} (h : BB w q r m ev pv n last) (s : ByteArray) : BB (w.setCell ⟨q, 5, none⟩ (.string s)) q r m ev pv n s := by
  unfold BB; rw [heap_setCell_same _ _ _ _ _ _ h]; rfl
/-- Len. -/
theorem blen_any (q : Nat) (r m : Int) (ev pv : Value) (n : Int) (last : ByteArray) (w : World) (h : BB w q r m ev pv n last) :
    Calls Tryz.prog 31 #[.pointer (some ⟨q, 0, none⟩)] w fun e w' => e = .returned (.int .i64 n) ∧ w' = w := by
  obtain ⟨c0, c1, c2, c3, c4, c5⟩ := h.cells
  clear h
  go_enter Tryz.func31, Tryz.ntmps31
  go_wp2_with fail
  go_ret
  exact ⟨rfl, rfl⟩
/-- How many raw bytes there would be. -/
def sizeB (el pl n : Nat) : Nat := if n = 0 then 0 else el + 4 * pl + 8
set_option maxHeartbeats 1000000 in
/-- Size. -/
theorem bsize_any (q : Nat) (r m : Int) (ea pa : Option Addr) (el ec pl pc n : Nat) (last : ByteArray) (w : World) (h : BB w q r m (.slice ea el ec) (.slice pa pl pc) (n : Int) last) (h1 : el ≤ 140737488355328) (h2 : pl ≤ 140737488355328) (h3 : n ≤ 140737488355328) :
    Calls Tryz.prog 22 #[.pointer (some ⟨q, 0, none⟩)] w fun e w' => e = .returned (.int .i64 (sizeB el pl n : Nat)) ∧ ∃ k, w' = w.drewN k := by
  have HC := hide h.cells
  obtain ⟨c0, c1, c2, c3, c4, c5⟩ := h.cells
  clear h
  go_enter Tryz.func22, Tryz.ntmps22
  by_cases hn : n = 0
  · subst hn
    go_wp2_with fail
    try go_quiet (fail)
    go_wp2_with fail
    go_ret
    exact ⟨rfl, 0, rfl⟩
  · have hnz : ((n : Int) == 0) = false := by simpa using hn
    go_wp2_with fail
    try go_quiet (fail)
    go_wp2_with fail
    go_ret
    exact ⟨ret_int (by unfold sizeB; rw [if_neg hn]; omega), _, rfl⟩
/-- Whether the next entry is a restart. -/
theorem bat_any (q : Nat) (r m : Int) (ev : Value) (pa : Option Addr) (pl pc n : Nat) (last : ByteArray) (w : World) (h : BB w q r m ev (.slice pa pl pc) (n : Int) last) (h2 : pl ≤ 1048576) (h3 : 1 ≤ r) (h4 : r ≤ 64) :
    Calls Tryz.prog 60 #[.pointer (some ⟨q, 0, none⟩)] w fun e w' => e = .returned (.bool ((n : Int) == (pl : Int) * r)) ∧ Below w.heap.size w w' := by
  obtain ⟨c0, c1, c2, c3, c4, c5⟩ := h.cells
  clear h
  have hp : 0 ≤ (pl : Int) * r ∧ (pl : Int) * r ≤ 67108864 := by
    refine ⟨Int.mul_nonneg (by omega) (by omega), ?_⟩
    calc (pl : Int) * r ≤ 1048576 * r := Int.mul_le_mul_of_nonneg_right (by omega) (by omega)
      _ ≤ 1048576 * 64 := Int.mul_le_mul_of_nonneg_left h4 (by omega)
      _ = 67108864 := by rfl
  have hw : IntKind.i64.wrap ((pl : Int) * r) = (pl : Int) * r := by rw [IntKind.wrap_i64]; omega
  go_enter Tryz.func60, Tryz.ntmps60
  go_wp2_with fail
  try go_quiet (fail)
  all_goals
    go_wp2_with fail
    go_ret
    exact ⟨rfl, below_drewN' _ _ _⟩
end Go.Proofs.YthdblnfohbldcaaGreat.Bl
