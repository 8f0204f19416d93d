/-
  The table, new: its cells are zeros.
-/
import Derived.Test.YthdblnfohbldcaaGreatLzE2
namespace Go.Proofs.YthdblnfohbldcaaGreat.Lz
open Go.ChangeShapes Go.WideShapes Go.ChangeAt Go.RowKit
open Go.Proofs.YthdblnfohbldcaaGreat.Base Go.Proofs.YthdblnfohbldcaaGreat.Nums
set_option linter.unusedVariables false
def isZ (v : Value) : Bool := match v with | .int .u16 n => n == 0 | _ => false
theorem isZ_eq (v : Value) (h : isZ v = true) : v = .int .u16 0 := by
  unfold isZ at h
  split at h
  · simp at h; rw [h]
  · cases h
theorem rep_eq (l : List Value) : ∀ n, (List.rec (motive := fun _ => Nat → Bool) (fun n => n.beq 0) (fun v _ ih n => Nat.casesOn (motive := fun _ => Bool) n false (fun m => Bool.rec (motive := fun _ => Bool) false (ih m) (isZ v))) l : Nat → Bool) n = true → l = List.replicate n (.int .u16 0) := by
  induction l with
  | nil =>
    intro n h
    cases n with
    | zero => rfl
    | succ n => cases h
  | cons v l ih =>
    intro n h
    cases n with
    | zero => cases h
    | succ n =>
      have h1 : Bool.rec (motive := fun _ => Bool) false ((List.rec (motive := fun _ => Nat → Bool) (fun n => n.beq 0) (fun v _ ih n => Nat.casesOn (motive := fun _ => Bool) n false (fun m => Bool.rec (motive := fun _ => Bool) false (ih m) (isZ v))) l : Nat → Bool) n) (isZ v) = true := h
      cases hz : isZ v with
      | false => rw [hz] at h1; cases h1
      | true =>
        rw [hz] at h1
        rw [isZ_eq v hz, ih n h1, List.replicate_succ]
theorem z_check : (match Tryz.t93.zero with | some (.agg cs) => (List.rec (motive := fun _ => Nat → Bool) (fun n => n.beq 0) (fun v _ ih n => Nat.casesOn (motive := fun _ => Bool) n false (fun m => Bool.rec (motive := fun _ => Bool) false (ih m) (isZ v))) cs.toList : Nat → Bool) 49152 | _ => false) = true := by kernel_rfl
theorem z_info : Tryz.prog.info? 93 = some Tryz.t93 := by kernel_rfl
theorem z_cells : ∃ cs : Array Value, Tryz.t93.zero = some (.agg cs) ∧ cs.toList = List.replicate 49152 (.int .u16 0) := by
  have h := z_check
  split at h
  · rename_i cs e; exact ⟨cs, e, rep_eq _ _ h⟩
  · cases h
theorem zero_places : ∃ cs : Array Value, (∀ W, (zeroValue 93).run Tryz.prog W = .ok (.agg cs) W) ∧ Hid (cs.toList = List.replicate 49152 (.int .u16 0)) := by
  obtain ⟨cs, h1, h2⟩ := z_cells
  refine ⟨cs, fun W => ?_, h2⟩
  simp [zeroValue, typeInfo, z_info, h1]
theorem tbl_new (w : World) (cs : Array Value) (x : Txt) (h : cs.toList = List.replicate 49152 (.int .u16 0)) : Tbl (w.alloc (.cells cs 93)) w.heap.size x 0 := by
  have hg : ∀ k, k < 49152 → cs[k]? = some (.int .u16 0) := by
    intro k hk
    rw [← Array.getElem?_toList, h, List.getElem?_replicate, if_pos hk]
  refine ⟨cs, heap_alloc_new _ _, by rw [← Array.length_toList, h, List.length_replicate], fun s hs => ?_, fun k hk => ⟨0, hg _ (by omega), fun j hj => by omega⟩⟩
  exact hg s (by omega)
end Go.Proofs.YthdblnfohbldcaaGreat.Lz
