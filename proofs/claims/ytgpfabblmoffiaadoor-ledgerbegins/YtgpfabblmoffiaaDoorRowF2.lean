/-
  Lists as make lays them.
-/
import Derived.Test.YtgpfabblmoffiaaDoorRowF
import Derived.Laws.MakeOwn
namespace Go.Proofs.YtgpfabblmoffiaaDoor.Rf
open Go.ChangeShapes Go.WideShapes Go.ChangeAt Go.RowKit
open Go.Proofs.YtgpfabblmoffiaaDoor.Base
set_option linter.unusedVariables false
theorem make_f {ts t z by_ : Nat} {zv : Value} (hts : Tryd.prog.underlying ts = some (.slice t)) (hin : (Tryd.prog.info? t).map (fun i => (i.zero, i.size, i.bytes)) = some (some zv, z, by_)) (hz : zv.cells.size = z) (hz0 : 0 < z) (l c : Nat) (hlc : l ≤ c) (hb : by_ * c ≤ 281474976710656) (hc : c ≤ 9223372036854775807) :
    ∃ M : Array Value, M.size = c * z ∧ (∀ k, k < c * z → M[k]? = zv.cells[k % z]?) ∧ ∀ (x y : Int), x = (l : Int) → y = (c : Int) → ∀ W, (Instr.makeSlice ts (.int .i64 x) (.int .i64 y)).run Tryd.prog W = .ok (.slice (some ⟨W.heap.size, 0, none⟩) l c) (W.alloc (.cells M t)) := by
  obtain ⟨i, hi, h1, h2, h3⟩ := info_parts hin
  refine ⟨madeCells zv.cells (c * z), size_madeCells _ _, fun k hk => ?_, ?_⟩
  · unfold madeCells
    rw [Array.getElem?_map, Array.getElem?_range, if_pos hk]
    have hm : k % z < zv.cells.size := by rw [hz]; exact Nat.mod_lt _ hz0
    simp only [Option.map_some, hz]
    rw [getElem!_pos zv.cells (k % z) hm, Array.getElem?_eq_getElem hm]
  · rintro x y rfl rfl W
    have := run_make (P := Tryd.prog) W ts t i zv hts hi h1 .i64 .i64 (l : Int) (c : Int) (by omega) (by omega) (by rw [h3, ← Int.natCast_mul]; exact Int.ofNat_le.2 hb) (by omega)
    rw [this, h2]
    rfl
theorem ownf_made {t z : Nat} {zv : Value} (hz : zv.cells.size = z) (hz0 : 0 < z) (l c : Nat) (hlc : l ≤ c) (hc : c ≤ maxLen) (M : Array Value) (hM : M.size = c * z) (hk : ∀ k, k < c * z → M[k]? = zv.cells[k % z]?) (W : World) (base : Nat) (hb : base ≤ W.heap.size) :
    OwnF (W.alloc (.cells M t)) base t z (.slice (some ⟨W.heap.size, 0, none⟩) l c) l (fun _ => zv.cells.toList) := by
  have hf : ∀ k : Nat, ((fun _ => zv.cells.toList) k : List Value).length = z := fun k => by simp [hz]
  refine ⟨fcells_len hf l, .inr ⟨W.heap.size, c, M, rfl, hb, World.alloc_heap_new W _, hlc, hc, hM, ?_⟩⟩
  have hlz : l * z ≤ c * z := Nat.mul_le_mul_right z hlc
  apply List.ext_getElem?
  intro i
  by_cases h : i < l * z
  · have hi : i = i / z * z + i % z := by rw [Nat.mul_comm]; exact (Nat.div_add_mod i z).symm
    have h1 : i / z < l := Nat.div_lt_of_lt_mul (by rw [Nat.mul_comm]; exact h)
    rw [List.getElem?_take_of_lt h, Array.getElem?_toList, hk i (by omega)]
    have := fcells_get hf l (i / z) (i % z) h1 (Nat.mod_lt _ hz0)
    rw [← hi] at this
    rw [this]
    simp
  · rw [List.getElem?_take_eq_none (by omega), List.getElem?_eq_none (by rw [fcells_len hf]; omega)]
end Go.Proofs.YtgpfabblmoffiaaDoor.Rf
