/-
  The end of a merge.
-/
import Derived.Test.YtcnfkgmefikcjaaMeDue
import Derived.Deep.MidRow
namespace Go.Proofs.Ytcnfkgmefikcjaa.Me
open Go.ChangeShapes Go.WideShapes Go.ChangeAt Go.RowKit
open Go.Proofs.Ytcnfkgmefikcjaa.Base
set_option linter.unusedVariables false
/-- A merge that is over. -/
def OV (w : World) (gm : Nat) (er : Int) : Prop := gm < w.heap.size ∧ w.cell? ⟨gm, 67, none⟩ = some (.bool true) ∧ w.cell? ⟨gm, 68, none⟩ = some (.int .i64 er)
theorem setCells_grown (g : Nat) : ∀ (vs : List Value) (w : World) (k : Nat), w.grownBy (w.setCells g k vs) (some g)
  | [], w, k => World.grownBy.refl _ _
  | v :: r, w, k => grown_trans (grown_cell (World.grownBy.refl _ _) k v) (setCells_grown g r _ (k + 1))
def zm : Array Value := #[.nilFunc, .slice none 0 0] ++ (List.replicate 64 (Value.int .i64 0)).toArray ++ #[.bool false, .bool false, .int .i64 0]
theorem zm_run : ∀ W : World, (zeroValue 55).run Try.prog W = .ok (.agg Me.zm) W := fun W => by kernel_rfl
theorem zm_size : Me.zm.size = 69 := by kernel_rfl
theorem zm_ne : ¬ Me.zm = #[] := fun h => by
  have q := zm_size
  rw [h] at q
  cases q
theorem zero_len : Me.zm.toList.length = 69 := by kernel_rfl
set_option maxHeartbeats 4000000 in
set_option maxRecDepth 100000 in
theorem end_any (gm gs n : Nat) (bg ov : Bool) (er : Int) (F : Nat → Sc) (pl : Nat → Nat) (e : Int) (w : World) (hM : MS w gm gs n pl bg ov er F) :
    Calls Try.prog 17 #[.pointer (some ⟨gm, 0, none⟩), .int .i64 e] w fun x w' => x = .returned (.tuple #[]) ∧ OV w' gm e ∧ w.grownBy w' (some gm) := by
  have HM := hide hM
  clear hM
  have hzv := zm_run
  have hzn := zm_ne
  go_enter Try.func17, Try.ntmps17
  have HTH : Hid (w.there gm 0 69) := fun j hj => by
    obtain ⟨cur, h0, h1, _⟩ := HM.out.m
    rw [Nat.zero_add]
    refine ⟨?_, frozen_of_row _ _ _ _ _ h0⟩
    rw [cell_of_row _ _ _ _ _ _ h0, Array.getElem?_eq_getElem (by omega)]
    rfl
  go_wp2_with (refine wpList_store_mid rfl 55 (.tmp 7) (.tmp 6) rfl gm 0 _ rfl rfl HTH.out (by kernel_rfl) (by kernel_rfl) ?_)
  go_end0
  have hl : ((Me.zm.toList.set 67 (Value.bool true)).set 68 (Value.int .i64 e)).length = 69 := by rw [List.length_set, List.length_set, zero_len]
  have hr := World.rangeAt_setCells_same w gm 0 ((Me.zm.toList.set 67 (Value.bool true)).set 68 (Value.int .i64 e)) (by rw [hl]; exact HTH.out)
  have hg := setCells_grown gm ((Me.zm.toList.set 67 (Value.bool true)).set 68 (Value.int .i64 e)) w 0
  refine ⟨rfl, ⟨Nat.lt_of_lt_of_le HM.out.m.lt hg.size, ?_, ?_⟩, hg⟩
  · have h1 := hr 67 (.bool true) (by rw [List.getElem?_set, if_neg (by omega), List.getElem?_set, if_pos rfl, if_pos (by rw [zero_len]; omega)])
    exact h1
  · have h1 := hr 68 (.int .i64 e) (by rw [List.getElem?_set, if_pos rfl, if_pos (by rw [List.length_set, zero_len]; omega)])
    exact h1
end Go.Proofs.Ytcnfkgmefikcjaa.Me
