/-
  Join, at any two filters.
-/
import Derived.Test.YtmndjgmlndpgaaaDoorFiUnion
import Derived.Deep.RegionHeld
namespace Go.Proofs.YtmndjgmlndpgaaaDoor.Filt
open Go.ChangeShapes Go.WideShapes Go.ChangeAt Go.RowKit
open Go.Proofs.YtmndjgmlndpgaaaDoor.Base
set_option linter.unusedVariables false
def jcells : List Value := [.int .i64 0, .int .i64 1, .int .i64 1, .int .i64 0, .int .i64 0, .int .i64 0, .int .i64 0, .int .i64 1, .int .i64 2]
/-- The table of joinings lies in the variable's cells. -/
def JAt (w : World) : Prop := 0 < w.heap.size ∧ ∀ i, i < 9 → w.cell? ⟨0, i, none⟩ = jcells[i]?
theorem jat_below {w w' : World} (h : JAt w) (hb : Below w.heap.size w w') : JAt w' :=
  ⟨Nat.lt_of_lt_of_le h.1 hb.size, fun i hi => by rw [hb.cell (p := ⟨0, i, none⟩) h.1]; exact h.2 i hi⟩
/-- A filter in words. -/
structure Fw where
  all : Bool
  hashes : Int
  data : List (BitVec 8)
def Fw.kind (f : Fw) : Int := kindN f.all f.hashes f.data.length
def zeroF : Fw := ⟨false, 0, []⟩
/-- What Join answers. -/
def joined (a b : Fw) : Fw × Int :=
  if a.kind = 3 ∨ b.kind = 3 then (zeroF, 70)
  else if a.kind = 1 ∨ b.kind = 1 then (⟨true, 0, []⟩, 0)
  else if a.kind = 0 then (b, 0)
  else if b.kind = 0 then (a, 0)
  else if a.hashes ≠ b.hashes ∨ a.data.length ≠ b.data.length then (zeroF, 3)
  else (⟨false, a.hashes, orZip a.data b.data⟩, 0)
theorem kind_range (A : Bool) (H : Int) (n : Nat) : kindN A H n = 0 ∧ (A = false ∧ H = 0 ∧ n = 0) ∨ kindN A H n = 1 ∧ (A = true ∧ H = 0 ∧ n = 0) ∨ kindN A H n = 2 ∧ (A = false ∧ 1 ≤ H ∧ H ≤ 8 ∧ 1 ≤ n ∧ n ≤ 4096) ∨ kindN A H n = 3 := by
  unfold kindN
  by_cases h0 : A = false ∧ H = 0 ∧ n = 0
  · rw [if_pos h0]; exact .inl ⟨rfl, h0⟩
  · rw [if_neg h0]
    by_cases h1 : A = true ∧ H = 0 ∧ n = 0
    · rw [if_pos h1]; exact .inr (.inl ⟨rfl, h1⟩)
    · rw [if_neg h1]
      by_cases h2 : A = false ∧ 1 ≤ H ∧ H ≤ 8 ∧ 1 ≤ n ∧ n ≤ 4096
      · rw [if_pos h2]; exact .inr (.inr (.inl ⟨rfl, h2⟩))
      · rw [if_neg h2]; exact .inr (.inr (.inr rfl))
theorem fw_zero {A : Bool} {H : Int} {xs : List (BitVec 8)} (h : kindN A H xs.length = 0) : (⟨A, H, xs⟩ : Fw) = ⟨false, 0, []⟩ := by
  rcases kind_range A H xs.length with ⟨_, h1, h2, h3⟩ | ⟨e, _⟩ | ⟨e, _⟩ | e
  · rw [h1, h2, List.length_eq_zero_iff.1 h3]
  all_goals omega
theorem fw_one {A : Bool} {H : Int} {xs : List (BitVec 8)} (h : kindN A H xs.length = 1) : (⟨A, H, xs⟩ : Fw) = ⟨true, 0, []⟩ := by
  rcases kind_range A H xs.length with ⟨e, _⟩ | ⟨_, h1, h2, h3⟩ | ⟨e, _⟩ | e
  · omega
  · rw [h1, h2, List.length_eq_zero_iff.1 h3]
  all_goals omega
theorem join_tab (A : Bool) (H : Int) (xs : List (BitVec 8)) (B : Bool) (G : Int) (ys : List (BitVec 8)) (i j : Nat) (hi : kindN A H xs.length = (i : Int)) (hj : kindN B G ys.length = (j : Int)) (h3 : i < 3) (h4 : j < 3) :
    ∃ t : Nat, jcells[i * 3 + j]? = some (.int .i64 (t : Int)) ∧ (t = 0 ∧ joined ⟨A, H, xs⟩ ⟨B, G, ys⟩ = (⟨A, H, xs⟩, 0) ∨ t = 1 ∧ joined ⟨A, H, xs⟩ ⟨B, G, ys⟩ = (⟨B, G, ys⟩, 0) ∨
      t = 2 ∧ i = 2 ∧ j = 2 ∧ joined ⟨A, H, xs⟩ ⟨B, G, ys⟩ = if H ≠ G ∨ xs.length ≠ ys.length then (zeroF, 3) else (⟨false, H, orZip xs ys⟩, 0)) := by
  have e : joined ⟨A, H, xs⟩ ⟨B, G, ys⟩ = if (i : Int) = 1 ∨ (j : Int) = 1 then (⟨true, 0, []⟩, 0) else if (i : Int) = 0 then (⟨B, G, ys⟩, 0) else if (j : Int) = 0 then (⟨A, H, xs⟩, 0) else if H ≠ G ∨ xs.length ≠ ys.length then (zeroF, 3) else (⟨false, H, orZip xs ys⟩, 0) := by
    unfold joined Fw.kind
    simp only [hi, hj]
    rw [if_neg (by omega)]
  rw [e]
  match i, j, h3, h4 with
  | 0, 0, _, _ => exact ⟨0, rfl, .inl ⟨rfl, by rw [if_neg (by omega), if_pos (by omega), fw_zero hi, fw_zero hj]⟩⟩
  | 0, 1, _, _ => exact ⟨1, rfl, .inr (.inl ⟨rfl, by rw [if_pos (by omega), fw_one hj]⟩)⟩
  | 0, 2, _, _ => exact ⟨1, rfl, .inr (.inl ⟨rfl, by rw [if_neg (by omega), if_pos (by omega)]⟩)⟩
  | 1, 0, _, _ => exact ⟨0, rfl, .inl ⟨rfl, by rw [if_pos (by omega), fw_one hi]⟩⟩
  | 1, 1, _, _ => exact ⟨0, rfl, .inl ⟨rfl, by rw [if_pos (by omega), fw_one hi]⟩⟩
  | 1, 2, _, _ => exact ⟨0, rfl, .inl ⟨rfl, by rw [if_pos (by omega), fw_one hi]⟩⟩
  | 2, 0, _, _ => exact ⟨0, rfl, .inl ⟨rfl, by rw [if_neg (by omega), if_neg (by omega), if_pos (by omega)]⟩⟩
  | 2, 1, _, _ => exact ⟨1, rfl, .inr (.inl ⟨rfl, by rw [if_pos (by omega), fw_one hj]⟩)⟩
  | 2, 2, _, _ => exact ⟨2, rfl, .inr (.inr ⟨rfl, rfl, rfl, by rw [if_neg (by omega), if_neg (by omega), if_neg (by omega)]⟩)⟩
end Go.Proofs.YtmndjgmlndpgaaaDoor.Filt
