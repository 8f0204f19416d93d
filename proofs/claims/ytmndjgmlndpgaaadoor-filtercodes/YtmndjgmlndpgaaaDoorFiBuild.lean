/-
  What Build asks of a kind's row.
-/
import Derived.Test.YtmndjgmlndpgaaaDoorFiHas
import Derived.Test.YtmndjgmlndpgaaaDoorFiRoom
namespace Go.Proofs.YtmndjgmlndpgaaaDoor.Filt
open Go.ChangeShapes Go.WideShapes Go.ChangeAt Go.RowKit
open Go.Proofs.YtmndjgmlndpgaaaDoor.Base
set_option linter.unusedVariables false
def withinN (n least most : Int) : Int := max least (min n most)
/-- How many hashes, how many bytes. -/
def hashesOf (bits : Nat) : Nat := max 1 (min ((69 * bits + 50) / 100) 8)
def bytesOfK (room : Nat) : Nat := max 1 (min ((room + 7) / 8) 4096)
theorem rowcells {w : World} (h : KAt w) : w.cell? ⟨0, 10, none⟩ = some (.bool false) ∧ w.cell? ⟨0, 11, none⟩ = some (.int .i64 1) ∧ w.cell? ⟨0, 12, none⟩ = some (.int .i64 8) ∧ w.cell? ⟨0, 13, none⟩ = some (.int .i64 1) ∧ w.cell? ⟨0, 14, none⟩ = some (.int .i64 4096) :=
  ⟨h.2 10 (by omega), h.2 11 (by omega), h.2 12 (by omega), h.2 13 (by omega), h.2 14 (by omega)⟩
theorem hashes_within (bits : Nat) (h2 : bits ≤ 16) : withinN (IntKind.i64.wrap ((69 * (bits : Int) + 50).tdiv 100)) 1 8 = ((hashesOf bits : Nat) : Int) := by
  obtain ⟨m, hm⟩ : ∃ m, (69 * bits + 50) / 100 = m := ⟨_, rfl⟩
  have t1 : (69 * (bits : Int) + 50).tdiv 100 = (m : Int) := by rw [Int.tdiv_eq_ediv_of_nonneg (by omega)]; omega
  have t2 : IntKind.i64.wrap (m : Int) = (m : Int) := by rw [IntKind.wrap_i64]; omega
  rw [t1, t2]; unfold withinN hashesOf; rw [hm]; clear t1 t2 hm; omega
theorem bytes_within (room : Nat) (h2 : room ≤ 1048576) : withinN (IntKind.i64.wrap (((room : Int) + 7).tdiv 8)) 1 4096 = ((bytesOfK room : Nat) : Int) := by
  obtain ⟨m, hm⟩ : ∃ m, (room + 7) / 8 = m := ⟨_, rfl⟩
  have t1 : ((room : Int) + 7).tdiv 8 = (m : Int) := by rw [Int.tdiv_eq_ediv_of_nonneg (by omega)]; omega
  have t2 : IntKind.i64.wrap (m : Int) = (m : Int) := by rw [IntKind.wrap_i64]; omega
  rw [t1, t2]; unfold withinN bytesOfK; rw [hm]; clear t1 t2 hm; omega
end Go.Proofs.YtmndjgmlndpgaaaDoor.Filt
