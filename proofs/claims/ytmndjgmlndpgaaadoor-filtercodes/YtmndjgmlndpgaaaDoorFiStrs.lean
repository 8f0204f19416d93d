/-
  Slices that read as texts.
-/
import Derived.Test.YtmndjgmlndpgaaaDoorFiMath
import Derived.Test.YtmndjgmlndpgaaaDoorFiBlank
namespace Go.Proofs.YtmndjgmlndpgaaaDoor.Filt
open Go.ChangeShapes Go.WideShapes Go.ChangeAt Go.RowKit
open Go.Proofs.YtmndjgmlndpgaaaDoor.Base
set_option linter.unusedVariables false
/-- The slice 'a, len' reads as the texts 'ss' in the world 'w'. -/
def RdS (w : World) (a : Option Addr) (len : Nat) (ss : List ByteArray) : Prop :=
  ss.length = len ∧ len ≤ 140737488355328 ∧ (∀ s ∈ ss, s.size ≤ 9223372036854775807) ∧ (0 < len → ∃ b off, a = some ⟨b, off, none⟩ ∧ b < w.heap.size ∧ ∀ i, i < len → w.cell? ⟨b, off + i, none⟩ = some (.string (ss.getD i ⟨#[]⟩)))
theorem getS_mem {ss : List ByteArray} {i : Nat} (h : i < ss.length) : ss.getD i ⟨#[]⟩ ∈ ss := by
  rw [List.getD_eq_getElem?_getD, List.getElem?_eq_getElem h]; exact List.getElem_mem h
theorem RdS.below {w w' : World} {a : Option Addr} {len : Nat} {ss : List ByteArray} (h : RdS w a len ss) (hb : Below w.heap.size w w') : RdS w' a len ss := by
  obtain ⟨h1, h2, h3, h4⟩ := h
  refine ⟨h1, h2, h3, fun hp => ?_⟩
  obtain ⟨b, off, rfl, hlt, hc⟩ := h4 hp
  refine ⟨b, off, rfl, Nat.lt_of_lt_of_le hlt hb.size, fun i hi => ?_⟩
  rw [hb.cell (p := ⟨b, off + i, none⟩) hlt]
  exact hc i hi
theorem RdS.old {w w' : World} {B : Nat} {a : Option Addr} {len : Nat} {ss : List ByteArray} (h : RdS w a len ss) (hl : ∀ ad, a = some ad → 0 < len → ad.block < B) (hb : Below B w w') (hs : w.heap.size ≤ w'.heap.size) : RdS w' a len ss := by
  obtain ⟨h1, h2, h3, h4⟩ := h
  refine ⟨h1, h2, h3, fun hp => ?_⟩
  obtain ⟨b, off, rfl, hlt, hc⟩ := h4 hp
  refine ⟨b, off, rfl, Nat.lt_of_lt_of_le hlt hs, fun i hi => ?_⟩
  rw [hb.cell (p := ⟨b, off + i, none⟩) (hl ⟨b, off, none⟩ rfl hp)]
  exact hc i hi
theorem RdS.cut {w : World} {a : Option Addr} {len : Nat} {ss : List ByteArray} (h : RdS w a len ss) (m : Nat) (hm : m ≤ len) : RdS w a m (ss.take m) := by
  obtain ⟨h1, h2, h3, h4⟩ := h
  refine ⟨by rw [List.length_take]; omega, by omega, fun s hs => h3 s (List.mem_of_mem_take hs), fun hp => ?_⟩
  obtain ⟨b, off, rfl, hlt, hc⟩ := h4 (by omega)
  refine ⟨b, off, rfl, hlt, fun i hi => ?_⟩
  rw [hc i (by omega), List.getD_eq_getElem?_getD, List.getD_eq_getElem?_getD, List.getElem?_take, if_pos hi]
theorem rds_nil (w : World) : RdS w none 0 [] := ⟨rfl, by omega, (fun s hs => absurd hs List.not_mem_nil), (fun h => absurd h (by omega))⟩
theorem rds_row {w : World} {x : Addr} {l c : Nat} {Sx : Nat → ByteArray} (hl : l ≤ c) (hc : c ≤ 140737488355328) (hcell : ∀ i, i < c → w.cell? (x.add i) = some (.string (Sx i)) ∧ (Sx i).size ≤ maxLen) : RdS w (some x) l ((List.range l).map Sx) := by
  refine ⟨by simp, by omega, ?_, fun hp => ?_⟩
  · intro s hs
    obtain ⟨i, hi, rfl⟩ := List.mem_map.1 hs
    have h := (hcell i (by have := List.mem_range.1 hi; omega)).2
    unfold maxLen at h
    omega
  · obtain ⟨b, off, spot⟩ := x
    have h0 := (hcell 0 (by omega)).1
    have hspot : spot = none := by simpa [Addr.add] using World.cell?_spot h0
    subst hspot
    refine ⟨b, off, rfl, ?_, fun i hi => ?_⟩
    · have := block_lt_of_cell h0
      simpa [Addr.add] using this
    · have h := (hcell i (by omega)).1
      rw [show (⟨b, off, none⟩ : Addr).add i = ⟨b, off + i, none⟩ by simp [Addr.add]] at h
      rw [h, List.getD_eq_getElem?_getD, List.getElem?_map, List.getElem?_range hi]
      rfl
/-- The filter of keys: is all there, how many hashes, the bytes; the error. -/
def builtF (ss : List ByteArray) (bits : Int) : Fw × Int :=
  if bits < 0 ∨ 16 < bits then (zeroF, 3) else if ss.length = 0 then (zeroF, 0) else if bits = 0 ∨ 65536 < ss.length then (⟨true, 0, []⟩, 0)
  else (⟨false, (hashesOf bits.toNat : Nat), laidBits ss (hashesOf bits.toNat) (List.replicate (bytesOfK (ss.length * bits.toNat)) 0)⟩, 0)
theorem bytesOfK_pos (n : Nat) : 0 < bytesOfK n ∧ bytesOfK n ≤ 4096 := by unfold bytesOfK; omega
theorem hashesOf_le (n : Nat) : 1 ≤ hashesOf n ∧ hashesOf n ≤ 8 := by unfold hashesOf; omega
theorem builtF_len (ss : List ByteArray) (bits : Int) : (builtF ss bits).1.data.length ≤ 4096 := by
  unfold builtF
  split
  · simp [zeroF]
  · split
    · simp [zeroF]
    · split
      · simp
      · show (laidBits _ _ _).length ≤ _
        rw [laidBits_len, List.length_replicate]
        exact (bytesOfK_pos _).2
end Go.Proofs.YtmndjgmlndpgaaaDoor.Filt
