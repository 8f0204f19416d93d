/-
  The document's places, kept in two rows.
-/
import Derived.Test.YtcchknpgkcmneaaLzR5
import Derived.Test.YtcchknpgkcmneaaLzC7
import Derived.Deep.OwnRows
namespace Go.Proofs.Ytcchknpgkcmneaa.Lz
open Go.ChangeShapes Go.WideShapes Go.ChangeAt Go.RowKit
open Go.Proofs.Ytcchknpgkcmneaa.Base Go.Proofs.Ytcchknpgkcmneaa.Nums
set_option linter.unusedVariables false
/-- The rows in the blocks g1 (the last place of each slot) and g2 (the one ahead of each place) when the places below c are kept. -/
structure Kp (w : World) (g1 g2 : Nat) (x : Txt) (len c : Nat) : Prop where
  ne : g1 ≠ g2
  one : ∃ A : Array Value, w.heap[g1]? = some (.cells A 3) ∧ A.size = 4096 ∧ ∀ s, s < 4096 → A[s]? = some (.int .i64 (prev (refSlot x) s c : Nat))
  two : ∃ B : Array Value, w.heap[g2]? = some (.cells B 3) ∧ B.size = len + 1 ∧ ∀ j, j ≤ len → ∃ v : Nat, B[j]? = some (.int .i64 (v : Int)) ∧ (j < c → v = prev (refSlot x) (refSlot x j) j)
theorem Kp.last {w : World} {g1 g2 : Nat} {x : Txt} {len c : Nat} (h : Kp w g1 g2 x len c) (s : Nat) (hs : s < 4096) : w.cell? ⟨g1, s, none⟩ = some (.int .i64 (prev (refSlot x) s c : Nat)) := by
  obtain ⟨A, h1, _, h3⟩ := h.one
  rw [cell_of_row _ _ _ _ _ _ h1]; exact h3 s hs
theorem Kp.ahead {w : World} {g1 g2 : Nat} {x : Txt} {len c : Nat} (h : Kp w g1 g2 x len c) (j : Nat) (hj : j ≤ len) : ∃ v : Nat, w.cell? ⟨g2, j, none⟩ = some (.int .i64 (v : Int)) ∧ (j < c → v = prev (refSlot x) (refSlot x j) j) := by
  obtain ⟨B, h1, _, h3⟩ := h.two
  rw [cell_of_row _ _ _ _ _ _ h1]; exact h3 j hj
theorem Kp.fr1 {w : World} {g1 g2 : Nat} {x : Txt} {len c : Nat} (h : Kp w g1 g2 x len c) (k : Nat) : w.frozen? ⟨g1, k, none⟩ = false := by
  obtain ⟨A, h1, _⟩ := h.one
  exact frozen_of_row _ _ _ _ _ h1
theorem Kp.fr2 {w : World} {g1 g2 : Nat} {x : Txt} {len c : Nat} (h : Kp w g1 g2 x len c) (k : Nat) : w.frozen? ⟨g2, k, none⟩ = false := by
  obtain ⟨A, h1, _⟩ := h.two
  exact frozen_of_row _ _ _ _ _ h1
theorem Kp.lt1 {w : World} {g1 g2 : Nat} {x : Txt} {len c : Nat} (h : Kp w g1 g2 x len c) : g1 < w.heap.size := block_lt_of_cell (h.last 0 (by omega))
theorem Kp.lt2 {w : World} {g1 g2 : Nat} {x : Txt} {len c : Nat} (h : Kp w g1 g2 x len c) : g2 < w.heap.size := by
  obtain ⟨v, hv, _⟩ := h.ahead 0 (by omega)
  exact block_lt_of_cell hv
theorem Kp.grown {w w' : World} {g1 g2 : Nat} {x : Txt} {len c : Nat} {r : Option Nat} (h : Kp w g1 g2 x len c) (hg : w.grownBy w' r) (h1 : r ≠ some g1) (h2 : r ≠ some g2) : Kp w' g1 g2 x len c := by
  have l1 := h.lt1
  have l2 := h.lt2
  obtain ⟨A, a1, a2⟩ := h.one
  obtain ⟨B, b1, b2⟩ := h.two
  exact ⟨h.ne, ⟨A, by rw [hg.block g1 l1 (fun e => h1 e.symm)]; exact a1, a2⟩, ⟨B, by rw [hg.block g2 l2 (fun e => h2 e.symm)]; exact b1, b2⟩⟩
theorem Kp.below {w w' : World} {g1 g2 : Nat} {x : Txt} {len c : Nat} (h : Kp w g1 g2 x len c) (hb : Below w.heap.size w w') : Kp w' g1 g2 x len c := h.grown (below_grown hb) (by simp) (by simp)
/-- The place c is kept too. -/
theorem Kp.add {w : World} {g1 g2 : Nat} {x : Txt} {len c : Nat} (h : Kp w g1 g2 x len c) (hc : c ≤ len) : Kp ((w.setCell ⟨g2, c, none⟩ (.int .i64 (prev (refSlot x) (refSlot x c) c : Nat))).setCell ⟨g1, refSlot x c, none⟩ (.int .i64 ((c + 1 : Nat) : Int))) g1 g2 x len (c + 1) := by
  have l1 := h.lt1
  have l2 := h.lt2
  have hne := h.ne
  obtain ⟨A, a1, a2, a3⟩ := h.one
  obtain ⟨B, b1, b2, b3⟩ := h.two
  have hs := refSlot_lt x c
  have a1' : (w.setCell ⟨g2, c, none⟩ (.int .i64 (prev (refSlot x) (refSlot x c) c : Nat))).heap[g1]? = some (.cells A 3) := by
    rw [(grown_cell (World.grownBy.refl w (some g2)) c _).block g1 l1 (fun e => hne (Option.some.inj e))]; exact a1
  have b1' : (w.setCell ⟨g2, c, none⟩ (.int .i64 (prev (refSlot x) (refSlot x c) c : Nat))).heap[g2]? = some (.cells (B.setIfInBounds c (.int .i64 (prev (refSlot x) (refSlot x c) c : Nat))) 3) := heap_setCell_same _ _ _ _ _ _ b1
  refine ⟨hne, ⟨_, heap_setCell_same _ _ _ _ _ _ a1', by simp [a2], fun s hsl => ?_⟩, ⟨_, by rw [(grown_cell (World.grownBy.refl _ (some g1)) _ _).block g2 (by simp [World.setCell]; exact l2) (fun e => hne (Option.some.inj e).symm)]; exact b1', by simp [b2], fun j hj => ?_⟩⟩
  · by_cases e : refSlot x c = s
    · subst e
      simp only [prev]
      rw [if_pos trivial, Array.getElem?_setIfInBounds, if_pos rfl, if_pos (by omega)]
    · simp only [prev]
      rw [if_neg e, Array.getElem?_setIfInBounds, if_neg e]
      exact a3 s hsl
  · by_cases e : c = j
    · subst e
      exact ⟨prev (refSlot x) (refSlot x c) c, by rw [Array.getElem?_setIfInBounds, if_pos rfl, if_pos (by omega)], fun _ => rfl⟩
    · obtain ⟨v, v1, v2⟩ := b3 j hj
      exact ⟨v, by rw [Array.getElem?_setIfInBounds, if_neg e]; exact v1, fun hlt => v2 (by omega)⟩
theorem infoI : (Try.prog.info? 3).map (fun i => (i.zero, i.size, i.bytes)) = some (some (.int .i64 0), 1, 8) := by kernel_rfl
theorem kp_new (w : World) (M N : Array Value) (x : Txt) (len : Nat) (hM : M.size = 4096 ∧ ∀ k, k < 4096 → M[k]? = some (.int .i64 0)) (hN : N.size = len + 1 ∧ ∀ k, k < len + 1 → N[k]? = some (.int .i64 0)) : Kp ((w.alloc (.cells M 3)).alloc (.cells N 3)) w.heap.size (w.heap.size + 1) x len 0 := by
  have e : (w.alloc (.cells M 3)).heap.size = w.heap.size + 1 := by simp
  have h2 := heap_alloc_new (w.alloc (.cells M 3)) (.cells N 3)
  rw [e] at h2
  have h1 : ((w.alloc (.cells M 3)).alloc (.cells N 3)).heap[w.heap.size]? = some (.cells M 3) := by
    have hb : Below (w.alloc (.cells M 3)).heap.size (w.alloc (.cells M 3)) ((w.alloc (.cells M 3)).alloc (.cells N 3)) := (Below.refl _ _).alloc (Nat.le_refl _) _
    rw [hb.block _ (by omega)]
    exact heap_alloc_new _ _
  exact ⟨by omega, ⟨M, h1, hM.1, fun s hs => hM.2 s hs⟩, ⟨N, h2, hN.1, fun j hj => ⟨0, hN.2 j (by omega), fun h => by omega⟩⟩⟩
end Go.Proofs.Ytcchknpgkcmneaa.Lz
