/-
  Counts all doubled, a greater limit: the mathematics.
-/
import Derived.Test.YtalnhhpcncjflaaHuffL3
import Derived.Test.YtalnhhpcncjflaaHuffC2
namespace Go.Proofs.Ytalnhhpcncjflaa.Pm
open Go.Proofs.Ytalnhhpcncjflaa.Base
set_option linter.unusedVariables false
def twice (cs : List Int) : List Int := cs.map fun c => 2 * c
theorem twice_len (cs : List Int) : (twice cs).length = cs.length := by simp [twice]
theorem twice_get (cs : List Int) (s : Nat) : (twice cs).getD s 0 = 2 * cs.getD s 0 := by
  unfold twice
  rw [List.getD_eq_getElem?_getD, List.getElem?_map, List.getD_eq_getElem?_getD]
  cases cs[s]? with
  | none => rfl
  | some x => rfl
theorem twice_order (cs : List Int) : (orderOf (twice cs)).length = (orderOf cs).length := by
  rw [(orderOf_ok (twice cs)).1.length_eq, (orderOf_ok cs).1.length_eq, twice_len]
  unfold symsTo
  congr 1
  refine List.filter_congr fun s _ => ?_
  rw [twice_get]
  congr 1
  rw [eq_iff_iff]
  omega
theorem twice_in (cs : List Int) (h : Huff.allIn 1073741824 cs = true) : Huff.allIn 1099511627776 (twice cs) = true := by
  unfold Huff.allIn twice at *
  rw [List.all_eq_true] at h ⊢
  intro x hx
  obtain ⟨c, hc, rfl⟩ := List.mem_map.1 hx
  have := of_decide_eq_true (h c hc)
  exact decide_eq_true ⟨by omega, by omega⟩
theorem twice_sum (cs ls : List Int) : ∀ k, Huff.sumTo (twice cs) ls k = 2 * Huff.sumTo cs ls k
  | 0 => by simp [Huff.sumTo]
  | k + 1 => by
    simp only [Huff.sumTo]
    rw [twice_sum cs ls k, twice_get, Int.mul_add, Int.mul_assoc]
theorem fits (cs ds : List Int) {top top2 : Nat} (ht : top ≤ top2) (L : Lens cs top) (hl : ds.length = cs.length) (hp : ∀ s, s < cs.length → (0 < ds.getD s 0 ↔ 0 < cs.getD s 0)) : ∀ s, s < ds.length → (0 < ds.getD s 0 → 1 ≤ (lensBy cs top).getD s 0 ∧ (lensBy cs top).getD s 0 ≤ top2) ∧ (¬ 0 < ds.getD s 0 → (lensBy cs top).getD s 0 = 0) := by
  intro s hs
  rw [hl] at hs
  obtain ⟨h1, h2, h3⟩ := L.each s hs
  refine ⟨fun h => ?_, fun h => ?_⟩
  · have := h3.2 ((hp s hs).1 h); omega
  · have : ¬ 0 < (lensBy cs top).getD s 0 := fun q => h ((hp s hs).2 (h3.1 q))
    omega
theorem more_less (cs : List Int) {top : Nat} (h15 : top ≤ 15) (L : Lens cs top) (M : Lens cs 15) : Huff.sumTo cs (lensBy cs 15) cs.length ≤ Huff.sumTo cs (lensBy cs top) cs.length :=
  M.least (lensBy cs top) (fits cs cs h15 L rfl fun _ _ => Iff.rfl) (lensBy_len ..) L.right
theorem twice_cost (cs : List Int) {top : Nat} (L : Lens cs top) (M : Lens (twice cs) top) : Huff.sumTo (twice cs) (lensBy (twice cs) top) cs.length = 2 * Huff.sumTo cs (lensBy cs top) cs.length := by
  have tl := twice_len cs
  have h1 := M.least (lensBy cs top) (fits cs (twice cs) (Nat.le_refl _) L tl fun s _ => by rw [twice_get]; omega) (by rw [lensBy_len, tl]) (by rw [tl]; exact L.right)
  have h2 := L.least (lensBy (twice cs) top) (fits (twice cs) cs (Nat.le_refl _) M tl.symm fun s _ => by rw [twice_get]; omega) (by rw [lensBy_len, tl]) (by have := M.right; rwa [tl] at this)
  rw [tl, twice_sum, twice_sum] at h1
  rw [twice_sum]
  omega
end Go.Proofs.Ytalnhhpcncjflaa.Pm
