/-
  A list of the call's own is added to: behind its first entries, or anywhere new; the first entries stay.
-/
import Derived.Test.YtbmbhcjocgbbpaaFaRow
import Derived.Test.YtbmbhcjocgbbpaaFaGiven
import Derived.Test.YtbmbhcjocgbbpaaBase2
namespace Go.Proofs.Ytbmbhcjocgbbpaa.Fa
open Go.ChangeShapes Go.WideShapes Go.ChangeAt Go.RowKit
open Go.Proofs.Ytbmbhcjocgbbpaa.Base
set_option linter.unusedVariables false
theorem OwnL.room {w : World} {base g n c : Nat} {fs : List Flt} (h : OwnL w base (.slice (some ⟨g, 0, none⟩) n c) fs) (o : Nat) (ho : n * 8 ≤ o) (r : Flt) : OwnL (set8 w g o r) base (.slice (some ⟨g, 0, none⟩) n c) fs := by
  obtain ⟨h0, h1⟩ := h
  refine ⟨h0, ?_⟩
  rcases h1 with ⟨h1, _⟩ | ⟨g', cap', cur, h1, h2, h3, h4, h5, h6, h7⟩
  · cases h1
  · simp only [Value.slice.injEq, Option.some.injEq, Addr.mk.injEq] at h1
    obtain ⟨⟨rfl, _⟩, h8, rfl⟩ := h1
    refine .inr ⟨g, c, arr8 cur o r, by rw [h8], h2, heap_set8 h3 o r, h4, h5, by rw [size_arr8]; exact h6, ?_⟩
    rw [← h7]
    apply List.ext_getElem?
    intro i
    by_cases hi : i < fs.length * 8
    · rw [List.getElem?_take_of_lt hi, List.getElem?_take_of_lt hi, Array.getElem?_toList, Array.getElem?_toList, arr8_far _ _ _ _ (by omega)]
    · rw [List.getElem?_eq_none (by rw [List.length_take]; omega), List.getElem?_eq_none (by rw [List.length_take]; omega)]
/-- Where a list that is added to lies: k entries in the room of a block of its own, or in a new one. -/
def Spo (w : World) (H : Nat) (ao : Option Addr) (n c z k : Nat) (v : Value) : Prop :=
  (v = .slice ao (z + k) (z + (c - n)) ∧ n + k ≤ c) ∨ (c < n + k ∧ ∃ xs, w.ownsRow H 25 8 v (z + k) xs)
theorem at8_news {w : World} {g0 : Nat} {r : Flt} (hr : At8 w g0 0 r) (j : Nat) (u : Value) (hu : (fv r)[j]? = some u) : w.cell? ((⟨g0, 0, none⟩ : Addr).add j) = some u := by
  have := hr.get j u hu
  rw [Nat.zero_add] at this
  rw [show (⟨g0, 0, none⟩ : Addr).add j = ⟨g0, j, none⟩ by cases j <;> simp [Addr.add]]
  exact this
theorem cells_of {w : World} {base g n c : Nat} {fs : List Flt} (h : OwnL w base (.slice (some ⟨g, 0, none⟩) n c) fs) (o m : Nat) (hm : o + m ≤ c * 8) : ∃ olds : List Value, olds.length = m ∧ (∀ j u, olds[j]? = some u → w.cell? ⟨g, o + j, none⟩ = some u) ∧ ∀ k, k < c * 8 → (w.cell? ⟨g, k, none⟩).isSome = true ∧ w.frozen? ⟨g, k, none⟩ = false := by
  rcases h.2 with ⟨h1, _⟩ | ⟨g', cap', cur, h1, h2, h3, h4, h5, h6, h7⟩
  · cases h1
  · simp only [Value.slice.injEq, Option.some.injEq, Addr.mk.injEq] at h1
    obtain ⟨⟨rfl, _⟩, h8, rfl⟩ := h1
    refine ⟨(cur.toList.drop o).take m, by rw [List.length_take, List.length_drop]; simp; omega, fun j u hu => ?_, fun k hk => ⟨?_, frozen_of_row _ _ _ _ _ h3⟩⟩
    · have hj : j < m := by
        have := (List.getElem?_eq_some_iff.1 hu).1
        rw [List.length_take] at this; omega
      rw [List.getElem?_take_of_lt hj, List.getElem?_drop, Array.getElem?_toList] at hu
      rw [cell_of_row _ _ _ _ _ _ h3]
      exact hu
    · rw [cell_of_row _ _ _ _ _ _ h3, Array.getElem?_eq_getElem (by omega)]; rfl
set_option maxHeartbeats 1000000 in
/-- append of one entry onto such a list. -/
theorem pushSpo {ops : Array Oper} {rest : List Oper} {o : Oper} {a : Act} {Q : Exit → Act → World → Prop} (W w : World) (hgd : o.guard = none) (s x : Operand)
    (ho : o.op = .call { callee := .builtin .append, args := #[s, x], argTypes := #[32, 32] })
    (base : Nat) (oa : Option Addr) (n c z k : Nat) (fs : List Flt) (hown : OwnL w base (.slice oa n c) fs) (ao : Option Addr) (hz : z ≤ n) (hao : n < c ∨ 0 < z → ∃ g, oa = some ⟨g, 0, none⟩ ∧ ao = some ⟨g, (n - z) * 8, none⟩)
    (v : Value) (hs : a.eval s = v) (hsp : Spo w W.heap.size ao n c z k v) (hzk : z = n ∨ z = 0) (hW : W.grownBy w (Value.slice oa n c).ownBlock) (hlt : ∀ i, (Value.slice oa n c).ownBlock = some i → i < W.heap.size)
    (g0 : Nat) (r : Flt) (hx : a.eval x = .slice (some ⟨g0, 0, none⟩) 1 1) (hr : At8 w g0 0 r) (hl : n + k + 1 ≤ 2199023255552)
    (h : ∀ v' w', OwnL w' base (.slice oa n c) fs → Spo w' W.heap.size ao n c z (k + 1) v' → W.grownBy w' (Value.slice oa n c).ownBlock → wpList Try.prog ops Q rest (a.put o.dst v') w') : wpList Try.prog ops Q (o :: rest) a w := by
  obtain ⟨i0, hi, hz0, hz1, hz2⟩ := info_parts infoL
  have hnc := hown.len.2.1
  have hWs := hW.size
  rcases hsp with ⟨rfl, hk⟩ | ⟨hk, xs, hxs⟩
  · by_cases hroom : n + k + 1 ≤ c
    · obtain ⟨g, rfl, rfl⟩ := hao (.inl (by omega))
      obtain ⟨olds, o1, o2, o3⟩ := cells_of hown ((n - z) * 8) ((z + k) * 8) (by omega)
      refine wpList_append_arg w hgd s x 32 ho 25 i0 _ 8 64 Try.underlying32 hi hz0 hz1 hz2 rfl (by omega) g ((n - z) * 8) (z + k) (z + (c - n)) olds hs o1 o2 ⟨g0, 0, none⟩ 1 1 (fv r) hx rfl (at8_news hr) (fv_one r) (fun _ j hj => o3 _ (by have : j < 8 := hj; omega)) (by unfold maxLen; omega) (by omega) (fun _ => ?_) (fun hh => by omega)
      have e : w.setCells g ((n - z) * 8 + (z + k) * 8) (fv r) = set8 w g ((n + k) * 8) r := by
        rw [show (n - z) * 8 + (z + k) * 8 = (n + k) * 8 by omega]; rfl
      rw [e]
      exact h _ _ (hown.room _ (by omega) r) (.inl ⟨rfl, by omega⟩) (grown_set8 hW _ _)
    · have hkc : n + k = c := by omega
      have hO : ∃ olds : List Value, olds.length = (z + k) * 8 ∧ ∀ b, ao = some b → ∀ j u, olds[j]? = some u → w.cell? (b.add j) = some u := by
        by_cases h0 : z + k = 0
        · exact ⟨[], by rw [h0]; rfl, fun b _ j u hu => by simp at hu⟩
        · obtain ⟨g, rfl, rfl⟩ := hao (by omega)
          obtain ⟨olds, o1, o2, _⟩ := cells_of hown ((n - z) * 8) ((z + k) * 8) (by omega)
          refine ⟨olds, o1, fun b e j u hu => ?_⟩
          cases e
          have h9 := o2 j u hu
          rw [show (⟨g, (n - z) * 8, none⟩ : Addr).add j = ⟨g, (n - z) * 8 + j, none⟩ by simp [Addr.add]]
          exact h9
      obtain ⟨olds, o1, o2⟩ := hO
      refine wpList_append_grows w hgd s x 32 ho 25 i0 _ 8 64 Try.underlying32 hi hz0 hz1 hz2 rfl (by omega) ao (z + k) (z + (c - n)) olds hs (fun e => ?_) o1 o2 ⟨g0, 0, none⟩ 1 1 (fv r) hx rfl (at8_news hr) (fv_one r) (by omega) (by unfold maxLen; omega) (by omega) ?_
      · by_cases hq : n < c ∨ 0 < z
        · obtain ⟨g, _, e2⟩ := hao hq
          rw [e2] at e; cases e
        · omega
      · intro v' w' h1 h2
        refine h v' w' (hown.kept h2 (fun i _ e2 => by cases e2)) (.inr ⟨by omega, _, ⟨h1.1, h1.2.imp id fun ⟨g, cap, cur, a1, a2, a3⟩ => ⟨g, cap, cur, a1, Nat.le_trans hWs a2, a3⟩⟩⟩) (grown_new hW h2 (fun i e => by cases e))
  · refine wpList_append_lies w hgd s x 32 ho W.heap.size 25 i0 _ 8 64 Try.underlying32 hi hz0 hz1 hz2 rfl (by omega) v (z + k) xs hs hxs ⟨g0, 0, none⟩ 1 1 (fv r) hx rfl (at8_news hr) (fv_one r) (by omega) (by unfold maxLen; omega) (by omega) hWs w.heap.size rfl ?_
    intro g cap w' h1 h2 h3 _
    refine h _ w' (hown.kept h2 (fun i e e2 => ?_)) (.inr ⟨by omega, _, h1⟩) (grown_new hW h2 (fun i e => (World.ownsRow.lt hxs i e).1))
    have := hlt i e
    have := (World.ownsRow.lt hxs i e2).1
    omega
end Go.Proofs.Ytbmbhcjocgbbpaa.Fa
