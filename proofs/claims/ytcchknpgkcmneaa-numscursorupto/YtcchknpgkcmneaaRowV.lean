/-
  Slices of the call's own whose elements are one value each: append of one more, and where it comes to lie.
-/
import Derived.Test.YtcchknpgkcmneaaBase2
namespace Go.Proofs.Ytcchknpgkcmneaa.Base
open Go.ChangeShapes Go.WideShapes Go.ChangeAt Go.RowKit
set_option linter.unusedVariables false
theorem rowV_len {w : World} {base : Nat} {T : TypeId} {v : Value} {n : Nat} {xs : List Value} (h : w.ownsRow base T 1 v n xs) : xs.length = n := by
  have := h.1
  omega
theorem rowV_nil {w : World} {base n c : Nat} {T : TypeId} {a : Option Addr} {xs : List Value} (h : w.ownsRow base T 1 (.slice a n c) n xs) (ha : a = none) : n = 0 ∧ c = 0 := by
  subst ha
  rcases h.2 with ⟨h1, h2⟩ | ⟨g, cap', cur, h1, _⟩
  · simp only [Value.slice.injEq, true_and] at h1; exact h1
  · simp at h1
theorem rowV_shape {w : World} {base : Nat} {T : TypeId} {v : Value} {n : Nat} {xs : List Value} (h : w.ownsRow base T 1 v n xs) : ∃ a c, v = .slice a n c := by
  rcases h.2 with ⟨h1, h2⟩ | ⟨g, c, cur, h1, _⟩
  · exact ⟨none, 0, by rw [h1, h2]⟩
  · exact ⟨_, c, h1⟩
theorem rowV_cells {w : World} {base n c : Nat} {T : TypeId} {a : Option Addr} {xs : List Value} (h : w.ownsRow base T 1 (.slice a n c) n xs) (b : Addr) (hb : a = some b) (j : Nat) (u : Value) (hu : xs[j]? = some u) : w.cell? (b.add j) = some u := by
  subst hb
  rcases h.2 with ⟨h1, _⟩ | ⟨g, cap', cur, h1, _⟩
  · simp at h1
  · simp only [Value.slice.injEq, Option.some.injEq] at h1
    obtain ⟨rfl, _, rfl⟩ := h1
    have hj := (List.getElem?_eq_some_iff.1 hu).1
    have hl := rowV_len h
    rw [Addr.add_mid, Nat.zero_add, World.ownsRow.cellAt h j (by omega)]
    exact hu
theorem rowV_none (w : World) (base : Nat) (T : TypeId) : w.ownsRow base T 1 (.slice none 0 0) 0 [] := ⟨rfl, .inl ⟨rfl, rfl⟩⟩
theorem rowV_keep {w w' : World} {base n : Nat} {T : TypeId} {v : Value} {xs : List Value} {q : Option Nat} (h : w.ownsRow base T 1 v n xs) (hg : w.grownBy w' q) (hne : ∀ i, v.ownBlock = some i → q ≠ some i) : w'.ownsRow base T 1 v n xs := by
  refine World.ownsRow.kept (row := q) h hg ?_
  cases hv : v.ownBlock with
  | none => exact .inl rfl
  | some k => exact .inr (fun e => hne k hv e.symm)
/-- append of one value: it is laid behind the others in their block, or all are laid into a new one. -/
theorem pushV {ops : Array Oper} {rest : List Oper} {o : Oper} {a : Act} {Q : Exit → Act → World → Prop} (w : World) (hgd : o.guard = none) (s x : Operand) (ST T : TypeId) (z : Value) (bytes : Nat)
    (ho : o.op = .call { callee := .builtin .append, args := #[s, x], argTypes := #[ST, ST] })
    (hU : Try.prog.underlying ST = some (.slice T)) (hI : (Try.prog.info? T).map (fun i => (i.zero, i.size, i.bytes)) = some (some z, 1, bytes)) (hzc : z.cells.size = 1) (hby : bytes ≤ 1024)
    (base : Nat) (v : Value) (n : Nat) (xs : List Value) (hs : a.eval s = v) (hown : w.ownsRow base T 1 v n xs) (ad : Addr) (cap : Nat) (u : Value) (hx : a.eval x = .slice (some ad) 1 cap)
    (hc : w.cell? (ad.add 0) = some u) (hu1 : u.oneCell' = true) (hl : n + 1 ≤ 137438953472) (hbase : base ≤ w.heap.size)
    (h : ∀ g' c' w', w'.ownsRow base T 1 (.slice (some ⟨g', 0, none⟩) (n + 1) c') (n + 1) (xs ++ [u]) → Put1 w w' v g' → wpList Try.prog ops Q rest (a.put o.dst (.slice (some ⟨g', 0, none⟩) (n + 1) c')) w') : wpList Try.prog ops Q (o :: rest) a w := by
  obtain ⟨i0, hi, hz0, hz1, hz2⟩ := info_parts hI
  have hbb : (n + 1) * bytes ≤ 140737488355328 := Nat.le_trans (Nat.mul_le_mul hl hby) (by decide)
  have hnews : ∀ (j : Nat) (u' : Value), [u][j]? = some u' → w.cell? (ad.add j) = some u' := by
    intro j u' hu
    cases j with
    | zero => simp at hu; subst hu; exact hc
    | succ j => simp at hu
  have hone : ∀ u' ∈ [u], u'.oneCell' = true := by intro u' h; simp at h; subst h; exact hu1
  have hlen := rowV_len hown
  have hgrow : ∀ (ao : Option Addr) (cp : Nat), v = .slice ao n cp → cp < n + 1 → wpList Try.prog ops Q (o :: rest) a w := by
    intro ao cp hv hcp
    subst hv
    refine wpList_append_grows w hgd s x ST ho T i0 z 1 bytes hU hi hz0 hz1 hz2 hzc (by omega) ao n cp xs hs (fun e => rowV_nil hown e) (by omega) (fun b e j u hu => rowV_cells hown b e j u hu) ad 1 cap [u] hx rfl hnews hone (by omega) (by unfold maxLen; omega) hbb ?_
    intro v' w' h1 h2
    obtain ⟨g, c', rfl⟩ : ∃ g c, v' = .slice (some ⟨g, 0, none⟩) (n + 1) c := by
      rcases h1.2 with ⟨_, h2⟩ | ⟨g, c, cur, h1, _⟩
      · omega
      · exact ⟨g, c, h1⟩
    have hlt := (World.ownsRow.lt h1 g rfl).1
    refine h g c' w' ?_ (.inr ⟨hlt, h2⟩)
    obtain ⟨q1, q2⟩ := h1
    refine ⟨q1, ?_⟩
    rcases q2 with q2 | ⟨g2, cap2, cur, e1, e2, e3⟩
    · exact .inl q2
    · exact .inr ⟨g2, cap2, cur, e1, Nat.le_trans hbase e2, e3⟩
  rcases hown.2 with ⟨hv, hn⟩ | ⟨g, cp, cur, hv, _⟩
  · rw [← hn] at hv
    exact hgrow none n hv (by omega)
  · by_cases hcp : n + 1 ≤ cp
    · subst hv
      refine wpList_append_fits w hgd s x ST ho base T i0 1 hU hi hz1 g n cp xs hs hown ad 1 cap [u] hx rfl hnews hone hcp ?_
      intro w' h1 h2
      exact h g cp w' h1 (.inl ⟨rfl, h2⟩)
    · exact hgrow (some ⟨g, 0, none⟩) cp hv (by omega)
end Go.Proofs.Ytcchknpgkcmneaa.Base
