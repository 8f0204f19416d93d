/-
  Rows of code words.
-/
import Derived.Test.YthdblnfohbldcaaGreatHuffM1
namespace Go.Proofs.YthdblnfohbldcaaGreat.Huff
open Go.ChangeShapes Go.WideShapes Go.ChangeAt Go.RowKit
open Go.Proofs.YthdblnfohbldcaaGreat.Base
set_option linter.unusedVariables false
def cvals : List (Int × Nat) → List Value
  | [] => []
  | p :: cs => .int .i64 p.1 :: .int .u32 (p.2 : Int) :: cvals cs
theorem length_cvals (cs : List (Int × Nat)) : (cvals cs).length = cs.length * 2 := by
  induction cs with
  | nil => rfl
  | cons p cs ih => simp only [cvals, List.length_cons, ih]; omega
theorem cvals_len (cs : List (Int × Nat)) : ∀ k, k < cs.length → (cvals cs)[k * 2]? = some (.int .i64 (cs.getD k (0, 0)).1) ∧ (cvals cs)[k * 2 + 1]? = some (.int .u32 ((cs.getD k (0, 0)).2 : Int)) := by
  induction cs with
  | nil => intro k h; cases h
  | cons p cs ih =>
    intro k h
    cases k with
    | zero => exact ⟨rfl, rfl⟩
    | succ k =>
      have := ih k (by simpa using h)
      rw [show (k + 1) * 2 = k * 2 + 2 by omega]
      exact this
theorem cvals_set (cs : List (Int × Nat)) : ∀ k l (b : Nat), ((cvals cs).set (k * 2) (.int .i64 l)).set (k * 2 + 1) (.int .u32 (b : Int)) = cvals (cs.set k (l, b)) := by
  induction cs with
  | nil => intro k l b; rfl
  | cons p cs ih =>
    intro k l b
    cases k with
    | zero => rfl
    | succ k =>
      rw [show (k + 1) * 2 = k * 2 + 2 by omega]
      simp only [cvals, List.set_cons_succ]
      rw [ih k l b]
theorem cvals_append (a b : List (Int × Nat)) : cvals (a ++ b) = cvals a ++ cvals b := by
  induction a with
  | nil => rfl
  | cons p a ih => simp only [List.cons_append, cvals, ih]
theorem cvals_one (cs : List (Int × Nat)) : ∀ v ∈ cvals cs, v.oneCell' = true := by
  induction cs with
  | nil => intro v h; cases h
  | cons p cs ih =>
    intro v h
    simp only [cvals, List.mem_cons] at h
    rcases h with rfl | rfl | h
    · rfl
    · rfl
    · exact ih v h
/-- The slice v leads to a row of words of the call's own. -/
def OwnC (w : World) (base : Nat) (v : Value) (cs : List (Int × Nat)) : Prop := w.ownsRow base 163 2 v cs.length (cvals cs)
theorem OwnC.below {w w' : World} {base : Nat} {v : Value} {cs : List (Int × Nat)} (h : OwnC w base v cs) (hb : Below w.heap.size w w') : OwnC w' base v cs := by
  refine World.ownsRow.kept (row := none) h (below_grown hb) ?_
  cases hv : v.ownBlock with
  | none => exact .inl rfl
  | some k => exact .inr (by simp)
theorem OwnC.cells {w : World} {base g n cap : Nat} {cs : List (Int × Nat)} (h : OwnC w base (.slice (some ⟨g, 0, none⟩) n cap) cs) (hn : cs.length = n) (k : Nat) (hk : k < n) :
    w.cell? ⟨g, k * 2, none⟩ = some (.int .i64 (cs.getD k (0, 0)).1) ∧ w.cell? ⟨g, k * 2 + 1, none⟩ = some (.int .u32 ((cs.getD k (0, 0)).2 : Int)) := by
  subst hn
  obtain ⟨h1, h2⟩ := cvals_len cs k hk
  exact ⟨by rw [World.ownsRow.cellAt h (k * 2) (by omega)]; exact h1, by rw [World.ownsRow.cellAt h (k * 2 + 1) (by omega)]; exact h2⟩
theorem OwnC.frozen {w : World} {base g n cap : Nat} {cs : List (Int × Nat)} (h : OwnC w base (.slice (some ⟨g, 0, none⟩) n cap) cs) (hn : cs.length = n) (k : Nat) : w.frozen? ⟨g, k, none⟩ = false := by
  subst hn
  exact World.ownsRow.frozenAt h k
theorem OwnC.store {w : World} {base g n cap : Nat} {cs : List (Int × Nat)} (h : OwnC w base (.slice (some ⟨g, 0, none⟩) n cap) cs) (hn : cs.length = n) (k : Nat) (l : Int) (b : Nat) :
    OwnC ((w.setCell ⟨g, k * 2, none⟩ (.int .i64 l)).setCell ⟨g, k * 2 + 1, none⟩ (.int .u32 (b : Int))) base (.slice (some ⟨g, 0, none⟩) n cap) (cs.set k (l, b)) := by
  subst hn
  have := (World.ownsRow.stored (World.ownsRow.stored h (k * 2) (.int .i64 l)).1 (k * 2 + 1) (.int .u32 (b : Int))).1
  rw [cvals_set] at this
  unfold OwnC
  rw [List.length_set]
  exact this
theorem OwnC.shape {w : World} {base : Nat} {v : Value} {cs : List (Int × Nat)} (h : OwnC w base v cs) : ∃ a c, v = .slice a cs.length c := by
  rcases h.2 with ⟨h1, h2⟩ | ⟨g, c, cur, h1, _⟩
  · exact ⟨none, 0, by rw [h1, h2]⟩
  · exact ⟨_, c, h1⟩
theorem OwnC.some' {w : World} {base n c : Nat} {a : Option Addr} {cs : List (Int × Nat)} (h : OwnC w base (.slice a n c) cs) (hn : 0 < n) : ∃ g, a = some ⟨g, 0, none⟩ := by
  rcases h.2 with ⟨e, _⟩ | ⟨g, c', cur, e, _⟩
  · simp only [Value.slice.injEq] at e; omega
  · simp only [Value.slice.injEq] at e; exact ⟨g, e.1⟩
theorem ownC_none (w : World) (base : Nat) : OwnC w base (.slice none 0 0) [] := ⟨by simp [cvals], .inl ⟨rfl, rfl⟩⟩
theorem OwnC.mono {w : World} {base base' : Nat} {v : Value} {cs : List (Int × Nat)} (h : OwnC w base v cs) (hb : base' ≤ base) : OwnC w base' v cs := by
  obtain ⟨h1, h2⟩ := h
  refine ⟨h1, ?_⟩
  rcases h2 with h2 | ⟨g, cap, cur, e1, e2, e3⟩
  · exact .inl h2
  · exact .inr ⟨g, cap, cur, e1, Nat.le_trans hb e2, e3⟩
theorem ownC_keep {w w' : World} {base : Nat} {v : Value} {cs : List (Int × Nat)} {q : Option Nat} (h : OwnC w base v cs) (hg : w.grownBy w' q) (hne : ∀ i, v.ownBlock = some i → q ≠ some i) : OwnC w' base v cs := by
  refine World.ownsRow.kept (row := q) h hg ?_
  cases hv : v.ownBlock with
  | none => exact .inl rfl
  | some k => exact .inr (fun e => hne k hv e.symm)
theorem ownC_zero {w : World} {base g n : Nat} (h : w.ownsRow base 163 2 (.slice (some ⟨g, 0, none⟩) n n) n (madeCells #[Value.int .i64 0, .int .u32 0] (n * 2)).toList) : OwnC w base (.slice (some ⟨g, 0, none⟩) n n) (List.replicate n (0, 0)) := by
  have e : (madeCells #[Value.int .i64 0, .int .u32 0] (n * 2)).toList = cvals (List.replicate n (0, 0)) := by
    apply List.ext_getElem
    · rw [Array.length_toList, size_madeCells, length_cvals, List.length_replicate]
    · intro j h1 h2
      rw [length_cvals, List.length_replicate] at h2
      have hq := cvals_len (List.replicate n (0, 0)) (j / 2) (by rw [List.length_replicate]; omega)
      have hd : (List.replicate n ((0 : Int), (0 : Nat))).getD (j / 2) (0, 0) = (0, 0) := by
        rw [List.getD_eq_getElem?_getD, List.getElem?_replicate]; split <;> rfl
      rw [hd] at hq
      have hl2 : j < (cvals (List.replicate n ((0 : Int), (0 : Nat)))).length := by rw [length_cvals, List.length_replicate]; omega
      rcases Nat.mod_two_eq_zero_or_one j with hm | hm
      · have ej : j / 2 * 2 = j := by omega
        rw [ej, List.getElem?_eq_getElem hl2] at hq
        rw [Option.some.inj hq.1]
        simp [madeCells, hm]
      · have ej : j / 2 * 2 + 1 = j := by omega
        rw [ej, List.getElem?_eq_getElem hl2] at hq
        rw [Option.some.inj hq.2]
        simp [madeCells, hm]
  rw [e] at h
  unfold OwnC
  rw [List.length_replicate]
  exact h
/-- The words of lengths. -/
def codeAt (ls : List Int) (s : Nat) : Int × Nat := if ls.getD s 0 = 0 then (0, 0) else (ls.getD s 0, first ls (ls.getD s 0).toNat + cnt ls (ls.getD s 0).toNat s)
def codesTo (ls : List Int) (k : Nat) : List (Int × Nat) := (List.range ls.length).map fun s => if s < k then codeAt ls s else (0, 0)
def codesOf (ls : List Int) : List (Int × Nat) := (List.range ls.length).map (codeAt ls)
theorem codesTo_len (ls : List Int) (k : Nat) : (codesTo ls k).length = ls.length := by simp [codesTo]
theorem codesOf_len (ls : List Int) : (codesOf ls).length = ls.length := by simp [codesOf]
theorem codesTo_zero (ls : List Int) : codesTo ls 0 = List.replicate ls.length (0, 0) := by
  unfold codesTo
  apply List.ext_getElem
  · simp
  · intro j h1 h2; simp
theorem codesTo_all (ls : List Int) : codesTo ls ls.length = codesOf ls := by
  unfold codesTo codesOf
  apply List.map_congr_left
  intro s hs
  rw [if_pos (List.mem_range.1 hs)]
theorem codesTo_set (ls : List Int) (k : Nat) (h : k < ls.length) : (codesTo ls k).set k (codeAt ls k) = codesTo ls (k + 1) := by
  unfold codesTo
  apply List.ext_getElem
  · simp
  · intro j h1 h2
    rw [List.getElem_set]
    simp only [List.getElem_map, List.getElem_range]
    by_cases e : k = j
    · subst e; rw [if_pos rfl, if_pos (by omega)]
    · rw [if_neg e]
      by_cases hj : j < k
      · rw [if_pos hj, if_pos (by omega)]
      · rw [if_neg hj, if_neg (by omega)]
theorem codesTo_skip (ls : List Int) (k : Nat) (h : ls.getD k 0 = 0) : codesTo ls k = codesTo ls (k + 1) := by
  unfold codesTo
  apply List.map_congr_left
  intro s hs
  by_cases e : s = k
  · subst e
    rw [if_neg (by omega), if_pos (by omega)]
    unfold codeAt; rw [if_pos h]
  · by_cases hj : s < k
    · rw [if_pos hj, if_pos (by omega)]
    · rw [if_neg hj, if_neg (by omega)]
end Go.Proofs.YthdblnfohbldcaaGreat.Huff
