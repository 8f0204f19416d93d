/-
  Lists of texts of the call's own.
-/
import Derived.Test.YtmhebaknoginhaaBase2
namespace Go.Proofs.Ytmhebaknoginhaa.Ln
open Go.ChangeShapes Go.WideShapes Go.ChangeAt Go.RowKit
open Go.Proofs.Ytmhebaknoginhaa.Base
set_option linter.unusedVariables false
/-- Texts as cells. -/
def svals (ss : List ByteArray) : List Value := ss.map Value.string
theorem svals_len (ss : List ByteArray) : (svals ss).length = ss.length := by simp [svals]
theorem svals_append (a b : List ByteArray) : svals (a ++ b) = svals a ++ svals b := by simp [svals]
/-- A list of texts of the call's own. -/
def OwnS (w : World) (base : Nat) (v : Value) (ss : List ByteArray) : Prop := w.ownsRow base 9 1 v ss.length (svals ss)
theorem infoS : (Try.prog.info? 9).map (fun i => (i.zero, i.size, i.bytes)) = some (some (.string ⟨#[]⟩), 1, 16) := by kernel_rfl
theorem owns_none (w : World) (base : Nat) : OwnS w base (.slice none 0 0) [] := ⟨by simp [svals], .inl ⟨rfl, rfl⟩⟩
theorem OwnS.shape {w : World} {base : Nat} {v : Value} {ss : List ByteArray} (h : OwnS w base v ss) : ∃ a c, v = .slice a ss.length c ∧ ss.length ≤ c ∧ (a = none → ss.length = 0 ∧ c = 0) ∧ (∀ ad, a = some ad → ad.off = 0 ∧ ad.spot = none ∧ base ≤ ad.block ∧ ad.block < w.heap.size) := by
  rcases h.2 with ⟨h1, h2⟩ | ⟨g, c, cur, h1, h2, h3, h4, _⟩
  · rw [h2]; exact ⟨_, _, h1, Nat.le_refl _, fun _ => ⟨rfl, rfl⟩, (fun ad e => nomatch e)⟩
  · exact ⟨_, _, h1, h4, (fun e => nomatch e), fun ad e => by cases e; exact ⟨rfl, rfl, h2, (Array.getElem?_eq_some_iff.1 h3).1⟩⟩
theorem OwnS.below {w w' : World} {base : Nat} {v : Value} {ss : List ByteArray} (h : OwnS w base v ss) (hb : Below w.heap.size w w') : OwnS w' base v ss := by
  refine World.ownsRow.kept (row := none) h (below_grown hb) ?_
  cases hv : v.ownBlock with
  | none => exact .inl rfl
  | some k => exact .inr (by simp)
theorem OwnS.mono {w : World} {base base' : Nat} {v : Value} {ss : List ByteArray} (h : OwnS w base v ss) (hb : base' ≤ base) : OwnS w base' v ss := by
  obtain ⟨h1, h2⟩ := h
  refine ⟨h1, ?_⟩
  rcases h2 with h2 | ⟨g, cap, cur, e1, e2, e3⟩
  · exact .inl h2
  · exact .inr ⟨g, cap, cur, e1, Nat.le_trans hb e2, e3⟩
theorem OwnS.kept {w w' : World} {base : Nat} {v : Value} {ss : List ByteArray} {r : Option Nat} (h : OwnS w base v ss) (hg : w.grownBy w' r) (hr : ∀ i, v.ownBlock = some i → r ≠ some i) : OwnS w' base v ss := by
  refine World.ownsRow.kept (row := r) h hg ?_
  cases hv : v.ownBlock with
  | none => exact .inl rfl
  | some k => exact .inr (fun e => hr k hv e.symm)
theorem OwnS.lt {w : World} {base : Nat} {v : Value} {ss : List ByteArray} (h : OwnS w base v ss) : ∀ i, v.ownBlock = some i → base ≤ i ∧ i < w.heap.size := fun i e => World.ownsRow.lt h i e
/-- The slice 'a' reads as the texts 'ss' in the world 'w'. -/
def RdS (w : World) (a : Option Addr) (ss : List ByteArray) : Prop :=
  0 < ss.length → ∃ b off, a = some ⟨b, off, none⟩ ∧ b < w.heap.size ∧ ∀ i, i < ss.length → w.cell? ⟨b, off + i, none⟩ = some (.string (ss.getD i ⟨#[]⟩))
theorem RdS.below {w w' : World} {a : Option Addr} {ss : List ByteArray} (h : RdS w a ss) (hb : Below w.heap.size w w') : RdS w' a ss := by
  intro hp
  obtain ⟨b, off, rfl, hlt, hc⟩ := h hp
  refine ⟨b, off, rfl, Nat.lt_of_lt_of_le hlt hb.size, fun i hi => ?_⟩
  rw [hb.cell (p := ⟨b, off + i, none⟩) hlt]
  exact hc i hi
theorem OwnS.cellAt {w : World} {base g n c : Nat} {ss : List ByteArray} (h : OwnS w base (.slice (some ⟨g, 0, none⟩) n c) ss) (i : Nat) (hi : i < ss.length) : w.cell? ⟨g, i, none⟩ = some (.string (ss.getD i ⟨#[]⟩)) := by
  have hn : n = ss.length := by
    rcases h.2 with ⟨h1, _⟩ | ⟨_, _, _, h1, _⟩
    · simp at h1
    · simp at h1; exact h1.2.1
  subst hn
  rw [World.ownsRow.cellAt h i (by omega), svals, List.getElem?_map, List.getElem?_eq_getElem hi, List.getD_eq_getElem?_getD, List.getElem?_eq_getElem hi]
  rfl
theorem OwnS.frozenAt {w : World} {base g n c : Nat} {ss : List ByteArray} (h : OwnS w base (.slice (some ⟨g, 0, none⟩) n c) ss) (i : Nat) : w.frozen? ⟨g, i, none⟩ = false := by
  have hn : n = ss.length := by
    rcases h.2 with ⟨h1, _⟩ | ⟨_, _, _, h1, _⟩
    · simp at h1
    · simp at h1; exact h1.2.1
  subst hn
  exact World.ownsRow.frozenAt h i
theorem OwnS.rds {w : World} {base n c : Nat} {a : Option Addr} {ss : List ByteArray} (h : OwnS w base (.slice a n c) ss) : RdS w a ss := by
  intro hp
  rcases h.2 with ⟨h1, h2⟩ | ⟨g, cap', cur, h1, _⟩
  · omega
  · simp only [Value.slice.injEq] at h1
    obtain ⟨rfl, h2, rfl⟩ := h1
    refine ⟨g, 0, rfl, (World.ownsRow.lt h g rfl).2, fun i hi => ?_⟩
    rw [Nat.zero_add]
    exact h.cellAt i hi
theorem svals_set (ss : List ByteArray) (k : Nat) (c : ByteArray) : (svals ss).set k (.string c) = svals (ss.set k c) := by simp [svals, List.map_set]
theorem OwnS.store {w : World} {base g n c : Nat} {ss : List ByteArray} (h : OwnS w base (.slice (some ⟨g, 0, none⟩) n c) ss) (k : Nat) (x : ByteArray) :
    OwnS (w.setCell ⟨g, k, none⟩ (.string x)) base (.slice (some ⟨g, 0, none⟩) n c) (ss.set k x) ∧ w.grownBy (w.setCell ⟨g, k, none⟩ (.string x)) (some g) := by
  have hn : n = ss.length := by
    rcases h.2 with ⟨h1, _⟩ | ⟨_, _, _, h1, _⟩
    · simp at h1
    · simp at h1; exact h1.2.1
  subst hn
  have := World.ownsRow.stored h k (.string x)
  unfold OwnS
  rw [List.length_set, ← svals_set]
  exact this
/-- append of one text onto a list of the call's own. -/
theorem pushS {ops : Array Oper} {rest : List Oper} {o : Oper} {a : Act} {Q : Exit → Act → World → Prop} (w : World) (hgd : o.guard = none) (s x : Operand)
    (ho : o.op = .call { callee := .builtin .append, args := #[s, x], argTypes := #[34, 34] })
    (base : Nat) (v : Value) (ss : List ByteArray) (hs : a.eval s = v) (hown : OwnS w base v ss) (ad : Addr) (cap : Nat) (c : ByteArray) (hx : a.eval x = .slice (some ad) 1 cap)
    (hc : w.cell? (ad.add 0) = some (.string c)) (hl : ss.length + 1 ≤ 8796093022208) (hbase : base ≤ w.heap.size)
    (h : ∀ g' c' w', OwnS w' base (.slice (some ⟨g', 0, none⟩) (ss.length + 1) c') (ss ++ [c]) → w.grownBy w' v.ownBlock → wpList Try.prog ops Q rest (a.put o.dst (.slice (some ⟨g', 0, none⟩) (ss.length + 1) c')) w') : wpList Try.prog ops Q (o :: rest) a w := by
  obtain ⟨i0, hi, hz0, hz1, hz2⟩ := info_parts infoS
  refine wpList_append_own w hgd s x 34 ho base 9 i0 (.string ⟨#[]⟩) 1 16 Try.underlying34 hi hz0 hz1 hz2 rfl (by omega) v ss.length (svals ss) hs hown ad 1 cap [.string c] hx rfl ?_ ?_ (by unfold maxLen; omega) (by omega) hbase ?_
  · intro j u hu
    cases j with
    | zero => simp at hu; subst hu; exact hc
    | succ j => simp at hu
  · intro u hu
    simp at hu
    subst hu
    rfl
  · intro v' w' h1 h2 _
    rcases h1.2 with ⟨e1, e2⟩ | ⟨g, cp, cur, e1, _⟩
    · omega
    · subst e1
      refine h g cp w' ?_ h2
      unfold OwnS
      rw [List.length_append, svals_append]
      exact h1
end Go.Proofs.Ytmhebaknoginhaa.Ln
