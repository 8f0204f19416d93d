/-
  Lists of pairs: as they are read, and as the call's own.
-/
import Derived.Test.YthdblnfohbldcaaGreatPaStrsJ
import Derived.Deep.AppendLies
import Derived.Laws.StructEq
namespace Go.Proofs.YthdblnfohbldcaaGreat.Jb
open Go.ChangeShapes Go.WideShapes Go.ChangeAt Go.RowKit
open Go.Proofs.YthdblnfohbldcaaGreat.Base
set_option linter.unusedVariables false
abbrev Pr := ByteArray × ByteArray
def pr0 : Pr := (⟨#[]⟩, ⟨#[]⟩)
def pv (p : Pr) : List Value := [.string p.1, .string p.2]
def pvals (ps : List Pr) : List Value := ps.flatMap pv
theorem pvals_cons (p : Pr) (ps : List Pr) : pvals (p :: ps) = pv p ++ pvals ps := by unfold pvals; rw [List.flatMap_cons]
theorem pvals_append (a b : List Pr) : pvals (a ++ b) = pvals a ++ pvals b := by unfold pvals; rw [List.flatMap_append]
theorem length_pvals (ps : List Pr) : (pvals ps).length = ps.length * 2 := by
  induction ps with
  | nil => rfl
  | cons r rs ih => rw [pvals_cons, List.length_append, ih, List.length_cons]; simp [pv]; omega
theorem pvals_one (ps : List Pr) : ∀ v ∈ pvals ps, v.oneCell' = true := by
  intro v hv
  unfold pvals at hv
  obtain ⟨p, _, hp⟩ := List.mem_flatMap.1 hv
  simp only [pv, List.mem_cons, List.not_mem_nil, or_false] at hp
  rcases hp with rfl | rfl <;> rfl
theorem pvals_get : ∀ (ps : List Pr) (j : Nat), j < ps.length → (pvals ps)[j * 2]? = some (.string (ps.getD j pr0).1) ∧ (pvals ps)[j * 2 + 1]? = some (.string (ps.getD j pr0).2)
  | [], j, h => by simp at h
  | r :: rs, 0, _ => by rw [pvals_cons]; exact ⟨rfl, rfl⟩
  | r :: rs, j + 1, h => by
    have ih := pvals_get rs j (by simpa using h)
    have e : ∀ c, (pvals (r :: rs))[(j + 1) * 2 + c]? = (pvals rs)[j * 2 + c]? := fun c => by
      rw [pvals_cons, List.getElem?_append_right (by simp [pv]; omega)]
      congr 1
      simp [pv]; omega
    have e0 := e 0
    rw [Nat.add_zero, Nat.add_zero] at e0
    rw [e0, e 1]
    simpa using ih
theorem pvals_set : ∀ (ps : List Pr) (i : Nat) (p : Pr), ((pvals ps).set (i * 2) (.string p.1)).set (i * 2 + 1) (.string p.2) = pvals (ps.set i p)
  | [], i, p => by simp [pvals]
  | r :: rs, 0, p => by rw [List.set_cons_zero, pvals_cons, pvals_cons]; rfl
  | r :: rs, i + 1, p => by
    rw [List.set_cons_succ, pvals_cons, pvals_cons, ← pvals_set rs i p, show (i + 1) * 2 = i * 2 + 1 + 1 by omega]
    rfl
/-- The slice leads to a row of pairs of the call's own, from the block base on. -/
def OwnP (w : World) (base : Nat) (v : Value) (ps : List Pr) : Prop := w.ownsRow base 61 2 v ps.length (pvals ps)
/-- The slice reads as pairs. -/
def RdP (w : World) (a : Option Addr) (len : Nat) (ps : List Pr) : Prop :=
  ps.length = len ∧ (0 < len → ∃ b off, a = some ⟨b, off, none⟩ ∧ b < w.heap.size ∧ ∀ j, j < len → w.cell? ⟨b, off + j * 2, none⟩ = some (.string (ps.getD j pr0).1) ∧ w.cell? ⟨b, off + j * 2 + 1, none⟩ = some (.string (ps.getD j pr0).2))
theorem RdP.below {w w' : World} {a : Option Addr} {len : Nat} {ps : List Pr} (h : RdP w a len ps) (hb : Below w.heap.size w w') : RdP w' a len ps := by
  refine ⟨h.1, fun hp => ?_⟩
  obtain ⟨b, off, rfl, hl, hc⟩ := h.2 hp
  exact ⟨b, off, rfl, Nat.lt_of_lt_of_le hl hb.size, fun j hj => ⟨(hb.cell (p := ⟨b, off + j * 2, none⟩) hl).trans (hc j hj).1, (hb.cell (p := ⟨b, off + j * 2 + 1, none⟩) hl).trans (hc j hj).2⟩⟩
theorem OwnP.shape {w : World} {base : Nat} {v : Value} {ps : List Pr} (h : OwnP w base v ps) : ∃ a c, v = .slice a ps.length c ∧ ps.length ≤ c := by
  rcases h.2 with ⟨h1, h2⟩ | ⟨g, cap, cur, h1, _, _, h2, _⟩
  · exact ⟨none, 0, by rw [h1, h2], by omega⟩
  · exact ⟨_, _, h1, h2⟩
theorem OwnP.rdp {w : World} {base : Nat} {a : Option Addr} {n cap : Nat} {ps : List Pr} (h : OwnP w base (.slice a n cap) ps) : RdP w a n ps := by
  rcases h.2 with ⟨h1, h2⟩ | ⟨g', cap', cur, h1, h2, h3, h4, h5, h6, h7⟩
  · simp only [Value.slice.injEq] at h1
    obtain ⟨rfl, rfl, rfl⟩ := h1
    exact ⟨h2, fun h => by omega⟩
  · simp only [Value.slice.injEq] at h1
    obtain ⟨rfl, rfl, rfl⟩ := h1
    refine ⟨rfl, fun _ => ⟨g', 0, rfl, (Array.getElem?_eq_some_iff.1 h3).1, fun j hj => ?_⟩⟩
    obtain ⟨a, b⟩ := pvals_get ps j hj
    rw [Nat.zero_add]
    rw [World.ownsRow.cellAt h (j * 2) (by omega), World.ownsRow.cellAt h (j * 2 + 1) (by omega)]
    exact ⟨a, b⟩
theorem OwnP.same {w w' : World} {base : Nat} {v : Value} {ps : List Pr} (h : OwnP w base v ps) (hb : ∀ i, v.ownBlock = some i → w'.heap[i]? = w.heap[i]?) : OwnP w' base v ps := by
  obtain ⟨h1, h2⟩ := h
  refine ⟨h1, ?_⟩
  rcases h2 with h2 | ⟨g, cap, cur, e1, e2, e3, e4⟩
  · exact .inl h2
  · subst e1
    exact .inr ⟨g, cap, cur, rfl, e2, by rw [hb g rfl]; exact e3, e4⟩
theorem OwnP.blk {w : World} {base : Nat} {v : Value} {ps : List Pr} (h : OwnP w base v ps) : ∀ i, v.ownBlock = some i → base ≤ i ∧ i < w.heap.size := fun i e => World.ownsRow.lt h i e
theorem OwnP.below {w w' : World} {base : Nat} {v : Value} {ps : List Pr} (h : OwnP w base v ps) (hb : Below w.heap.size w w') : OwnP w' base v ps :=
  h.same (fun i hi => hb.block i (h.blk i hi).2)
theorem OwnP.kept {w w' : World} {base : Nat} {v : Value} {ps : List Pr} {q : Option Nat} (h : OwnP w base v ps) (hg : w.grownBy w' q) (hne : ∀ i j, v.ownBlock = some i → q = some j → i ≠ j) : OwnP w' base v ps := by
  refine World.ownsRow.kept (row := q) h hg ?_
  cases hv : v.ownBlock with
  | none => exact .inl rfl
  | some i => exact .inr (fun e => hne i i hv e.symm rfl)
theorem ownp_none (w : World) (base : Nat) : OwnP w base (.slice none 0 0) [] := ⟨rfl, .inl ⟨rfl, rfl⟩⟩
theorem infoP : (Tryz.prog.info? 61).map (fun i => (i.zero, i.size, i.bytes)) = some (some (.agg #[.string ⟨#[]⟩, .string ⟨#[]⟩]), 2, 32) := by kernel_rfl
/-- append of one pair. -/
theorem pushP {ops : Array Oper} {rest : List Oper} {o : Oper} {a : Act} {Q : Exit → Act → World → Prop} (w : World) (hgd : o.guard = none) (s x : Operand)
    (ho : o.op = .call { callee := .builtin .append, args := #[s, x], argTypes := #[22, 22] })
    (base : Nat) (v : Value) (ps : List Pr) (hs : a.eval s = v) (hown : OwnP w base v ps) (g0 : Nat) (p : Pr) (hx : a.eval x = .slice (some ⟨g0, 0, none⟩) 1 1)
    (hr : w.heap[g0]? = some (.cells #[.string p.1, .string p.2] 61)) (hl : (ps.length + 1) * 32 ≤ 140737488355328) (hbase : base ≤ w.heap.size)
    (h : ∀ g cap w', OwnP w' base (.slice (some ⟨g, 0, none⟩) (ps.length + 1) cap) (ps ++ [p]) → w.grownBy w' v.ownBlock → (v.ownBlock = some g ∨ g = w.heap.size) → wpList Tryz.prog ops Q rest (a.put o.dst (.slice (some ⟨g, 0, none⟩) (ps.length + 1) cap)) w') : wpList Tryz.prog ops Q (o :: rest) a w := by
  obtain ⟨i0, hi, hz0, hz1, hz2⟩ := info_parts infoP
  refine wpList_append_lies w hgd s x 22 ho base 61 i0 _ 2 32 Tryz.underlying22 hi hz0 hz1 hz2 rfl (by omega) v ps.length (pvals ps) hs hown ⟨g0, 0, none⟩ 1 1 (pvals [p]) hx rfl (fun j u hu => ?_) (pvals_one _) (by omega) (by unfold maxLen; omega) hl hbase w.heap.size rfl ?_
  · match j, hu with
    | 0, hu =>
      have e : some (Value.string p.1) = some u := hu
      show w.cell? ⟨g0, 0, none⟩ = some u
      rw [← e, cell_of_row _ _ _ _ _ _ hr]; rfl
    | 1, hu =>
      have e : some (Value.string p.2) = some u := hu
      show w.cell? ⟨g0, 1, none⟩ = some u
      rw [← e, cell_of_row _ _ _ _ _ _ hr]; rfl
    | j + 2, hu => cases hu
  · intro g cap w' h1 h2 h3 _
    exact h g cap w' (by unfold OwnP; rw [List.length_append, pvals_append]; exact h1) h2 h3
theorem ownp_one {w : World} {base g : Nat} (p : Pr) (hr : w.heap[g]? = some (.cells #[.string p.1, .string p.2] 61)) (hb : base ≤ g) : OwnP w base (.slice (some ⟨g, 0, none⟩) 1 1) [p] :=
  ⟨rfl, .inr ⟨g, 1, _, rfl, hb, hr, Nat.le_refl _, by unfold maxLen; omega, rfl, rfl⟩⟩
/-- A pair of a list of the call's own is written. -/
theorem OwnP.put {w : World} {base g n c : Nat} {ps : List Pr} (h : OwnP w base (.slice (some ⟨g, 0, none⟩) n c) ps) (i : Nat) (p : Pr) :
    OwnP ((w.setCell ⟨g, i * 2, none⟩ (.string p.1)).setCell ⟨g, i * 2 + 1, none⟩ (.string p.2)) base (.slice (some ⟨g, 0, none⟩) n c) (ps.set i p) ∧ w.grownBy ((w.setCell ⟨g, i * 2, none⟩ (.string p.1)).setCell ⟨g, i * 2 + 1, none⟩ (.string p.2)) (some g) := by
  have hn : n = ps.length := by
    rcases h.2 with ⟨h1, _⟩ | ⟨_, _, _, h1, _⟩
    · simp at h1
    · simp at h1; exact h1.2.1
  subst hn
  obtain ⟨h1, h2⟩ := World.ownsRow.stored h (i * 2) (.string p.1)
  obtain ⟨h3, h4⟩ := World.ownsRow.stored h1 (i * 2 + 1) (.string p.2)
  rw [pvals_set] at h3
  exact ⟨by unfold OwnP; rw [List.length_set]; exact h3, h2.trans h4⟩
theorem OwnP.frozen {w : World} {base g n cap : Nat} {ps : List Pr} (h : OwnP w base (.slice (some ⟨g, 0, none⟩) n cap) ps) (k : Nat) : w.frozen? ⟨g, k, none⟩ = false := by
  have hn : n = ps.length := by
    rcases h.2 with ⟨h1, _⟩ | ⟨_, _, _, h1, _⟩
    · simp at h1
    · simp at h1; exact h1.2.1
  subst hn
  exact World.ownsRow.frozenAt h k
end Go.Proofs.YthdblnfohbldcaaGreat.Jb
