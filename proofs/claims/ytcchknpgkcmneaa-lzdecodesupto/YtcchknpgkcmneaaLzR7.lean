/-
  A list of tokens of the call's own, as the document's answers make it.
-/
import Derived.Test.YtcchknpgkcmneaaLzR6
import Derived.Test.YtcchknpgkcmneaaLzR3
namespace Go.Proofs.Ytcchknpgkcmneaa.Lz
open Go.ChangeShapes Go.WideShapes Go.ChangeAt Go.RowKit
open Go.Proofs.Ytcchknpgkcmneaa.Base Go.Proofs.Ytcchknpgkcmneaa.Nums
set_option linter.unusedVariables false
/-- The slice v leads to tokens of the call's own, their Lits too. -/
structure RToks (w : World) (base : Nat) (v : Value) (ps : List (Value × Tok)) : Prop where
  row : w.ownsRow base 61 3 v ps.length (cellsOf ps)
  lits : ∀ p, p ∈ ps → Own w base p.1 p.2.lit
theorem rtoks_none (w : World) (base : Nat) : RToks w base (.slice none 0 0) [] := ⟨World.ownsRow_nil _ _ _ _, fun p h => by simp at h⟩
theorem RToks.below {w w' : World} {base : Nat} {v : Value} {ps : List (Value × Tok)} (h : RToks w base v ps) (hb : Below w.heap.size w w') : RToks w' base v ps := by
  refine ⟨World.ownsRow.kept (row := none) h.row (below_grown hb) ?_, fun p hp => (h.lits p hp).below hb⟩
  cases v.ownBlock with
  | none => exact .inl rfl
  | some i => exact .inr (by simp)
theorem RToks.keep {w w' : World} {base : Nat} {v : Value} {ps : List (Value × Tok)} {r : Option Nat} (h : RToks w base v ps) (hg : w.grownBy w' r) (h1 : ∀ i, r = some i → i < base) : RToks w' base v ps := by
  refine ⟨World.ownsRow.kept (row := r) h.row hg ?_, fun p hp => Base.keep (h.lits p hp) hg (fun i j e1 e2 e => ?_)⟩
  · cases hv : v.ownBlock with
    | none => exact .inl rfl
    | some i => exact .inr (fun e => by have := (World.ownsRow.lt h.row i hv).1; have := h1 i e.symm; omega)
  · have := (blk (h.lits p hp) i e1).1
    have := h1 j e2
    omega
theorem RToks.mono {w : World} {base base' : Nat} {v : Value} {ps : List (Value × Tok)} (h : RToks w base v ps) (hb : base' ≤ base) : RToks w base' v ps :=
  ⟨⟨h.row.1, by
    rcases h.row.2 with h | ⟨g, cap, cur, e1, e2, e3⟩
    · exact .inl h
    · exact .inr ⟨g, cap, cur, e1, by omega, e3⟩⟩, fun p hp => (h.lits p hp).mono hb⟩
theorem RToks.named {w : World} {base : Nat} {v : Value} {ps : List (Value × Tok)} (h : RToks w base v ps) : ∃ a n c, v = .slice a n c ∧ Hid (n = ps.length) := by
  rcases h.row.2 with ⟨e1, e2⟩ | ⟨g, cap, cur, e1, _⟩
  · exact ⟨_, _, _, e1, e2.symm⟩
  · exact ⟨_, _, _, e1, rfl⟩
theorem RToks.add {w w' : World} {base n' : Nat} {v v' u : Value} {ps : List (Value × Tok)} {t : Tok} (h : RToks w base v ps) (hrow : w'.ownsRow base 61 3 v' n' (cellsOf ps ++ [u, .int .i64 t.dist, .int .i64 t.len])) (hn : n' = ps.length + 1) (hg : w.grownBy w' v.ownBlock)
    (hl : Own w base u t.lit) : RToks w' base v' (ps ++ [(u, t)]) := by
  have keepL : ∀ {u : Value} {bs : List (BitVec 8)}, Own w base u bs → Own w' base u bs := fun {u bs} ho => Base.keep ho hg (fun i j e1 e2 e => by
    subst e; exact row_lit h.row ho i e2 e1)
  refine ⟨?_, fun p hp => ?_⟩
  · rw [List.length_append, cellsOf_append]
    have : ps.length + [((u, t) : Value × Tok)].length = n' := by rw [hn]; rfl
    rw [this]
    exact hrow
  · rcases List.mem_append.1 hp with hp | hp
    · exact keepL (h.lits p hp)
    · simp only [List.mem_singleton] at hp; subst hp; exact keepL hl
theorem own_caps {w : World} {base n c : Nat} {a : Option Addr} {bs : List (BitVec 8)} (h : Own w base (.slice a n c) bs) : n ≤ c ∧ c ≤ 9223372036854775807 := by
  rcases h.2 with ⟨e1, e2⟩ | ⟨g, cap, cur, e1, _, _, e2, e3, _⟩
  · simp only [Value.slice.injEq] at e1; omega
  · simp only [Value.slice.injEq] at e1
    obtain ⟨rfl, rfl, rfl⟩ := e1
    unfold maxLen at e3
    omega
/-- Such a list reads as its tokens. -/
theorem RToks.trd {w : World} {base n c : Nat} {a : Option Addr} {ps : List (Value × Tok)} (h : RToks w base (.slice a n c) ps) (hl : ∀ p, p ∈ ps → p.2.lit.length ≤ 65536) (hn : ps.length ≤ 65536) : TRd w a n (ps.map (·.2)) := by
  have hlen : n = ps.length := by
    rcases h.row.2 with ⟨e1, e2⟩ | ⟨g, cap, cur, e1, _⟩
    · simp only [Value.slice.injEq] at e1; omega
    · simp only [Value.slice.injEq] at e1; exact e1.2.1
  refine ⟨by simp; omega, by omega, fun hp => ?_⟩
  rcases h.row.2 with ⟨e1, e2⟩ | ⟨g, cap, cur, e1, _⟩
  · omega
  · simp only [Value.slice.injEq] at e1
    obtain ⟨rfl, _, rfl⟩ := e1
    subst hlen
    refine ⟨g, 0, rfl, (World.ownsRow.lt h.row g rfl).2, fun i hi => ?_⟩
    obtain ⟨c0, c1, c2⟩ := cellsOf_get ps i hi
    have hm : ps[i] ∈ ps := List.getElem_mem hi
    have ho := h.lits _ hm
    obtain ⟨la, ln, lc, hv, hln⟩ := own_named ho
    have hln' : ln = (ps[i]).2.lit.length := hln
    have ht : tokAt (ps.map (·.2)) i = (ps[i]).2 := by
      unfold tokAt
      rw [List.getD_eq_getElem?_getD, List.getElem?_map, List.getElem?_eq_getElem hi]; rfl
    rw [ht]
    have ho' := ho
    rw [hv] at ho' c0
    refine ⟨_, _, _, ?_, ?_, ?_, Got.rd ho' (by have := hl _ hm; omega), (own_caps ho').1, (own_caps ho').2, Got.nil ho'⟩
    · rw [Nat.zero_add, World.ownsRow.cellAt h.row (i * 3) (by omega)]; exact c0
    · rw [Nat.zero_add, World.ownsRow.cellAt h.row (i * 3 + 1) (by omega)]; exact c1
    · rw [Nat.zero_add, World.ownsRow.cellAt h.row (i * 3 + 2) (by omega)]; exact c2
theorem run04 (x : Txt) (j i most : Nat) (h4 : 4 ≤ most) (h : same4 x j i = true) : runFrom x j i most 0 = runFrom x j i most 4 := by
  unfold same4 at h
  rw [decide_eq_true_iff] at h
  rw [runFrom_go x j i most 0 (by omega) h.1, runFrom_go x j i most 1 (by omega) h.2.1, runFrom_go x j i most 2 (by omega) h.2.2.1, runFrom_go x j i most 3 (by omega) h.2.2.2]
theorem own_tail (x : Txt) (frm : Nat) : ∀ d i, x.length - i = d → d < 4 → i ≤ x.length → ownFrom x i frm = if frm < x.length then [⟨x.drop frm, 0, 0⟩] else [] := by
  intro d
  induction d with
  | zero => intro i h1 h2 h3; exact own_end x i frm (by omega)
  | succ d ih =>
    intro i h1 h2 h3
    have hb : best x i = (0, 0) := by unfold best; rw [if_pos (by omega)]
    rw [own_skip x i frm (by omega) (by rw [hb]; simp)]
    exact ih (i + 1) (by omega) (by omega) (by omega)
end Go.Proofs.Ytcchknpgkcmneaa.Lz
