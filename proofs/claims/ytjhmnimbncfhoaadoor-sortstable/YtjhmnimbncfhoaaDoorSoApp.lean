/-
  append on lists of records; two lists compared.
-/
import Derived.Test.YtjhmnimbncfhoaaDoorSoOwn
import Derived.Test.YtjhmnimbncfhoaaDoorBase2
namespace Go.Proofs.YtjhmnimbncfhoaaDoor.So
open Go.ChangeShapes Go.WideShapes Go.ChangeAt Go.RowKit
open Go.Proofs.YtjhmnimbncfhoaaDoor.Base
set_option linter.unusedVariables false
theorem rvals_one (rs : List Rec) : ∀ u ∈ rvals rs, u.oneCell' = true := by
  intro u hu
  unfold rvals at hu
  obtain ⟨r, _, h⟩ := List.mem_flatMap.1 hu
  unfold rv at h
  simp only [List.mem_cons, List.not_mem_nil, or_false] at h
  rcases h with rfl | rfl | rfl <;> rfl
theorem RdR.cellsAt {w : World} {ad : Addr} {m : Nat} {cs : List Rec} (h : RdR w (some ad) m cs) (j : Nat) (u : Value) (hu : (rvals cs)[j]? = some u) : w.cell? (ad.add j) = some u := by
  have hj : j < cs.length * 3 := by
    by_cases q : j < cs.length * 3
    · exact q
    · rw [List.getElem?_eq_none (by rw [length_rvals]; omega)] at hu; cases hu
  have hl := h.1
  obtain ⟨b, off, he, _, hc⟩ := h.2 (by omega)
  have he' := Option.some.inj he
  subst he'
  obtain ⟨a0, a1, a2⟩ := rvals_get cs (j / 3) (by omega)
  obtain ⟨c0, c1, c2⟩ := hc (j / 3) (by omega)
  have e : (⟨b, off, none⟩ : Addr).add j = ⟨b, off + j, none⟩ := by
    unfold Addr.add
    split
    · rename_i h; have h0 : j = 0 := by simpa using h
      subst h0; rfl
    · rfl
  rw [e]
  have h3 : j = j / 3 * 3 ∨ j = j / 3 * 3 + 1 ∨ j = j / 3 * 3 + 2 := by omega
  rcases h3 with h3 | h3 | h3
  · rw [← h3] at a0 c0; rw [c0, ← a0, hu]
  · rw [← h3] at a1; rw [show off + j = off + j / 3 * 3 + 1 by omega, c1, ← a1, hu]
  · rw [← h3] at a2; rw [show off + j = off + j / 3 * 3 + 2 by omega, c2, ← a2, hu]
theorem own_nil (w : World) (base : Nat) : OwnR w base (.slice none 0 0) [] := ⟨by simp [rvals], .inl ⟨rfl, rfl⟩⟩
theorem info_rec : ∃ i, Tryd.prog.info? 27 = some i ∧ i.zero = some (.agg #[.int .i64 0, .string ⟨#[]⟩, .string ⟨#[]⟩]) ∧ i.size = 3 ∧ i.bytes = 40 := by
  have hq := infoR
  cases hi : Tryd.prog.info? 27 with
  | none => simp [hi] at hq
  | some i =>
    simp only [hi, Option.map_some, Option.some.injEq, Prod.mk.injEq] at hq
    exact ⟨i, rfl, hq.1, hq.2.1, hq.2.2⟩
/-- append of a whole slice onto a list of the call's own. -/
theorem joinR {ops : Array Oper} {rest : List Oper} {o : Oper} {a : Act} {Q : Exit → Act → World → Prop} (w : World) (hgd : o.guard = none) (s x : Operand)
    (ho : o.op = .call { callee := .builtin .append, args := #[s, x], argTypes := #[22, 22] })
    (base : Nat) (v : Value) (rs : List Rec) (hs : a.eval s = v) (hown : OwnR w base v rs) (xa : Option Addr) (m cap : Nat) (cs : List Rec) (hx : a.eval x = .slice xa m cap)
    (hr : RdR w xa m cs) (hnil : xa = none → m = 0 ∧ cap = 0) (hl : (rs.length + m) * 40 ≤ 140737488355328) (hbase : base ≤ w.heap.size)
    (h : ∀ v' w', OwnR w' base v' (rs ++ cs) → w.grownBy w' v.ownBlock → wpList Tryd.prog ops Q rest (a.put o.dst v') w') : wpList Tryd.prog ops Q (o :: rest) a w := by
  obtain ⟨i0, hi, hz0, hz1, hz2⟩ := info_rec
  have hcl := hr.1
  cases xa with
  | none =>
    obtain ⟨rfl, rfl⟩ := hnil rfl
    have : cs = [] := List.length_eq_zero_iff.1 hcl
    subst this
    refine wpList_append_own_none hgd s x 22 ho base 27 i0 3 Tryd.underlying22 hi v rs.length (rvals rs) hs hown hx ?_
    exact h v w (by rw [List.append_nil]; exact hown) (World.grownBy.refl _ _)
  | some ad =>
    refine wpList_append_own w hgd s x 22 ho base 27 i0 _ 3 40 Tryd.underlying22 hi hz0 hz1 hz2 rfl (by omega) v rs.length (rvals rs) hs hown ad m cap (rvals cs) hx (by rw [length_rvals]; omega) (fun j u hu => hr.cellsAt j u hu) (rvals_one _) (by unfold maxLen; omega) hl hbase ?_
    intro v' w' h1 h2 _
    exact h v' w' (by unfold OwnR; rw [List.length_append, hcl, rvals_append]; exact h1) h2
end Go.Proofs.YtjhmnimbncfhoaaDoor.So
