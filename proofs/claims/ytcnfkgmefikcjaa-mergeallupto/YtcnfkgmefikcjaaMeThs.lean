/-
  Lists of things of the call's own: append of a whole slice, slice expressions, a name written.
-/
import Derived.Test.YtcnfkgmefikcjaaMeRunC
import Derived.Laws.AppendOwnNone
namespace Go.Proofs.Ytcnfkgmefikcjaa.Me
open Go.ChangeShapes Go.WideShapes Go.ChangeAt Go.RowKit
open Go.Proofs.Ytcnfkgmefikcjaa.Base
set_option linter.unusedVariables false
theorem thv_cons (t : Th) (L : List Th) : thv (t :: L) = [.int .i64 t.key, .int .i64 t.name] ++ thv L := by unfold thv; rw [List.flatMap_cons]
theorem length_thv (L : List Th) : (thv L).length = L.length * 2 := by
  induction L with
  | nil => rfl
  | cons r rs ih => rw [thv_cons, List.length_append, ih, List.length_cons]; simp; omega
theorem thv_get : ∀ (L : List Th) (j : Nat), j < L.length → (thv L)[j * 2]? = some (.int .i64 (L.getD j th0).key) ∧ (thv L)[j * 2 + 1]? = some (.int .i64 (L.getD j th0).name)
  | [], j, h => by simp at h
  | r :: rs, 0, _ => by rw [thv_cons]; exact ⟨rfl, rfl⟩
  | r :: rs, j + 1, h => by
    have ih := thv_get rs j (by simpa using h)
    have e : ∀ c, (thv (r :: rs))[(j + 1) * 2 + c]? = (thv rs)[j * 2 + c]? := fun c => by
      rw [thv_cons, List.getElem?_append_right (by simp; omega)]
      congr 1
      simp; omega
    have e0 := e 0
    rw [Nat.add_zero, Nat.add_zero] at e0
    rw [e0, e 1]
    simpa using ih
theorem thv_one (L : List Th) : ∀ u ∈ thv L, u.oneCell' = true := by
  intro u hu
  unfold thv at hu
  obtain ⟨r, _, h⟩ := List.mem_flatMap.1 hu
  simp only [List.mem_cons, List.not_mem_nil, or_false] at h
  rcases h with rfl | rfl <;> rfl
theorem ad_eq (b off n : Nat) : (⟨b, off, none⟩ : Addr).add n = ⟨b, off + n, none⟩ := by
  unfold Addr.add
  split
  · rename_i h; have h0 : n = 0 := by simpa using h
    subst h0; rfl
  · rfl
theorem RdH.cellsAt {w : World} {ad : Addr} {ts : List Th} (h : RdH w (some ad) ts) (j : Nat) (u : Value) (hu : (thv ts)[j]? = some u) : w.cell? (ad.add j) = some u := by
  have hj : j < ts.length * 2 := by
    by_cases q : j < ts.length * 2
    · exact q
    · rw [List.getElem?_eq_none (by rw [length_thv]; omega)] at hu; cases hu
  obtain ⟨b, off, he, _, hc⟩ := h (by omega)
  have he' := Option.some.inj he
  subst he'
  obtain ⟨a0, a1⟩ := thv_get ts (j / 2) (by omega)
  obtain ⟨c0, c1⟩ := hc (j / 2) (by omega)
  rw [ad_eq]
  have h3 : j = j / 2 * 2 ∨ j = j / 2 * 2 + 1 := by omega
  rcases h3 with h3 | h3
  · rw [← h3] at a0 c0; rw [c0, ← a0, hu]
  · rw [← h3] at a1; rw [show off + j = off + j / 2 * 2 + 1 by omega, c1, ← a1, hu]
/-- append of a whole slice onto a list of the call's own. -/
theorem joinT {ops : Array Oper} {rest : List Oper} {o : Oper} {a : Act} {Q : Exit → Act → World → Prop} (w : World) (hgd : o.guard = none) (s x : Operand)
    (ho : o.op = .call { callee := .builtin .append, args := #[s, x], argTypes := #[30, 30] })
    (base : Nat) (v : Value) (rs : List Th) (hs : a.eval s = v) (hown : OwnT w base v rs) (xa : Option Addr) (m cap : Nat) (cs : List Th) (hx : a.eval x = .slice xa m cap)
    (hm : cs.length = m) (hr : RdH w xa cs) (hnil : xa = none → m = 0 ∧ cap = 0) (hl : (rs.length + m) * 16 ≤ 140737488355328) (hbase : base ≤ w.heap.size)
    (h : ∀ v' w', OwnT w' base v' (rs ++ cs) → w.grownBy w' v.ownBlock → wpList Try.prog ops Q rest (a.put o.dst v') w') : wpList Try.prog ops Q (o :: rest) a w := by
  obtain ⟨i0, hi, hz0, hz1, hz2⟩ := info_th
  cases xa with
  | none =>
    obtain ⟨rfl, rfl⟩ := hnil rfl
    have : cs = [] := List.length_eq_zero_iff.1 hm
    subst this
    refine wpList_append_own_none hgd s x 30 ho base 36 i0 2 Try.underlying30 hi v rs.length (thv rs) hs hown hx ?_
    exact h v w (by rw [List.append_nil]; exact hown) (World.grownBy.refl _ _)
  | some ad =>
    refine wpList_append_own w hgd s x 30 ho base 36 i0 _ 2 16 Try.underlying30 hi hz0 hz1 hz2 rfl (by omega) v rs.length (thv rs) hs hown ad m cap (thv cs) hx (by rw [length_thv]; omega) (fun j u hu => hr.cellsAt j u hu) (thv_one _) (by unfold maxLen; omega) hl hbase ?_
    intro v' w' h1 h2 _
    exact h v' w' (by unfold OwnT; rw [List.length_append, hm, thv_append]; exact h1) h2
theorem ownT_nil (w : World) (base : Nat) : OwnT w base (.slice none 0 0) [] := ⟨rfl, .inl ⟨rfl, rfl⟩⟩
theorem OwnT.shape {w : World} {base : Nat} {v : Value} {L : List Th} (h : OwnT w base v L) : (L = [] ∧ v = .slice none 0 0) ∨ ∃ g c, v = .slice (some ⟨g, 0, none⟩) L.length c ∧ L.length ≤ c ∧ c ≤ maxLen ∧ base ≤ g ∧ g < w.heap.size := by
  rcases h.2 with ⟨h1, h2⟩ | ⟨g, cap, cur, h1, h2, h3, h4, h5, _⟩
  · exact .inl ⟨List.length_eq_zero_iff.1 h2, h1⟩
  · exact .inr ⟨g, cap, h1, h4, h5, h2, lt_row h3⟩
theorem OwnT.shape' {w : World} {base : Nat} {v : Value} {L : List Th} (h : OwnT w base v L) : ∃ a c, v = .slice a L.length c ∧ L.length ≤ c ∧ (a = none → L.length = 0 ∧ c = 0) := by
  rcases h.shape with ⟨rfl, rfl⟩ | ⟨g, c, rfl, h1, _⟩
  · exact ⟨none, 0, rfl, Nat.le_refl _, fun _ => ⟨rfl, rfl⟩⟩
  · exact ⟨_, c, rfl, h1, fun h => nomatch h⟩
theorem OwnT.cells {w : World} {base g n c : Nat} {L : List Th} (h : OwnT w base (.slice (some ⟨g, 0, none⟩) n c) L) (j : Nat) (hj : j < L.length) : w.cell? ⟨g, j * 2, none⟩ = some (.int .i64 (L.getD j th0).key) ∧ w.cell? ⟨g, j * 2 + 1, none⟩ = some (.int .i64 (L.getD j th0).name) := by
  rcases h.2 with ⟨h1, h2⟩ | ⟨g', cap', cur, h1, h2, h3, h4, h5, h6, h7⟩
  · cases h1
  · simp only [Value.slice.injEq, Option.some.injEq, Addr.mk.injEq] at h1
    obtain ⟨⟨rfl, _⟩, _, rfl⟩ := h1
    obtain ⟨a, b⟩ := thv_get L j hj
    rw [← h7] at a b
    rw [List.getElem?_take_of_lt (by omega), Array.getElem?_toList] at a b
    exact ⟨by rw [cell_of_row _ _ _ _ _ _ h3]; exact a, by rw [cell_of_row _ _ _ _ _ _ h3]; exact b⟩
theorem OwnT.rd {w : World} {base : Nat} {a : Option Addr} {n c : Nat} {L : List Th} (h : OwnT w base (.slice a n c) L) : RdH w a L := fun hp => by
  rcases h.shape with ⟨rfl, _⟩ | ⟨g, c', he, _, _, _, hg⟩
  · simp at hp
  · simp only [Value.slice.injEq] at he
    obtain ⟨rfl, rfl, rfl⟩ := he
    refine ⟨g, 0, rfl, hg, fun j hj => ?_⟩
    rw [Nat.zero_add]
    exact h.cells j hj
theorem OwnT.frozen {w : World} {base g n c : Nat} {L : List Th} (h : OwnT w base (.slice (some ⟨g, 0, none⟩) n c) L) (k : Nat) : w.frozen? ⟨g, k, none⟩ = false := by
  rcases h.2 with ⟨h1, h2⟩ | ⟨g', cap', cur, h1, h2, h3, _⟩
  · cases h1
  · simp only [Value.slice.injEq, Option.some.injEq, Addr.mk.injEq] at h1
    obtain ⟨⟨rfl, _⟩, _, rfl⟩ := h1
    exact frozen_of_row _ _ _ _ _ h3
theorem OwnT.same {w w' : World} {base : Nat} {v : Value} {L : List Th} (h : OwnT w base v L) (hb : ∀ i, v.ownBlock = some i → w'.heap[i]? = w.heap[i]?) : OwnT w' base v L := row_same h hb
theorem OwnT.below {w w' : World} {base : Nat} {v : Value} {L : List Th} (h : OwnT w base v L) (hb : Below w.heap.size w w') : OwnT w' base v L := row_same h (fun i hi => hb.block i (row_blk h i hi).2)
theorem OwnT.mono {w : World} {b b' : Nat} {v : Value} {L : List Th} (h : OwnT w b v L) (hb : b' ≤ b) : OwnT w b' v L := by
  obtain ⟨h1, h2⟩ := h
  refine ⟨h1, ?_⟩
  rcases h2 with h2 | ⟨g, cap, cur, e1, e2, e3⟩
  · exact .inl h2
  · exact .inr ⟨g, cap, cur, e1, Nat.le_trans hb e2, e3⟩
/-- A name is written. -/
def setNm (L : List Th) (k : Nat) (x : Int) : List Th := L.set k ⟨(L.getD k th0).key, x⟩
theorem length_setNm (L : List Th) (k : Nat) (x : Int) : (setNm L k x).length = L.length := by unfold setNm; rw [List.length_set]
theorem getD_setNm (L : List Th) (k : Nat) (x : Int) (j : Nat) (hk : k < L.length) : (setNm L k x).getD j th0 = if j = k then ⟨(L.getD k th0).key, x⟩ else L.getD j th0 := by
  unfold setNm
  rw [List.getD_eq_getElem?_getD, List.getElem?_set]
  by_cases e : j = k
  · subst e; rw [if_pos rfl, if_pos rfl, if_pos hk]; rfl
  · rw [if_neg e, if_neg (fun q => e q.symm), List.getD_eq_getElem?_getD]
theorem thv_set : ∀ (L : List Th) (k : Nat) (x : Int), k < L.length → thv (setNm L k x) = (thv L).set (k * 2 + 1) (.int .i64 x)
  | [], k, x, h => by simp at h
  | r :: rs, 0, x, _ => by unfold setNm; simp [thv_cons]
  | r :: rs, k + 1, x, h => by
    have ih := thv_set rs k x (by simpa using h)
    have e : setNm (r :: rs) (k + 1) x = r :: setNm rs k x := by unfold setNm; simp
    rw [e, thv_cons, ih, thv_cons, show (k + 1) * 2 + 1 = (k * 2 + 1) + 1 + 1 by omega]
    rfl
theorem OwnT.set {w : World} {base g n c : Nat} {L : List Th} (h : OwnT w base (.slice (some ⟨g, 0, none⟩) n c) L) (k : Nat) (hk : k < L.length) (x : Int) : OwnT (w.setCell ⟨g, k * 2 + 1, none⟩ (.int .i64 x)) base (.slice (some ⟨g, 0, none⟩) n c) (setNm L k x) := by
  rcases h.2 with ⟨h1, h2⟩ | ⟨g', cap', cur, h1, h2, h3, h4, h5, h6, h7⟩
  · cases h1
  · simp only [Value.slice.injEq, Option.some.injEq, Addr.mk.injEq] at h1
    obtain ⟨⟨rfl, _⟩, rfl, rfl⟩ := h1
    refine ⟨by rw [length_thv, length_setNm], .inr ⟨g, c, cur.setIfInBounds (k * 2 + 1) (.int .i64 x), by rw [length_setNm], h2, heap_setCell_same _ _ _ _ _ _ h3, by rw [length_setNm]; exact h4, h5, by rw [Array.size_setIfInBounds]; exact h6, ?_⟩⟩
    rw [length_setNm, thv_set _ _ _ hk, ← h7, Array.toList_setIfInBounds, List.take_set]
theorem elT : Try.prog.underlying 30 = some (.slice (Try.prog.elem 30)) := by kernel_rfl
theorem szT (W : World) : (sizeOf (Try.prog.elem 30)).run Try.prog W = .ok 2 W := by
  have h : (Try.prog.info? (Try.prog.elem 30)).map (·.size) = some 2 := by kernel_rfl
  cases hq : Try.prog.info? (Try.prog.elem 30) with
  | none => simp [hq] at h
  | some i => simp [hq] at h; simp [sizeOf, typeInfo, hq, h]
/-- 'l[e:]'. -/
theorem cutT_l (b off len cap e : Nat) (h : e ≤ len) (hc : len ≤ cap) : ∃ la : Addr, (∀ W, (Instr.sliceAt 30 (.slice (some ⟨b, off, none⟩) len cap) (some (.int .i64 (e : Int))) none none).run Try.prog W = .ok (.slice (some la) (len - e) (cap - e)) W) ∧
    (e < len → la = ⟨b, off + e * 2, none⟩) := by
  refine ⟨if cap = e then ⟨b, off, none⟩ else ⟨b, off + e * 2, none⟩, fun W => ?_, fun hc => by rw [if_neg (by omega)]⟩
  rw [run_sliceAt_slice (h := elT), run_slice_l (ht := elT) (h0 := by omega) (h1 := by omega), szT]
  simp only [Result.andThen, sliced, Int.toNat_natCast]
  by_cases hc : cap = e
  · rw [if_pos hc, if_pos hc]
  · rw [if_neg hc, if_neg hc]
    simp [ad_eq]
theorem RdH.take {w : World} {a : Option Addr} {ts : List Th} (h : RdH w a ts) (n : Nat) : RdH w a (ts.take n) := fun hp => by
  rw [List.length_take] at hp
  obtain ⟨b, off, e1, e2, e3⟩ := h (by omega)
  refine ⟨b, off, e1, e2, fun j hj => ?_⟩
  rw [List.length_take] at hj
  have e : (ts.take n).getD j th0 = ts.getD j th0 := by rw [List.getD_eq_getElem?_getD, List.getElem?_take_of_lt (by omega), List.getD_eq_getElem?_getD]
  rw [e]
  exact e3 j (by omega)
theorem RdH.drop {w : World} {b off : Nat} {ts : List Th} (h : RdH w (some ⟨b, off, none⟩) ts) (n : Nat) (la : Addr) (hla : n < ts.length → la = ⟨b, off + n * 2, none⟩) : RdH w (some la) (ts.drop n) := fun hp => by
  rw [List.length_drop] at hp
  obtain ⟨b', off', e1, e2, e3⟩ := h (by omega)
  simp only [Option.some.injEq, Addr.mk.injEq] at e1
  obtain ⟨rfl, rfl, _⟩ := e1
  refine ⟨b, off + n * 2, by rw [hla (by omega)], e2, fun j hj => ?_⟩
  rw [List.length_drop] at hj
  have e : (ts.drop n).getD j th0 = ts.getD (n + j) th0 := by rw [List.getD_eq_getElem?_getD, List.getElem?_drop, List.getD_eq_getElem?_getD]
  obtain ⟨c0, c1⟩ := e3 (n + j) (by omega)
  rw [e, show off + n * 2 + j * 2 = off + (n + j) * 2 by omega]
  exact ⟨c0, c1⟩
end Go.Proofs.Ytcnfkgmefikcjaa.Me
