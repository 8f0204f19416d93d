/-
  Lists of entries: as they are read, and as the call's own.
-/
import Derived.Test.YtbmbhcjocgbbpaaFaMay
import Derived.Test.YtbmbhcjocgbbpaaBase2
import Derived.Deep.AppendLies
import Derived.Laws.StructEq
import Derived.Laws.MakeOwn
import Derived.Laws.EntriesVeiled
namespace Go.Proofs.Ytbmbhcjocgbbpaa.Fa
open Go.ChangeShapes Go.WideShapes Go.ChangeAt Go.RowKit
open Go.Proofs.Ytbmbhcjocgbbpaa.Base
set_option linter.unusedVariables false
def f0 : Flt := ⟨0, 0, 0, 0, 0, 0, 0, 0#32⟩
def fv (f : Flt) : List Value := [.int .i64 f.k, .int .i64 f.j, .int .i64 f.t, .int .i64 f.a, .int .i64 f.m, .int .i64 f.r, .int .i64 f.p, .int .u32 (f.q.toNat : Int)]
def fvals (fs : List Flt) : List Value := fs.flatMap fv
theorem fv_len (f : Flt) : (fv f).length = 8 := rfl
theorem fvals_cons (f : Flt) (fs : List Flt) : fvals (f :: fs) = fv f ++ fvals fs := by unfold fvals; rw [List.flatMap_cons]
theorem fvals_append (a b : List Flt) : fvals (a ++ b) = fvals a ++ fvals b := by unfold fvals; rw [List.flatMap_append]
theorem length_fvals (fs : List Flt) : (fvals fs).length = fs.length * 8 := by
  induction fs with
  | nil => rfl
  | cons r rs ih => rw [fvals_cons, List.length_append, ih, List.length_cons, fv_len]; omega
theorem fv_one (f : Flt) : ∀ v ∈ fv f, v.oneCell' = true := by
  intro v hv
  simp only [fv, List.mem_cons, List.not_mem_nil, or_false] at hv
  rcases hv with rfl | rfl | rfl | rfl | rfl | rfl | rfl | rfl <;> rfl
theorem fvals_one (fs : List Flt) : ∀ v ∈ fvals fs, v.oneCell' = true := by
  intro v hv
  unfold fvals at hv
  obtain ⟨f, _, hf⟩ := List.mem_flatMap.1 hv
  exact fv_one f v hf
theorem fvals_get : ∀ (fs : List Flt) (j c : Nat), j < fs.length → c < 8 → (fvals fs)[j * 8 + c]? = (fv (fs.getD j f0))[c]?
  | [], j, c, h, _ => by simp at h
  | r :: rs, 0, c, _, hc => by
    rw [fvals_cons, List.getElem?_append_left (by rw [fv_len]; omega)]
    congr 1
    omega
  | r :: rs, j + 1, c, h, hc => by
    have ih := fvals_get rs j c (by simpa using h) hc
    rw [fvals_cons, List.getElem?_append_right (by rw [fv_len]; omega), fv_len, show (j + 1) * 8 + c - 8 = j * 8 + c by omega, ih]
    rfl
/-- Eight cells of the block b from o on hold the entry. -/
def At8 (w : World) (b o : Nat) (f : Flt) : Prop := w.cell? ⟨b, o, none⟩ = some (.int .i64 f.k) ∧ w.cell? ⟨b, o + 1, none⟩ = some (.int .i64 f.j) ∧ w.cell? ⟨b, o + 2, none⟩ = some (.int .i64 f.t) ∧ w.cell? ⟨b, o + 3, none⟩ = some (.int .i64 f.a) ∧ w.cell? ⟨b, o + 4, none⟩ = some (.int .i64 f.m) ∧ w.cell? ⟨b, o + 5, none⟩ = some (.int .i64 f.r) ∧ w.cell? ⟨b, o + 6, none⟩ = some (.int .i64 f.p) ∧ w.cell? ⟨b, o + 7, none⟩ = some (.int .u32 (f.q.toNat : Int))
theorem At8.same {w w' : World} {b o : Nat} {f : Flt} (h : At8 w b o f) (e : ∀ k, w'.cell? ⟨b, k, none⟩ = w.cell? ⟨b, k, none⟩) : At8 w' b o f := by
  obtain ⟨h0, h1, h2, h3, h4, h5, h6, h7⟩ := h
  exact ⟨(e _).trans h0, (e _).trans h1, (e _).trans h2, (e _).trans h3, (e _).trans h4, (e _).trans h5, (e _).trans h6, (e _).trans h7⟩
theorem At8.get {w : World} {b o : Nat} {f : Flt} (h : At8 w b o f) (c : Nat) (u : Value) (hu : (fv f)[c]? = some u) : w.cell? ⟨b, o + c, none⟩ = some u := by
  obtain ⟨h0, h1, h2, h3, h4, h5, h6, h7⟩ := h
  match c, hu with
  | 0, hu => cases hu; exact h0
  | 1, hu => cases hu; exact h1
  | 2, hu => cases hu; exact h2
  | 3, hu => cases hu; exact h3
  | 4, hu => cases hu; exact h4
  | 5, hu => cases hu; exact h5
  | 6, hu => cases hu; exact h6
  | 7, hu => cases hu; exact h7
  | c + 8, hu => cases hu
theorem At8.mk {w : World} {b o : Nat} {f : Flt} (h : ∀ c u, (fv f)[c]? = some u → w.cell? ⟨b, o + c, none⟩ = some u) : At8 w b o f :=
  ⟨h 0 _ rfl, h 1 _ rfl, h 2 _ rfl, h 3 _ rfl, h 4 _ rfl, h 5 _ rfl, h 6 _ rfl, h 7 _ rfl⟩
/-- The slice leads to a row of entries of the call's own, from the block base on. -/
def OwnL (w : World) (base : Nat) (v : Value) (fs : List Flt) : Prop := w.ownsRow base 25 8 v fs.length (fvals fs)
/-- The slice reads as entries. -/
def RdL (w : World) (a : Option Addr) (len : Nat) (fs : List Flt) : Prop :=
  fs.length = len ∧ (0 < len → ∃ b off, a = some ⟨b, off, none⟩ ∧ b < w.heap.size ∧ ∀ j, j < len → At8 w b (off + j * 8) (fs.getD j f0))
theorem RdL.grown {w w' : World} {a : Option Addr} {len : Nat} {fs : List Flt} {q : Option Nat} (h : RdL w a len fs) (hg : w.grownBy w' q) (hne : ∀ ad, a = some ad → q ≠ some ad.block) : RdL w' a len fs := by
  refine ⟨h.1, fun hp => ?_⟩
  obtain ⟨b, off, rfl, hl, hc⟩ := h.2 hp
  refine ⟨b, off, rfl, Nat.lt_of_lt_of_le hl hg.size, fun j hj => At8.mk fun c u hu => ?_⟩
  exact hg.cell ((hc j hj).get c u hu) (fun e => hne _ rfl e.symm)
theorem RdL.below {w w' : World} {a : Option Addr} {len : Nat} {fs : List Flt} (h : RdL w a len fs) (hb : Below w.heap.size w w') : RdL w' a len fs :=
  h.grown (below_grown hb) (fun _ _ e => by cases e)
theorem rdl_zero (w : World) (a : Option Addr) : RdL w a 0 [] := ⟨rfl, fun h => absurd h (Nat.lt_irrefl 0)⟩
theorem getD_take8 (fs : List Flt) (m i : Nat) (h : i < m) : (fs.take m).getD i f0 = fs.getD i f0 := by
  rw [List.getD_eq_getElem?_getD, List.getD_eq_getElem?_getD, List.getElem?_take, if_pos h]
theorem RdL.cut {w : World} {a : Option Addr} {len : Nat} {fs : List Flt} (h : RdL w a len fs) (m : Nat) (hm : m ≤ len) : RdL w a m (fs.take m) := by
  refine ⟨by rw [List.length_take, h.1]; omega, fun hp => ?_⟩
  obtain ⟨b, off, rfl, hl, hc⟩ := h.2 (by omega)
  refine ⟨b, off, rfl, hl, fun j hj => ?_⟩
  rw [getD_take8 _ _ _ hj]
  exact hc j (by omega)
theorem OwnL.shape {w : World} {base : Nat} {v : Value} {fs : List Flt} (h : OwnL w base v fs) : ∃ a c, v = .slice a fs.length c ∧ fs.length ≤ c ∧ (a = none → fs.length = 0 ∧ c = 0) := by
  rcases h.2 with ⟨h1, h2⟩ | ⟨g, cap, cur, h1, _, _, h2, _⟩
  · exact ⟨none, 0, by rw [h1, h2], by omega, fun _ => ⟨h2, rfl⟩⟩
  · exact ⟨_, _, h1, h2, fun e => by cases e⟩
theorem OwnL.len {w : World} {base n cap : Nat} {a : Option Addr} {fs : List Flt} (h : OwnL w base (.slice a n cap) fs) : n = fs.length ∧ n ≤ cap ∧ (a = none → n = 0 ∧ cap = 0) := by
  obtain ⟨a', c, e, h1, h2⟩ := h.shape
  cases e
  exact ⟨rfl, h1, h2⟩
theorem OwnL.rdl {w : World} {base : Nat} {a : Option Addr} {n cap : Nat} {fs : List Flt} (h : OwnL w base (.slice a n cap) fs) : RdL w a n fs := by
  rcases h.2 with ⟨h1, h2⟩ | ⟨g', cap', cur, h1, h2, h3, h4, h5, h6, h7⟩
  · simp only [Value.slice.injEq] at h1
    obtain ⟨rfl, rfl, rfl⟩ := h1
    exact ⟨h2, fun h => by omega⟩
  · simp only [Value.slice.injEq] at h1
    obtain ⟨rfl, rfl, rfl⟩ := h1
    refine ⟨rfl, fun _ => ⟨g', 0, rfl, (Array.getElem?_eq_some_iff.1 h3).1, fun j hj => At8.mk fun c u hu => ?_⟩⟩
    have hc : c < 8 := (List.getElem?_eq_some_iff.1 hu).1
    rw [Nat.zero_add, World.ownsRow.cellAt h (j * 8 + c) (by omega), fvals_get fs j c hj hc, hu]
theorem OwnL.same {w w' : World} {base : Nat} {v : Value} {fs : List Flt} (h : OwnL w base v fs) (hb : ∀ i, v.ownBlock = some i → w'.heap[i]? = w.heap[i]?) : OwnL w' base v fs := by
  obtain ⟨h1, h2⟩ := h
  refine ⟨h1, ?_⟩
  rcases h2 with h2 | ⟨g, cap, cur, e1, e2, e3, e4⟩
  · exact .inl h2
  · subst e1
    exact .inr ⟨g, cap, cur, rfl, e2, by rw [hb g rfl]; exact e3, e4⟩
theorem OwnL.blk {w : World} {base : Nat} {v : Value} {fs : List Flt} (h : OwnL w base v fs) : ∀ i, v.ownBlock = some i → base ≤ i ∧ i < w.heap.size := fun i e => World.ownsRow.lt h i e
theorem OwnL.below {w w' : World} {base : Nat} {v : Value} {fs : List Flt} (h : OwnL w base v fs) (hb : Below w.heap.size w w') : OwnL w' base v fs :=
  h.same (fun i hi => hb.block i (h.blk i hi).2)
theorem OwnL.base {w : World} {b b' : Nat} {v : Value} {fs : List Flt} (h : OwnL w b v fs) (hb : b' ≤ b) : OwnL w b' v fs := by
  obtain ⟨h1, h2⟩ := h
  refine ⟨h1, ?_⟩
  rcases h2 with h2 | ⟨g, cap, cur, e1, e2, e3⟩
  · exact .inl h2
  · exact .inr ⟨g, cap, cur, e1, by omega, e3⟩
theorem OwnL.kept {w w' : World} {base : Nat} {v : Value} {fs : List Flt} {q : Option Nat} (h : OwnL w base v fs) (hg : w.grownBy w' q) (hne : ∀ i, v.ownBlock = some i → q ≠ some i) : OwnL w' base v fs :=
  h.same (fun i hi => hg.block i (h.blk i hi).2 (fun e => hne i hi e.symm))
theorem ownl_none (w : World) (base : Nat) : OwnL w base (.slice none 0 0) [] := ⟨rfl, .inl ⟨rfl, rfl⟩⟩
theorem ownl_empty (w : World) (base : Nat) (hb : base ≤ w.heap.size) : OwnL (w.alloc (.cells #[] 25)) base (.slice (some ⟨w.heap.size, 0, none⟩) 0 0) [] :=
  ⟨rfl, .inr ⟨w.heap.size, 0, #[], rfl, hb, heap_alloc_new _ _, Nat.le_refl _, by unfold maxLen; omega, rfl, rfl⟩⟩
theorem infoL : (Try.prog.info? 25).map (fun i => (i.zero, i.size, i.bytes)) = some (some (.agg #[.int .i64 0, .int .i64 0, .int .i64 0, .int .i64 0, .int .i64 0, .int .i64 0, .int .i64 0, .int .u32 0]), 8, 64) := by kernel_rfl
/-- append of one entry. -/
theorem pushFl {ops : Array Oper} {rest : List Oper} {o : Oper} {a : Act} {Q : Exit → Act → World → Prop} (w : World) (hgd : o.guard = none) (s x : Operand)
    (ho : o.op = .call { callee := .builtin .append, args := #[s, x], argTypes := #[32, 32] })
    (base : Nat) (v : Value) (fs : List Flt) (hs : a.eval s = v) (hown : OwnL w base v fs) (g0 : Nat) (f : Flt) (hx : a.eval x = .slice (some ⟨g0, 0, none⟩) 1 1)
    (hr : At8 w g0 0 f) (hl : (fs.length + 1) * 64 ≤ 140737488355328) (hbase : base ≤ w.heap.size)
    (h : ∀ g cap w', OwnL w' base (.slice (some ⟨g, 0, none⟩) (fs.length + 1) cap) (fs ++ [f]) → w.grownBy w' v.ownBlock → (v.ownBlock = some g ∨ g = w.heap.size) → wpList Try.prog ops Q rest (a.put o.dst (.slice (some ⟨g, 0, none⟩) (fs.length + 1) cap)) w') : wpList Try.prog ops Q (o :: rest) a w := by
  obtain ⟨i0, hi, hz0, hz1, hz2⟩ := info_parts infoL
  refine wpList_append_lies w hgd s x 32 ho base 25 i0 _ 8 64 Try.underlying32 hi hz0 hz1 hz2 rfl (by omega) v fs.length (fvals fs) hs hown ⟨g0, 0, none⟩ 1 1 (fvals [f]) hx rfl (fun j u hu => ?_) (fvals_one _) (by omega) (by unfold maxLen; omega) hl hbase w.heap.size rfl ?_
  · rw [show fvals [f] = fv f by simp [fvals]] at hu
    have := hr.get j u hu
    rw [Nat.zero_add] at this
    rw [show (⟨g0, 0, none⟩ : Addr).add j = ⟨g0, j, none⟩ by cases j <;> simp [Addr.add]]
    exact this
  · intro g cap w' h1 h2 h3 _
    exact h g cap w' (by unfold OwnL; rw [List.length_append, fvals_append]; exact h1) h2 h3
theorem RdL.cellsAt {w : World} {ad : Addr} {m : Nat} {cs : List Flt} (h : RdL w (some ad) m cs) (j : Nat) (u : Value) (hu : (fvals cs)[j]? = some u) : w.cell? (ad.add j) = some u := by
  have hj : j < cs.length * 8 := by
    by_cases q : j < cs.length * 8
    · exact q
    · rw [List.getElem?_eq_none (by rw [length_fvals]; omega)] at hu; cases hu
  have hl := h.1
  obtain ⟨b, off, he, _, hc⟩ := h.2 (by omega)
  have he' := Option.some.inj he
  subst he'
  have e : (⟨b, off, none⟩ : Addr).add j = ⟨b, off + j, none⟩ := by cases j <;> simp [Addr.add]
  rw [e]
  have h1 : j / 8 < cs.length := by omega
  have h2 := fvals_get cs (j / 8) (j % 8) h1 (by omega)
  rw [show j / 8 * 8 + j % 8 = j by omega, hu] at h2
  have h3 := (hc (j / 8) (by omega)).get (j % 8) u h2.symm
  rw [show off + j / 8 * 8 + j % 8 = off + j by omega] at h3
  exact h3
/-- append of a whole slice onto a list of the call's own. -/
theorem joinFl {ops : Array Oper} {rest : List Oper} {o : Oper} {a : Act} {Q : Exit → Act → World → Prop} (w : World) (hgd : o.guard = none) (s x : Operand)
    (ho : o.op = .call { callee := .builtin .append, args := #[s, x], argTypes := #[32, 32] })
    (base : Nat) (v : Value) (fs : List Flt) (hs : a.eval s = v) (hown : OwnL w base v fs) (xa : Option Addr) (m cap : Nat) (cs : List Flt) (hx : a.eval x = .slice xa m cap)
    (hr : RdL w xa m cs) (hnil : xa = none → m = 0 ∧ cap = 0) (hl : (fs.length + m) * 64 ≤ 140737488355328) (hbase : base ≤ w.heap.size)
    (h : ∀ v' w', OwnL w' base v' (fs ++ cs) → w.grownBy w' v.ownBlock → wpList Try.prog ops Q rest (a.put o.dst v') w') : wpList Try.prog ops Q (o :: rest) a w := by
  obtain ⟨i0, hi, hz0, hz1, hz2⟩ := info_parts infoL
  have hcl := hr.1
  cases xa with
  | none =>
    obtain ⟨rfl, rfl⟩ := hnil rfl
    have : cs = [] := List.length_eq_zero_iff.1 hcl
    subst this
    refine wpList_append_own_none hgd s x 32 ho base 25 i0 8 Try.underlying32 hi v fs.length (fvals fs) hs hown hx ?_
    exact h v w (by rw [List.append_nil]; exact hown) (World.grownBy.refl _ _)
  | some ad =>
    refine wpList_append_own w hgd s x 32 ho base 25 i0 _ 8 64 Try.underlying32 hi hz0 hz1 hz2 rfl (by omega) v fs.length (fvals fs) hs hown ad m cap (fvals cs) hx (by rw [length_fvals]; omega) (fun j u hu => hr.cellsAt j u hu) (fvals_one _) (by unfold maxLen; omega) hl hbase ?_
    intro v' w' h1 h2 _
    exact h v' w' (by unfold OwnL; rw [List.length_append, hcl, fvals_append]; exact h1) h2
theorem OwnL.frozen {w : World} {base g n cap : Nat} {fs : List Flt} (h : OwnL w base (.slice (some ⟨g, 0, none⟩) n cap) fs) (k : Nat) : w.frozen? ⟨g, k, none⟩ = false := by
  have hn := h.len.1
  subst hn
  exact World.ownsRow.frozenAt h k
theorem fvals_set : ∀ (fs : List Flt) (i c : Nat) (f g : Flt), i < fs.length → fs.getD i f0 = f → (fv f).set c ((fv g)[c]?.getD undef) = (fv f).set c ((fv g)[c]?.getD undef) → (fvals fs).set (i * 8 + c) ((fv g)[c]?.getD undef) = (fvals (fs.take i) ++ (fv f).set c ((fv g)[c]?.getD undef) ++ fvals (fs.drop (i + 1))) ∨ 8 ≤ c := by
  intro fs i c f g hi hf _
  by_cases hc : 8 ≤ c
  · exact .inr hc
  · refine .inl ?_
    have e : fs = fs.take i ++ f :: fs.drop (i + 1) := by
      rw [← hf, List.getD_eq_getElem?_getD, List.getElem?_eq_getElem hi]
      simp
    have hl : (fvals (fs.take i)).length = i * 8 := by rw [length_fvals, List.length_take]; omega
    have e2 : fvals fs = fvals (fs.take i) ++ (fv f ++ fvals (fs.drop (i + 1))) := by rw [← fvals_cons, ← fvals_append, ← e]
    rw [e2, List.set_append_right _ _ (by omega), hl, show i * 8 + c - i * 8 = c by omega, List.set_append_left _ _ (by rw [fv_len]; omega), List.append_assoc]
end Go.Proofs.Ytbmbhcjocgbbpaa.Fa
