/-
  Lists of the call's own, each element some cells: told by a function of the index.
-/
import Derived.Test.YtgpfabblmoffiaaDoorBase2
import Derived.RangeFuncNested
namespace Go.Proofs.YtgpfabblmoffiaaDoor.Rf
open Go.ChangeShapes Go.WideShapes Go.ChangeAt Go.RowKit
open Go.Proofs.YtgpfabblmoffiaaDoor.Base
set_option linter.unusedVariables false
/-- The cells of n elements. -/
def fcells (f : Nat → List Value) (n : Nat) : List Value := (List.range n).flatMap f
theorem fcells_zero (f : Nat → List Value) : fcells f 0 = [] := rfl
theorem fcells_succ (f : Nat → List Value) (n : Nat) : fcells f (n + 1) = fcells f n ++ f n := by simp [fcells, List.range_succ]
theorem fcells_congr {f g : Nat → List Value} : ∀ n, (∀ k, k < n → f k = g k) → fcells f n = fcells g n := by
  intro n
  induction n with
  | zero => intro _; rfl
  | succ n ih => intro h; rw [fcells_succ, fcells_succ, ih (fun k hk => h k (by omega)), h n (by omega)]
theorem fcells_len {f : Nat → List Value} {z : Nat} (hf : ∀ k, (f k).length = z) (n : Nat) : (fcells f n).length = n * z := by
  induction n with
  | zero => simp [fcells]
  | succ n ih => rw [fcells_succ, List.length_append, ih, hf, Nat.succ_mul]
theorem fcells_get {f : Nat → List Value} {z : Nat} (hf : ∀ k, (f k).length = z) : ∀ n k j, k < n → j < z → (fcells f n)[k * z + j]? = (f k)[j]? := by
  intro n
  induction n with
  | zero => intro k j h _; omega
  | succ n ih =>
    intro k j hk hj
    rw [fcells_succ]
    by_cases h : k < n
    · have hlt : k * z + j < (fcells f n).length := by
        rw [fcells_len hf]
        have : (k + 1) * z ≤ n * z := Nat.mul_le_mul_right z (by omega)
        rw [Nat.succ_mul] at this
        omega
      rw [List.getElem?_append_left hlt]
      exact ih k j h hj
    · obtain rfl : k = n := by omega
      rw [List.getElem?_append_right (by rw [fcells_len hf]; omega), fcells_len hf, Nat.add_sub_cancel_left]
theorem fcells_add (f : Nat → List Value) (a b : Nat) : fcells f (a + b) = fcells f a ++ fcells (fun k => f (a + k)) b := by
  induction b with
  | zero => simp [fcells]
  | succ b ih => rw [← Nat.add_assoc, fcells_succ, ih, fcells_succ, List.append_assoc]
/-- f up to n, then g. -/
def thenF (f : Nat → List Value) (n : Nat) (g : Nat → List Value) (k : Nat) : List Value := if k < n then f k else g (k - n)
theorem fcells_then (f g : Nat → List Value) (n m : Nat) : fcells f n ++ fcells g m = fcells (thenF f n g) (n + m) := by
  rw [fcells_add]
  congr 1
  · exact fcells_congr n (fun k hk => by unfold thenF; rw [if_pos hk])
  · exact fcells_congr m (fun k hk => by unfold thenF; rw [if_neg (by omega), Nat.add_sub_cancel_left])
/-- A list of n elements of z cells of the type t, of the call's own. -/
def OwnF (w : World) (base t z : Nat) (v : Value) (n : Nat) (f : Nat → List Value) : Prop := w.ownsRow base t z v n (fcells f n)
theorem ownf_none (w : World) (base t z : Nat) (f : Nat → List Value) : OwnF w base t z (.slice none 0 0) 0 f := ⟨by simp [fcells], .inl ⟨rfl, rfl⟩⟩
theorem OwnF.congr {w : World} {base t z : Nat} {v : Value} {n : Nat} {f g : Nat → List Value} (h : OwnF w base t z v n f) (e : ∀ k, k < n → f k = g k) : OwnF w base t z v n g := by
  unfold OwnF at h ⊢
  rwa [← fcells_congr n e]
theorem OwnF.shape {w : World} {base t z : Nat} {v : Value} {n : Nat} {f : Nat → List Value} (h : OwnF w base t z v n f) : ∃ a c, v = .slice a n c ∧ n ≤ c ∧ (a = none → n = 0 ∧ c = 0) ∧ (∀ ad, a = some ad → ad.off = 0 ∧ ad.spot = none ∧ base ≤ ad.block ∧ ad.block < w.heap.size) := by
  rcases h.2 with ⟨h1, h2⟩ | ⟨g, c, cur, h1, h2, h3, h4, _⟩
  · rw [h2]; exact ⟨_, _, h1, Nat.le_refl _, fun _ => ⟨rfl, rfl⟩, (fun ad e => nomatch e)⟩
  · exact ⟨_, _, h1, h4, (fun e => nomatch e), fun ad e => by cases e; exact ⟨rfl, rfl, h2, (Array.getElem?_eq_some_iff.1 h3).1⟩⟩
theorem OwnF.has {w : World} {base t z : Nat} {v : Value} {n : Nat} {f : Nat → List Value} (h : OwnF w base t z v n f) (hn : 0 < n) : ∃ g c, v = .slice (some ⟨g, 0, none⟩) n c ∧ n ≤ c ∧ base ≤ g ∧ g < w.heap.size := by
  rcases h.2 with ⟨h1, h2⟩ | ⟨g, c, cur, h1, h2, h3, h4, _⟩
  · omega
  · exact ⟨g, c, h1, h4, h2, (Array.getElem?_eq_some_iff.1 h3).1⟩
theorem OwnF.below {w w' : World} {base t z : Nat} {v : Value} {n : Nat} {f : Nat → List Value} (h : OwnF w base t z v n f) (hb : Below w.heap.size w w') : OwnF w' base t z v n f := by
  refine World.ownsRow.kept (row := none) h (below_grown hb) ?_
  cases hv : v.ownBlock with
  | none => exact .inl rfl
  | some k => exact .inr (by simp)
theorem OwnF.mono {w : World} {base base' t z : Nat} {v : Value} {n : Nat} {f : Nat → List Value} (h : OwnF w base t z v n f) (hb : base' ≤ base) : OwnF w base' t z v n f := by
  obtain ⟨h1, h2⟩ := h
  refine ⟨h1, ?_⟩
  rcases h2 with h2 | ⟨g, cap, cur, e1, e2, e3⟩
  · exact .inl h2
  · exact .inr ⟨g, cap, cur, e1, Nat.le_trans hb e2, e3⟩
theorem OwnF.kept {w w' : World} {base t z : Nat} {v : Value} {n : Nat} {f : Nat → List Value} {r : Option Nat} (h : OwnF w base t z v n f) (hg : w.grownBy w' r) (hr : ∀ i, v.ownBlock = some i → r ≠ some i) : OwnF w' base t z v n f := by
  refine World.ownsRow.kept (row := r) h hg ?_
  cases hv : v.ownBlock with
  | none => exact .inl rfl
  | some k => exact .inr (fun e => hr k hv e.symm)
theorem OwnF.put {W : World} {base t z j : Nat} {v : Value} {n : Nat} {f : Nat → List Value} {o o' : Obj} (h : OwnF W base t z v n f) (hj : W.heap[j]? = some o) (ho : o.isCells = false) : OwnF (W.putObj j o') base t z v n f := ownsRow_putObj h o' hj ho
theorem OwnF.lt {w : World} {base t z : Nat} {v : Value} {n : Nat} {f : Nat → List Value} (h : OwnF w base t z v n f) : ∀ i, v.ownBlock = some i → base ≤ i ∧ i < w.heap.size := fun i e => World.ownsRow.lt h i e
/-- The slice 'a' reads as n elements of z cells. -/
def RdF (w : World) (a : Option Addr) (z n : Nat) (f : Nat → List Value) : Prop :=
  0 < n → ∃ b off, a = some ⟨b, off, none⟩ ∧ b < w.heap.size ∧ ∀ k j u, k < n → (f k)[j]? = some u → j < z → w.cell? ⟨b, off + (k * z + j), none⟩ = some u
theorem RdF.below {w w' : World} {a : Option Addr} {z n : Nat} {f : Nat → List Value} (h : RdF w a z n f) (hb : Below w.heap.size w w') : RdF w' a z n f := by
  intro hp
  obtain ⟨b, off, rfl, hlt, hc⟩ := h hp
  refine ⟨b, off, rfl, Nat.lt_of_lt_of_le hlt hb.size, fun k j u hk hu hj => ?_⟩
  rw [hb.cell (p := ⟨b, off + (k * z + j), none⟩) hlt]
  exact hc k j u hk hu hj
theorem rdf_zero (w : World) (a : Option Addr) (z : Nat) (f : Nat → List Value) : RdF w a z 0 f := fun h => absurd h (Nat.lt_irrefl 0)
theorem OwnF.cellAt {w : World} {base t z g n c : Nat} {m : Nat} {f : Nat → List Value} (h : OwnF w base t z (.slice (some ⟨g, 0, none⟩) m c) n f) (hf : ∀ k, (f k).length = z) (k j : Nat) (u : Value) (hk : k < n) (hj : j < z) (hu : (f k)[j]? = Option.some u) : w.cell? ⟨g, k * z + j, none⟩ = Option.some u := by
  have hn : m = n := by
    rcases h.2 with ⟨h1, _⟩ | ⟨_, _, _, h1, _⟩
    · simp at h1
    · simp at h1; exact h1.2.1
  subst hn
  have hl : k * z + j < m * z := by
    have : (k + 1) * z ≤ m * z := Nat.mul_le_mul_right z (by omega)
    rw [Nat.succ_mul] at this
    omega
  rw [World.ownsRow.cellAt h (k * z + j) hl, fcells_get hf m k j hk hj, hu]
theorem OwnF.frozenAt {w : World} {base t z g n c : Nat} {m : Nat} {f : Nat → List Value} (h : OwnF w base t z (.slice (some ⟨g, 0, none⟩) m c) n f) (i : Nat) : w.frozen? ⟨g, i, none⟩ = false := by
  have hn : m = n := by
    rcases h.2 with ⟨h1, _⟩ | ⟨_, _, _, h1, _⟩
    · simp at h1
    · simp at h1; exact h1.2.1
  subst hn
  exact World.ownsRow.frozenAt h i
theorem OwnF.rdf {w : World} {base t z n c : Nat} {a : Option Addr} {m : Nat} {f : Nat → List Value} (h : OwnF w base t z (.slice a m c) n f) (hf : ∀ k, (f k).length = z) : RdF w a z n f := by
  intro hp
  obtain ⟨g, c', e, _, _, hg⟩ := h.has hp
  cases e
  refine ⟨g, 0, rfl, hg, fun k j u hk hu hj => ?_⟩
  rw [Nat.zero_add]
  exact h.cellAt hf k j u hk hj hu
theorem ownf_of {w : World} {base t z : Nat} {v : Value} {n m : Nat} {f : Nat → List Value} {xs : List Value} (h : w.ownsRow base t z v m xs) (hn : m = n) (hx : xs = fcells f n) : OwnF w base t z v n f := by
  subst hn
  rw [hx] at h
  exact h
/-- append of one element onto a list of the call's own. -/
theorem pushF {ops : Array Oper} {rest : List Oper} {o : Oper} {a : Act} {Q : Exit → Act → World → Prop} (w : World) (hgd : o.guard = none) (s x : Operand) {ts t z by_ : Nat} {zv : Value}
    (ho : o.op = .call { callee := .builtin .append, args := #[s, x], argTypes := #[ts, ts] }) (hts : Tryd.prog.underlying ts = some (.slice t)) (hin : (Tryd.prog.info? t).map (fun i => (i.zero, i.size, i.bytes)) = some (some zv, z, by_)) (hz : zv.cells.size = z) (hz0 : 0 < z) (hby : by_ ≤ 64)
    (base : Nat) (v : Value) (n : Nat) (f : Nat → List Value) (hf : (f n).length = z) (hs : a.eval s = v) (hown : OwnF w base t z v n f) (ad : Addr) (cap : Nat) (hx : a.eval x = .slice (some ad) 1 cap)
    (hc : ∀ (j : Nat) (u : Value), (f n)[j]? = some u → w.cell? (ad.add j) = some u) (h1 : ∀ u ∈ f n, u.oneCell' = true) (hl : n + 1 ≤ 2199023255552) (hbase : base ≤ w.heap.size)
    (h : ∀ g' c' w', OwnF w' base t z (.slice (some ⟨g', 0, none⟩) (n + 1) c') (n + 1) f → w.grownBy w' v.ownBlock → wpList Tryd.prog ops Q rest (a.put o.dst (.slice (some ⟨g', 0, none⟩) (n + 1) c')) w') : wpList Tryd.prog ops Q (o :: rest) a w := by
  obtain ⟨i0, hi, hz0', hz1, hz2⟩ := info_parts hin
  refine wpList_append_own w hgd s x ts ho base t i0 zv z by_ hts hi hz0' hz1 hz2 hz hz0 v n (fcells f n) hs hown ad 1 cap (f n) hx (by rw [hf, Nat.one_mul]) hc h1 (by unfold maxLen; omega) ?_ hbase ?_
  · have := Nat.mul_le_mul hl hby
    omega
  · intro v' w' h1 h2 _
    rcases h1.2 with ⟨e1, e2⟩ | ⟨g, cp, cur, e1, _⟩
    · omega
    · subst e1
      exact h g cp w' (ownf_of h1 rfl (fcells_succ f n).symm) h2
/-- append of one element: it is laid behind the others in their block, or all are laid into a new one. -/
theorem pushF2 {ops : Array Oper} {rest : List Oper} {o : Oper} {a : Act} {Q : Exit → Act → World → Prop} (w : World) (hgd : o.guard = none) (s x : Operand) {ts t z by_ : Nat} {zv : Value}
    (ho : o.op = .call { callee := .builtin .append, args := #[s, x], argTypes := #[ts, ts] }) (hts : Tryd.prog.underlying ts = some (.slice t)) (hin : (Tryd.prog.info? t).map (fun i => (i.zero, i.size, i.bytes)) = some (some zv, z, by_)) (hz : zv.cells.size = z) (hz0 : 0 < z) (hby : by_ ≤ 64)
    (base : Nat) (v : Value) (n : Nat) (f : Nat → List Value) (hff : ∀ k, k < n → (f k).length = z) (hf1 : ∀ k, k < n → ∀ u ∈ f k, u.oneCell' = true) (hf : (f n).length = z) (hs : a.eval s = v) (hown : OwnF w base t z v n f) (ad : Addr) (cap : Nat) (hx : a.eval x = .slice (some ad) 1 cap)
    (hc : ∀ (j : Nat) (u : Value), (f n)[j]? = some u → w.cell? (ad.add j) = some u) (h1 : ∀ u ∈ f n, u.oneCell' = true) (hl : n + 1 ≤ 2199023255552) (hbase : base ≤ w.heap.size)
    (h : ∀ g' c' w', OwnF w' base t z (.slice (some ⟨g', 0, none⟩) (n + 1) c') (n + 1) f → (v.ownBlock = some g' ∧ w.grownBy w' (some g') ∨ w.heap.size ≤ g' ∧ w.grownBy w' none) → wpList Tryd.prog ops Q rest (a.put o.dst (.slice (some ⟨g', 0, none⟩) (n + 1) c')) w') : wpList Tryd.prog ops Q (o :: rest) a w := by
  obtain ⟨i0, hi, hz0', hz1, hz2⟩ := info_parts hin
  have hl2 : (n + 1) * by_ ≤ 140737488355328 := by
    have := Nat.mul_le_mul hl hby
    omega
  have hlen : (fcells f n).length = n * z := hown.1
  have hgrow : ∀ (ao : Option Addr) (cp : Nat), v = .slice ao n cp → cp < n + 1 → wpList Tryd.prog ops Q (o :: rest) a w := by
    intro ao cp hv hcp
    subst hv
    refine wpList_append_grows w hgd s x ts ho t i0 zv z by_ hts hi hz0' hz1 hz2 hz hz0 ao n cp (fcells f n) hs ?_ hlen ?_ ad 1 cap (f n) hx (by rw [hf, Nat.one_mul]) hc h1 (by omega) (by unfold maxLen; omega) hl2 ?_
    · intro e
      obtain ⟨a', c', e1, _, e3, _⟩ := hown.shape
      cases e1
      exact e3 e
    · intro b e j u hu
      rcases hown.2 with ⟨e1, e2⟩ | ⟨g, c2, cur, e1, _⟩
      · rw [e2] at hu; simp [fcells] at hu
      · simp only [Value.slice.injEq] at e1
        obtain ⟨e1, _⟩ := e1
        rw [e] at e1
        cases e1
        have hj : j < n * z := by have := (List.getElem?_eq_some_iff.1 hu).1; omega
        have e4 : (⟨g, 0, none⟩ : Addr).add j = ⟨g, j, none⟩ := by cases j <;> simp [Addr.add]
        subst e
        rw [e4, World.ownsRow.cellAt hown j hj]
        exact hu
    · intro v' w' h1 h2
      rcases h1.2 with ⟨e1, e2⟩ | ⟨g, cp', cur, e1, e2, _⟩
      · omega
      · subst e1
        exact h g cp' w' ((ownf_of h1 rfl (fcells_succ f n).symm).mono hbase) (.inr ⟨e2, h2⟩)
  rcases hown.2 with ⟨hv, hn⟩ | ⟨g, cp, cur, hv, _⟩
  · rw [← hn] at hv
    exact hgrow none n hv (by omega)
  · by_cases hcp : n + 1 ≤ cp
    · subst hv
      refine wpList_append_fits w hgd s x ts ho base t i0 z hts hi hz1 g n cp (fcells f n) hs hown ad 1 cap (f n) hx (by rw [hf, Nat.one_mul]) hc h1 hcp ?_
      intro w' h1 h2
      exact h g cp w' (ownf_of h1 rfl (fcells_succ f n).symm) (.inl ⟨rfl, h2⟩)
    · exact hgrow (some ⟨g, 0, none⟩) cp hv (by omega)
/-- One element in place of another. -/
def setF (f : Nat → List Value) (k : Nat) (x : List Value) (j : Nat) : List Value := if j = k then x else f j
theorem grown_set (w : World) (g i : Nat) (v : Value) : w.grownBy (w.setCell ⟨g, i, none⟩ v) (some g) :=
  ⟨rfl, rfl, rfl, (KeepsWalks.setCell w _ v).size, fun k _ hk => Below.heap_setCell _ _ _ k (fun e => hk (by rw [e]))⟩
end Go.Proofs.YtgpfabblmoffiaaDoor.Rf
