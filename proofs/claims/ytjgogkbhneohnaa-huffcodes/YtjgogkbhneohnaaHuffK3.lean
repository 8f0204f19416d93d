/-
  Rows of code words: added to, written over, held against one another.
-/
import Derived.Test.YtjgogkbhneohnaaHuffC5
import Derived.Test.YtjgogkbhneohnaaBase2
import Derived.Laws.StructEq
namespace Go.Proofs.Ytjgogkbhneohnaa.Huff
open Go.ChangeShapes Go.WideShapes Go.ChangeAt Go.RowKit
open Go.Proofs.Ytjgogkbhneohnaa.Base
set_option linter.unusedVariables false
theorem OwnC.nil {w : World} {base n cap : Nat} {a : Option Addr} {cs : List (Int × Nat)} (h : OwnC w base (.slice a n cap) cs) (ha : a = none) : n = 0 ∧ cap = 0 := by
  rcases h.2 with ⟨h1, _⟩ | ⟨g, c, cur, h1, _⟩
  · simp only [Value.slice.injEq] at h1; exact h1.2
  · simp only [Value.slice.injEq] at h1; rw [ha] at h1; cases h1.1
theorem OwnC.cellsAt {w : World} {base n cap : Nat} {a : Option Addr} {cs : List (Int × Nat)} (h : OwnC w base (.slice a n cap) cs) (hn : cs.length = n) (ad : Addr) (had : a = some ad) (j : Nat) (u : Value) (hu : (cvals cs)[j]? = some u) : w.cell? (ad.add j) = some u := by
  subst hn
  have hj : j < cs.length * 2 := by
    obtain ⟨h1, _⟩ := List.getElem?_eq_some_iff.1 hu
    rwa [length_cvals] at h1
  obtain ⟨g, rfl⟩ := h.some' (by omega)
  cases had
  rw [Addr.add_mid, Nat.zero_add, World.ownsRow.cellAt h j hj, hu]
/-- append of one word: it is laid behind the others in their block, or all are laid into a new one. -/
theorem pushC {ops : Array Oper} {rest : List Oper} {o : Oper} {a : Act} {Q : Exit → Act → World → Prop} (w : World) (hgd : o.guard = none) (s x : Operand)
    (ho : o.op = .call { callee := .builtin .append, args := #[s, x], argTypes := #[66, 66] })
    (base : Nat) (v : Value) (cs : List (Int × Nat)) (hs : a.eval s = v) (hown : OwnC w base v cs) (ad : Addr) (cap : Nat) (l : Int) (b : Nat) (hx : a.eval x = .slice (some ad) 1 cap)
    (hc1 : w.cell? (ad.add 0) = some (.int .i64 l)) (hc2 : w.cell? (ad.add 1) = some (.int .u32 (b : Int))) (hl : cs.length + 1 ≤ 8796093022208) (hbase : base ≤ w.heap.size)
    (h : ∀ g' c' w', OwnC w' base (.slice (some ⟨g', 0, none⟩) (cs.length + 1) c') (cs ++ [(l, b)]) → (v.ownBlock = some g' ∧ w.grownBy w' (some g') ∨ w.heap.size ≤ g' ∧ w.grownBy w' none) → wpList Try.prog ops Q rest (a.put o.dst (.slice (some ⟨g', 0, none⟩) (cs.length + 1) c')) w') : wpList Try.prog ops Q (o :: rest) a w := by
  obtain ⟨i0, hi, hz0, hz1, hz2⟩ := info_parts infoC
  have hnews : ∀ (j : Nat) (u : Value), (cvals [(l, b)])[j]? = some u → w.cell? (ad.add j) = some u := by
    intro j u hu
    cases j with
    | zero => simp [cvals] at hu; subst hu; exact hc1
    | succ j =>
      cases j with
      | zero => simp [cvals] at hu; subst hu; exact hc2
      | succ j => simp [cvals] at hu
  have happ : ∀ {W : World} {bb : Nat} {vv : Value}, W.ownsRow bb 71 2 vv (cs.length + 1) (cvals cs ++ cvals [(l, b)]) → OwnC W bb vv (cs ++ [(l, b)]) := by
    intro W bb vv h1
    unfold OwnC
    rw [cvals_append, List.length_append]
    exact h1
  have hgrow : ∀ (ao : Option Addr) (cp : Nat), v = .slice ao cs.length cp → cp < cs.length + 1 → wpList Try.prog ops Q (o :: rest) a w := by
    intro ao cp hv hcp
    subst hv
    refine wpList_append_grows w hgd s x 66 ho 71 i0 (.agg #[.int .i64 0, .int .u32 0]) 2 16 Try.underlying66 hi hz0 hz1 hz2 rfl (by omega) ao cs.length cp (cvals cs) hs (fun e => hown.nil e) (by rw [length_cvals]) (fun b e j u hu => hown.cellsAt rfl b e j u hu) ad 1 cap (cvals [(l, b)]) hx rfl hnews (cvals_one [(l, b)]) (by omega) (by unfold maxLen; omega) (by omega) ?_
    intro v' w' h1 h2
    obtain ⟨g, c', rfl⟩ : ∃ g c, v' = .slice (some ⟨g, 0, none⟩) (cs.length + 1) c := by
      rcases h1.2 with ⟨_, e⟩ | ⟨g, c, cur, e, _⟩
      · omega
      · exact ⟨g, c, e⟩
    exact h g c' w' ((happ h1).mono hbase) (.inr ⟨(World.ownsRow.lt h1 g rfl).1, h2⟩)
  rcases hown.2 with ⟨hv, hn⟩ | ⟨g, cp, cur, hv, _⟩
  · rw [← hn] at hv
    exact hgrow none cs.length hv (by omega)
  · by_cases hcp : cs.length + 1 ≤ cp
    · subst hv
      refine wpList_append_fits w hgd s x 66 ho base 71 i0 2 Try.underlying66 hi hz1 g cs.length cp (cvals cs) hs hown ad 1 cap (cvals [(l, b)]) hx rfl hnews (cvals_one [(l, b)]) hcp ?_
      intro w' h1 h2
      exact h g cp w' (happ h1) (.inl ⟨rfl, h2⟩)
    · exact hgrow (some ⟨g, 0, none⟩) cp hv (by omega)
/-- What was v1 at w0 is v now, n words; nothing of w0 has turned but v1's block. -/
def OverC (w0 w : World) (base : Nat) (v1 v : Value) (n : Nat) : Prop :=
  (∃ L : List (Int × Nat), L.length = n ∧ OwnC w base v L) ∧ (v.ownBlock = v1.ownBlock ∨ ∀ i, v.ownBlock = some i → w0.heap.size ≤ i) ∧ w0.grownBy w v1.ownBlock
theorem OverC.start {w : World} {base : Nat} {v : Value} {cs : List (Int × Nat)} (h : OwnC w base v cs) : OverC w w base v v cs.length :=
  ⟨⟨cs, rfl, h⟩, .inl rfl, World.grownBy.refl _ _⟩
theorem OverC.alloc {w0 w : World} {base n : Nat} {v1 v : Value} (h : OverC w0 w base v1 v n) (o : Obj) : OverC w0 (w.alloc o) base v1 v n := by
  obtain ⟨⟨L, hl, ho⟩, h2, h3⟩ := h
  exact ⟨⟨L, hl, ho.below ((Below.refl _ _).alloc (Nat.le_refl _) _)⟩, h2, grown_alloc h3 _⟩
theorem OverC.some' {w0 w : World} {base n c : Nat} {v1 : Value} {a : Option Addr} (h : OverC w0 w base v1 (.slice a n c) n) (hn : 0 < n) : ∃ g, a = some ⟨g, 0, none⟩ := by
  obtain ⟨⟨L, hl, ho⟩, _⟩ := h
  exact ho.some' hn
theorem OverC.cell {w0 w : World} {base g n c : Nat} {v1 : Value} (h : OverC w0 w base v1 (.slice (some ⟨g, 0, none⟩) n c) n) (k : Nat) (hk : k < n) :
    (∃ (l : Int) (b : Nat), w.cell? ⟨g, k * 2, none⟩ = some (.int .i64 l) ∧ w.cell? ⟨g, k * 2 + 1, none⟩ = some (.int .u32 (b : Int))) ∧ w.frozen? ⟨g, k * 2, none⟩ = false ∧ w.frozen? ⟨g, k * 2 + 1, none⟩ = false := by
  obtain ⟨⟨L, hl, ho⟩, _⟩ := h
  obtain ⟨h1, h2⟩ := ho.cells hl k hk
  exact ⟨⟨_, _, h1, h2⟩, ho.frozen hl _, ho.frozen hl _⟩
theorem OverC.store {w0 w : World} {base g n c : Nat} (h : OverC w0 w base (.slice (some ⟨g, 0, none⟩) n c) (.slice (some ⟨g, 0, none⟩) n c) n) (k : Nat) (l : Int) (b : Nat) :
    OverC w0 ((w.setCell ⟨g, k * 2, none⟩ (.int .i64 l)).setCell ⟨g, k * 2 + 1, none⟩ (.int .u32 (b : Int))) base (.slice (some ⟨g, 0, none⟩) n c) (.slice (some ⟨g, 0, none⟩) n c) n := by
  obtain ⟨⟨L, hl, ho⟩, h2, h3⟩ := h
  exact ⟨⟨L.set k (l, b), by rw [List.length_set]; exact hl, ho.store hl k l b⟩, .inl rfl, grown_cell (grown_cell h3 _ _) _ _⟩
theorem OverC.below {w w0 w1 : World} {base n : Nat} {v1 v : Value} (h : OverC w0 w1 base v1 v n) (hb : Below w.heap.size w w0) (h1 : ∀ i, v1.ownBlock = some i → w.heap.size ≤ i) : Below w.heap.size w w1 :=
  hb.grown h.2.2 hb.size h1
theorem pushOverC {ops : Array Oper} {rest : List Oper} {o : Oper} {a : Act} {Q : Exit → Act → World → Prop} (w0 w : World) (hgd : o.guard = none) (s x : Operand)
    (ho : o.op = .call { callee := .builtin .append, args := #[s, x], argTypes := #[66, 66] })
    (base : Nat) (v1 v : Value) (n : Nat) (hs : a.eval s = v) (H : OverC w0 w base v1 v n) (ad : Addr) (cap : Nat) (l : Int) (b : Nat) (hx : a.eval x = .slice (some ad) 1 cap)
    (hc1 : w.cell? (ad.add 0) = some (.int .i64 l)) (hc2 : w.cell? (ad.add 1) = some (.int .u32 (b : Int))) (hl : n + 1 ≤ 8796093022208) (hbase : base ≤ w.heap.size)
    (h : ∀ g' c' w', OverC w0 w' base v1 (.slice (some ⟨g', 0, none⟩) (n + 1) c') (n + 1) → wpList Try.prog ops Q rest (a.put o.dst (.slice (some ⟨g', 0, none⟩) (n + 1) c')) w') : wpList Try.prog ops Q (o :: rest) a w := by
  obtain ⟨⟨L, hL, hown⟩, h2, h3⟩ := H
  refine pushC w hgd s x ho base v L hs hown ad cap l b hx hc1 hc2 (by omega) hbase ?_
  intro g' c' w' ho' hcase
  rw [hL] at ho' ⊢
  refine h g' c' w' ⟨⟨L ++ [(l, b)], by simp [hL], ho'⟩, ?_, ?_⟩
  · rcases hcase with ⟨e, k⟩ | ⟨e, k⟩
    · rcases h2 with h2 | h2
      · left; rw [← h2, e]; rfl
      · right; intro i hi; exact h2 i (by rw [e]; exact hi)
    · right; intro i hi; cases hi; exact Nat.le_trans h3.size e
  · rcases hcase with ⟨e, k⟩ | ⟨e, k⟩
    · rcases h2 with h2 | h2
      · rw [← h2, e] at h3 ⊢; exact grown_trans h3 k
      · exact grown_new h3 k (fun i hi => by cases hi; exact h2 _ e)
    · exact grown_new h3 k (fun i hi => by cases hi)
set_option maxHeartbeats 1000000 in
theorem sameCodes_eq (a b : Option Addr) (n ca cb : Nat) (base base' : Nat) (cs : List (Int × Nat)) (w : World) (hx : OwnC w base (.slice a n ca) cs) (hy : OwnC w base' (.slice b n cb) cs) (hn : cs.length = n) (hl : n ≤ 256) :
    Calls Try.prog 41 #[.slice a n ca, .slice b n cb] w fun e w' => e = .returned (.bool true) ∧ Below w.heap.size w w' := by
  have HX := hide hx
  have HY := hide hy
  have HN := hide hn
  clear hx hy hn
  have he : ((n : Int) != (n : Int)) = false := by simp
  have hli : (n : Int) ≤ 256 := by omega
  go_enter Try.func41, Try.ntmps41
  go_wp2
  go_loopw [5] (fun i wr => ∃ k : Nat, k ≤ n ∧ i = .int .i64 k ∧ ∃ m, wr = w.drewN m) (fun i _ => n - (intOf i).toNat)
  case atStart => exact ⟨0, Nat.zero_le _, rfl, 0, rfl⟩
  case round =>
    obtain ⟨k, hk, rfl, m, rfl⟩ := hrel
    by_cases hlt : k < n
    · obtain ⟨g1, rfl⟩ := HX.out.some' (by omega)
      obtain ⟨g2, rfl⟩ := HY.out.some' (by omega)
      obtain ⟨c1, c2⟩ := HX.out.cells HN.out k hlt
      obtain ⟨d1, d2⟩ := HY.out.cells HN.out k hlt
      generalize (cs.getD k (0, 0)).1 = L at c1 d1
      generalize (cs.getD k (0, 0)).2 = B at c2 d2
      have hki : (k : Int) < (n : Int) := by omega
      have e1 : (L == L) = true := by simp
      have e2 : ((B : Int) == (B : Int)) = true := by simp
      have e3 : (B == B) = true := by simp
      go_wp2
      go_quiet (fail)
      go_wp2
      go_roundw
      case rel => exact ⟨k + 1, by omega, by go_num, m + nq, rfl⟩
      case measure => simp [intOf]; omega
    · go_wp2
      go_ret
      exact ⟨by first | rfl | trivial, below_drewN' _ _ _⟩
end Go.Proofs.Ytjgogkbhneohnaa.Huff
