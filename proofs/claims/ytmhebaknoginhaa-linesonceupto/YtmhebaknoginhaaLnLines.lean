/-
  Lines: all lines of a text, collected.
-/
import Derived.Test.YtmhebaknoginhaaLnIter
import Derived.Test.YtmhebaknoginhaaLnStr
namespace Go.Proofs.Ytmhebaknoginhaa.Ln
open Go.ChangeShapes Go.WideShapes Go.ChangeAt Go.RowKit Go.Shelf
open Go.Proofs.Ytmhebaknoginhaa.Base Go.Proofs.Ytmhebaknoginhaa.Rg
set_option linter.unusedVariables false
attribute [local go_sem] Oper.semAt_some
/-- The lines from number a on, n of them. -/
def lns (T : ByteArray) (a n : Nat) : List ByteArray := (List.range n).map fun k => ln T (a + k)
theorem lns_len (T : ByteArray) (a n : Nat) : (lns T a n).length = n := by simp [lns]
theorem lns_succ (T : ByteArray) (a n : Nat) : lns T a (n + 1) = lns T a n ++ [ln T (a + n)] := by simp [lns, List.range_succ]
theorem below_put {w W : World} {D : Nat} {o : Obj} (hb : Below w.heap.size w W) (hD : w.heap.size ≤ D) : Below w.heap.size w (W.putObj D o) :=
  ⟨hb.os, hb.tape, hb.output, by simp; exact hb.size, fun k hk => (World.putObj_heap_other (by omega)).trans (hb.block k hk)⟩
theorem owns_put {W : World} {base j : Nat} {v : Value} {ss : List ByteArray} {o o' : Obj} (h : OwnS W base v ss) (hj : W.heap[j]? = some o) (ho : o.isCells = false) : OwnS (W.putObj j o') base v ss := ownsRow_putObj h o' hj ho
theorem boxed_put {W : World} {B j : Nat} {t : TypeId} {v : Value} {o o' : Obj} (h : Boxed W B t v) (hj : W.heap[j]? = some o) (ho : o.isCells = false) : Boxed (W.putObj j o') B t v := by
  refine (World.putObj_heap_other ?_).trans h
  rintro rfl
  rw [show W.heap[B]? = _ from h] at hj
  cases hj
  cases ho
/-- A block of another kind behind 'list = append(list, ..)', the list in the box B. -/
theorem kept_append {W w1 : World} {n₀ B c : Nat} {t e : TypeId} {size k : Nat} {v : Value} {xs : List Value} {tmp : Obj} {cs : Array Value} {fz : Nat × Nat} (hrow : W.ownsRow n₀ e size v k xs) (hgrow : (W.alloc tmp).grownBy w1 v.ownBlock)
    (hC : W.heap[c]? = some (.cells cs t fz)) (hte : t ≠ e) (hne : c ≠ B) (u : Value) : (w1.setCell ⟨B, 0, none⟩ u).heap[c]? = some (.cells cs t fz) := by
  have hlt : c < W.heap.size := (Array.getElem?_eq_some_iff.1 hC).1
  rw [Below.heap_setCell _ _ _ c hne]
  refine (hgrow.block c (by simp; omega) ?_).trans ((Below.heap_alloc W _ c hlt).trans hC)
  rcases hrow.2 with ⟨rfl, _⟩ | ⟨g, cap, cur, rfl, _, hgb, _⟩
  · simp [Value.ownBlock]
  · intro e'
    obtain rfl : c = g := by simpa [Value.ownBlock] using e'
    rw [hC] at hgb
    simp at hgb
    exact hte hgb.2.1
set_option maxHeartbeats 2000000 in
set_option maxRecDepth 100000 in
theorem lines_any (T : ByteArray) (w : World) (hs : T.size ≤ 1099511627776) :
    Calls Try.prog 11 #[.string T] w fun e w' => ∃ v, e = .returned v ∧ OwnS w' w.heap.size v (lns T 0 (cnt T)) ∧ Below w.heap.size w w' := by
  have hcl := cnt_le T
  obtain ⟨i0, hi, hz0, hz1, hz2⟩ := info_parts infoS
  refine calls_marks Try.func11 rfl ?_
  simp only [Try.ntmps11, List.size_toArray, List.length_cons, List.length_nil, Nat.reduceAdd, Nat.reduceSub, Array.replicate_succ, Array.replicate_zero, List.push_toArray, List.append_toArray, List.nil_append, List.cons_append]
  go_wp2_with (go_at_call 10; refine (all_any _ _ _).mono ?_; rintro e w1 ⟨rfl, rfl⟩)
  have bO := (Boxed.new w 34 (.slice none 0 0)).alloc (.cells #[.int .i64 0, .string T] 23)
  have bC : ((w.alloc (.cells #[.slice none 0 0] 34)).alloc (.cells #[.int .i64 0, .string T] 23)).heap[w.heap.size + 1]? = some (.cells #[.int .i64 0, .string T] 23) := by
    have := World.alloc_heap_new (w.alloc (.cells #[.slice none 0 0] 34)) (.cells #[.int .i64 0, .string T] 23)
    rwa [World.size_alloc] at this
  have hB0 : Below w.heap.size w ((w.alloc (.cells #[.slice none 0 0] 34)).alloc (.cells #[.int .i64 0, .string T] 23)) := ((Below.refl _ w).alloc (Nat.le_refl _) _).alloc (by simp) _
  have hsz : ((w.alloc (.cells #[.slice none 0 0] 34)).alloc (.cells #[.int .i64 0, .string T] 23)).heap.size = w.heap.size + 2 := by simp
  obtain ⟨W0, hW0⟩ : ∃ W0, (w.alloc (.cells #[.slice none 0 0] 34)).alloc (.cells #[.int .i64 0, .string T] 23) = W0 := ⟨_, rfl⟩
  rw [hW0] at bO bC hB0 hsz ⊢
  clear hW0
  refine wp_range (gf := 25) (lb := #[.pointer (some ⟨w.heap.size + 1, 0, none⟩)]) (N := cnt T) (E := given 0 T) rfl (enter_fn Try.func25 (by kernel_rfl) rfl) (all_iter (w.heap.size + 1) 0 T (by omega)) keeps_below (fun _ _ => rfl)
    (fun k W => (∃ v, Boxed W w.heap.size 34 v ∧ OwnS W w.heap.size v (lns T 0 k)) ∧ Below w.heap.size w W ∧ W.heap[w.heap.size + 1]? = some (.cells #[.int .i64 0, .string T] 23))
    (fun _ _ _ => False) ?hI (fun _ _ _ _ _ _ h _ _ _ => h)
    (fun k a' _ => a' = { tmps := #[.string T, undef, .slice none 0 0, .pointer (some ⟨w.heap.size, 0, none⟩), undef, .string (ln T k), .string T, .agg #[.int .i64 0, .string T], .func (.func 25) #[] #[.pointer (some ⟨w.heap.size + 1, 0, none⟩)], .int .i64 (wrap64 (pl T k : Nat)), .string (ln T k), undef, undef, undef, undef, undef], defers := [] }) (fun _ _ _ _ _ _ h _ _ _ => h)
    ?hIS (fun _ _ _ _ h _ => h) (fun k W h => h.2.2) ?h0 ?assign ?body ?done ?stop
  case hI =>
    rintro k W j o o' ⟨⟨v, h1, h2⟩, h3, h4⟩ hj hjo ho
    refine ⟨⟨v, boxed_put h1 hjo ho, owns_put h2 hjo ho⟩, below_put h3 (by omega), (World.putObj_heap_other (by omega)).trans h4⟩
  case hIS =>
    rintro k W W' ⟨⟨v, h1, h2⟩, h3, h4⟩ hb
    exact ⟨⟨v, (hb.block _ h1.lt).trans h1, h2.below hb⟩, below_trans h3 hb, (hb.block _ (Array.getElem?_eq_some_iff.1 h4).1).trans h4⟩
  case h0 =>
    intro W hb
    exact ⟨⟨_, (hb.block _ bO.lt).trans bO, owns_none _ _⟩, hB0.trans (hb.mono (by omega)), (hb.block _ (by omega)).trans bC⟩
  case assign =>
    intro l k W K hl hk hi' hK
    unfold given
    gi_wp2
    exact hK _ _ (KeepsFrom.refl _ _) hi' rfl
  case body =>
    rintro l k a' W hl hk _ ⟨⟨v, hv, hrow⟩, hB, hC⟩ rfl
    have cv := hv.cell
    have hrow' : W.ownsRow w.heap.size 9 1 v k (svals (lns T 0 k)) := by have h := hrow; unfold OwnS at h; rwa [lns_len] at h
    have HH := hide hB
    have HC := hide hC
    clear hrow
    gi_wp2_with (gi_at_builtin; refine wpListIn_append_own _ rfl _ _ 34 rfl w.heap.size 9 i0 (.string ⟨#[]⟩) 1 16 Try.underlying34 hi hz0 hz1 hz2 rfl (by decide) _ _ _ rfl (hrow'.alloc _) ⟨W.heap.size, 0, none⟩ 1 1 [.string (ln T k)] rfl rfl (cell_one_new _ _ _) (by simp [Value.oneCell']) (by unfold maxLen; omega) (by omega) (by have := HH.out.size; simp; omega) ?_; intro v' w1 hown' hgrow _; obtain ⟨g', cap', rfl⟩ := ownsRow_succ hown'; obtain ⟨hv1, hv2, hr2, hk2, hb2⟩ := hv.appended (by decide) hrow' HH.out.size (Nat.le_refl _) hown' hgrow; have hc1 := hv1.cell; have hf1 := hv1.frozen)
    refine ⟨hk2.from _, ⟨_, hv2, ?_⟩, HH.out.trans hb2, ?_⟩
    · rw [lns_succ]
      unfold OwnS
      rw [List.length_append, lns_len, svals_append, Nat.zero_add]
      exact hr2
    · exact kept_append hrow' hgrow HC.out (by decide) (by omega) _
  case done =>
    rintro D W hD ⟨⟨v, hv, hrow⟩, hB, hC⟩ hK
    have cv := hv.cell
    go_wp2_with fail
    refine ⟨by simp, .inl ⟨_, _, rfl, run_takeDeferred hK, ?_⟩⟩
    exact ⟨_, results_tmp rfl _ _ _, v, rfl, owns_put hrow hK rfl, below_put hB (by omega)⟩
  case stop =>
    rintro D c k W _ _ h _
    exact h.elim
end Go.Proofs.Ytmhebaknoginhaa.Ln
