/-
  The program's cursor: nil ones, zero ones, failed ones; what is taken has no room behind it.
-/
import Derived.Test.YtbmbhcjocgbbpabNumsCur3
namespace Go.Proofs.Ytbmbhcjocgbbpab.Curs
open Go.ChangeShapes Go.WideShapes Go.ChangeAt Go.RowKit
open Go.Proofs.Ytbmbhcjocgbbpab.Base Go.Proofs.Ytbmbhcjocgbbpab.Nums
set_option linter.unusedVariables false
/-- A slice that is full. -/
def Fu (v : Value) : Prop := ∃ a n, v = .slice a n n
set_option maxRecDepth 100000 in
theorem num_nil (k : Int) (w : World) : Calls Try.prog 22 #[.pointer none, .int .i64 k] w fun e w' => e = .returned (.int .i64 0) ∧ Below w.heap.size w w' := by
  have HB : Hid (Below w.heap.size w ((w.alloc (.cells #[.int .i64 k] 2)).alloc (.cells #[.int .i64 0] 2))) := ((Below.refl _ _).alloc (Nat.le_refl _) _).alloc (by simp) _
  have H3 : Hid (Box ((w.alloc (.cells #[.int .i64 k] 2)).alloc (.cells #[.int .i64 0] 2)) w.heap.size (.int .i64 k) 2) := by
    have h : Box (w.alloc (.cells #[.int .i64 k] 2)) w.heap.size (.int .i64 k) 2 := heap_alloc_new _ _
    exact h.below ((Below.refl _ _).alloc (Nat.le_refl _) _)
  have H5 : Hid (Box ((w.alloc (.cells #[.int .i64 k] 2)).alloc (.cells #[.int .i64 0] 2)) (w.heap.size + 1) (.int .i64 0) 2) := by
    have h : Box ((w.alloc (.cells #[.int .i64 k] 2)).alloc (.cells #[.int .i64 0] 2)) (w.alloc (.cells #[.int .i64 k] 2)).heap.size (.int .i64 0) 2 := heap_alloc_new _ _
    rw [show (w.alloc (.cells #[.int .i64 k] 2)).heap.size = w.heap.size + 1 by simp] at h
    exact h
  have c5 := H5.out.c0
  clear H3
  go_enter Try.func22, Try.ntmps22
  go_wp2_with fail
  refine (read_nil _ _ _ _).mono ?_
  rintro e w1 ⟨rfl, rfl⟩
  go_wp2_with fail
  go_ret
  exact ⟨rfl, HB.out⟩
set_option maxRecDepth 100000 in
theorem num_dead (g : Nat) (v : Value) (p er k : Int) (w : World) (h : Row w g v p er) (he : er ≠ 0) : Calls Try.prog 22 #[.pointer (some ⟨g, 0, none⟩), .int .i64 k] w fun e w' => e = .returned (.int .i64 0) ∧ Below w.heap.size w w' := by
  have HB : Hid (Below w.heap.size w ((w.alloc (.cells #[.int .i64 k] 2)).alloc (.cells #[.int .i64 0] 2))) := ((Below.refl _ _).alloc (Nat.le_refl _) _).alloc (by simp) _
  have H3 : Hid (Box ((w.alloc (.cells #[.int .i64 k] 2)).alloc (.cells #[.int .i64 0] 2)) w.heap.size (.int .i64 k) 2) := by
    have h : Box (w.alloc (.cells #[.int .i64 k] 2)) w.heap.size (.int .i64 k) 2 := heap_alloc_new _ _
    exact h.below ((Below.refl _ _).alloc (Nat.le_refl _) _)
  have H5 : Hid (Box ((w.alloc (.cells #[.int .i64 k] 2)).alloc (.cells #[.int .i64 0] 2)) (w.heap.size + 1) (.int .i64 0) 2) := by
    have h : Box ((w.alloc (.cells #[.int .i64 k] 2)).alloc (.cells #[.int .i64 0] 2)) (w.alloc (.cells #[.int .i64 k] 2)).heap.size (.int .i64 0) 2 := heap_alloc_new _ _
    rw [show (w.alloc (.cells #[.int .i64 k] 2)).heap.size = w.heap.size + 1 by simp] at h
    exact h
  have c5 := H5.out.c0
  have HRow := hide (h.grown (below_grown HB.out) (by simp))
  clear H3 h
  go_enter Try.func22, Try.ntmps22
  go_wp2_with fail
  refine (read_dead _ _ _ _ _ _ _ _ HRow.out he).mono ?_
  rintro e w1 ⟨rfl, rfl⟩
  go_wp2_with fail
  go_ret
  exact ⟨rfl, HB.out⟩
set_option maxRecDepth 100000 in
theorem fixed_nil (k : Int) (w : World) : Calls Try.prog 35 #[.pointer none, .int .i64 k] w fun e w' => e = .returned (.int .u64 0) ∧ Below w.heap.size w w' := by
  have HB : Hid (Below w.heap.size w ((w.alloc (.cells #[.int .i64 k] 3)).alloc (.cells #[.int .u64 0] 43))) := ((Below.refl _ _).alloc (Nat.le_refl _) _).alloc (by simp) _
  have H3 : Hid (Box ((w.alloc (.cells #[.int .i64 k] 3)).alloc (.cells #[.int .u64 0] 43)) w.heap.size (.int .i64 k) 3) := by
    have h : Box (w.alloc (.cells #[.int .i64 k] 3)) w.heap.size (.int .i64 k) 3 := heap_alloc_new _ _
    exact h.below ((Below.refl _ _).alloc (Nat.le_refl _) _)
  have H5 : Hid (Box ((w.alloc (.cells #[.int .i64 k] 3)).alloc (.cells #[.int .u64 0] 43)) (w.heap.size + 1) (.int .u64 0) 43) := by
    have h : Box ((w.alloc (.cells #[.int .i64 k] 3)).alloc (.cells #[.int .u64 0] 43)) (w.alloc (.cells #[.int .i64 k] 3)).heap.size (.int .u64 0) 43 := heap_alloc_new _ _
    rw [show (w.alloc (.cells #[.int .i64 k] 3)).heap.size = w.heap.size + 1 by simp] at h
    exact h
  have c5 := H5.out.c0
  clear H3
  go_enter Try.func35, Try.ntmps35
  go_wp2_with fail
  refine (read_nil _ _ _ _).mono ?_
  rintro e w1 ⟨rfl, rfl⟩
  go_wp2_with fail
  go_ret
  exact ⟨rfl, HB.out⟩
set_option maxRecDepth 100000 in
theorem fixed_dead (g : Nat) (v : Value) (p er k : Int) (w : World) (h : Row w g v p er) (he : er ≠ 0) : Calls Try.prog 35 #[.pointer (some ⟨g, 0, none⟩), .int .i64 k] w fun e w' => e = .returned (.int .u64 0) ∧ Below w.heap.size w w' := by
  have HB : Hid (Below w.heap.size w ((w.alloc (.cells #[.int .i64 k] 3)).alloc (.cells #[.int .u64 0] 43))) := ((Below.refl _ _).alloc (Nat.le_refl _) _).alloc (by simp) _
  have H3 : Hid (Box ((w.alloc (.cells #[.int .i64 k] 3)).alloc (.cells #[.int .u64 0] 43)) w.heap.size (.int .i64 k) 3) := by
    have h : Box (w.alloc (.cells #[.int .i64 k] 3)) w.heap.size (.int .i64 k) 3 := heap_alloc_new _ _
    exact h.below ((Below.refl _ _).alloc (Nat.le_refl _) _)
  have H5 : Hid (Box ((w.alloc (.cells #[.int .i64 k] 3)).alloc (.cells #[.int .u64 0] 43)) (w.heap.size + 1) (.int .u64 0) 43) := by
    have h : Box ((w.alloc (.cells #[.int .i64 k] 3)).alloc (.cells #[.int .u64 0] 43)) (w.alloc (.cells #[.int .i64 k] 3)).heap.size (.int .u64 0) 43 := heap_alloc_new _ _
    rw [show (w.alloc (.cells #[.int .i64 k] 3)).heap.size = w.heap.size + 1 by simp] at h
    exact h
  have c5 := H5.out.c0
  have HRow := hide (h.grown (below_grown HB.out) (by simp))
  clear H3 h
  go_enter Try.func35, Try.ntmps35
  go_wp2_with fail
  refine (read_dead _ _ _ _ _ _ _ _ HRow.out he).mono ?_
  rintro e w1 ⟨rfl, rfl⟩
  go_wp2_with fail
  go_ret
  exact ⟨rfl, HB.out⟩
theorem get_nil : get ([] : List (BitVec 8)) = (0, 0, 20) := by decide
theorem atMost_nil (k : Int) : atMost [] k = (0, 0, 20) := by unfold atMost; rw [get_nil]; rfl
theorem textAt_nil (k : Int) : textAt [] k = (0, 20, []) := by unfold textAt; rw [atMost_nil]; rfl
theorem fixAt_nil (k : Int) : ∃ er : Nat, fixAt [] k = (0, 0, er) ∧ er ≠ 0 := by
  unfold fixAt
  by_cases h : 1 ≤ k ∧ k ≤ 8
  · exact ⟨20, by rw [if_neg (by simpa using h), if_pos (by simp; omega)], by decide⟩
  · exact ⟨23, by rw [if_pos h], by decide⟩
set_option maxRecDepth 100000 in
theorem read_zero (f g : Nat) (x y : Value) (w : World) (Φ : World → Prop) (hf : ∀ args w, (callFunc f args).run Try.prog w = .ok (.enter f args) w) (h : Row w g (.slice none 0 0) 0 0)
    (hcall : Calls Try.prog f #[.slice none 0 0, x, y] w fun e w1 => e = .returned (.tuple #[.int .i64 0, .int .i64 0]) ∧ Φ w1) (hrow : ∀ w1, Φ w1 → Row w1 g (.slice none 0 0) 0 0) :
    Calls Try.prog 32 #[.pointer (some ⟨g, 0, none⟩), .func (.func f) #[] #[x, y]] w fun e w' => e = .returned (.tuple #[]) ∧ ∃ w1, Φ w1 ∧ Row w' g (.slice none 0 0) 0 0 ∧ w1.grownBy w' (some g) := by
  have c0 := h.c0
  have c2 := h.c2
  have HC := hide hcall
  have HR := hide hrow
  have hsl : ∀ W, (Instr.sliceAt 23 (.slice none 0 0) (some (.int .i64 0)) none none).run Try.prog W = .ok (.slice none 0 0) W := fun W => by kernel_rfl
  clear h hcall hrow
  go_enter Try.func32, Try.ntmps32
  go_wp2_with fail
  refine HC.out.mono ?_
  rintro e w1 ⟨rfl, hφ⟩
  have r1 := HR.out w1 hφ
  have d0 := r1.c0
  have d1 := r1.c1
  have f0 := r1.fr 0
  have f1 := r1.fr 1
  have HR1 := hide r1
  have HΦ := hide hφ
  clear r1 hφ
  go_wp2_with fail
  go_end0
  exact ⟨rfl, w1, HΦ.out, HR1.out.put01, grown_cell (grown_cell (World.grownBy.refl _ _) 0 _) 1 _⟩
set_option maxHeartbeats 1000000 in
set_option maxRecDepth 100000 in
theorem num_zero (g : Nat) (k : Int) (w : World) (h : Row w g (.slice none 0 0) 0 0) : Calls Try.prog 22 #[.pointer (some ⟨g, 0, none⟩), .int .i64 k] w fun e w' => e = .returned (.int .i64 0) ∧ w.grownBy w' (some g) ∧ Row w' g (.slice none 0 0) 0 20 := by
  have hglt := h.lt
  have HB : Hid (Below w.heap.size w ((w.alloc (.cells #[.int .i64 k] 2)).alloc (.cells #[.int .i64 0] 2))) := ((Below.refl _ _).alloc (Nat.le_refl _) _).alloc (by simp) _
  have H3 : Hid (Box ((w.alloc (.cells #[.int .i64 k] 2)).alloc (.cells #[.int .i64 0] 2)) w.heap.size (.int .i64 k) 2) := by
    have h : Box (w.alloc (.cells #[.int .i64 k] 2)) w.heap.size (.int .i64 k) 2 := heap_alloc_new _ _
    exact h.below ((Below.refl _ _).alloc (Nat.le_refl _) _)
  have H5 : Hid (Box ((w.alloc (.cells #[.int .i64 k] 2)).alloc (.cells #[.int .i64 0] 2)) (w.heap.size + 1) (.int .i64 0) 2) := by
    have h : Box ((w.alloc (.cells #[.int .i64 k] 2)).alloc (.cells #[.int .i64 0] 2)) (w.alloc (.cells #[.int .i64 k] 2)).heap.size (.int .i64 0) 2 := heap_alloc_new _ _
    rw [show (w.alloc (.cells #[.int .i64 k] 2)).heap.size = w.heap.size + 1 by simp] at h
    exact h
  have HZ : Hid (((w.alloc (.cells #[.int .i64 k] 2)).alloc (.cells #[.int .i64 0] 2)).heap.size = w.heap.size + 2) := by show _ = _; simp
  have HRow := hide (h.grown (below_grown HB.out) (by simp))
  have HF := hide (fun args w => enter_of Try.func33 (by kernel_rfl) (c := _) rfl args w)
  have HN := hide (num1_any none 0 0 w.heap.size (w.heap.size + 1) [] k _ (rd_nil _) (Nat.le_refl _) (by omega) H3.out H5.out)
  rw [atMost_nil] at HN
  clear H3 h
  go_enter Try.func22, Try.ntmps22
  go_wp2_with fail
  refine (read_fails _ g _ 0 20 _ _ 0 _ (fun w1 => Box w1 (w.heap.size + 1) (.int .i64 0) 2 ∧ ((w.alloc (.cells #[.int .i64 k] 2)).alloc (.cells #[.int .i64 0] 2)).grownBy w1 (some (w.heap.size + 1))) HF.out HRow.out (by first | decide | omega) HN.out (fun w1 h => HRow.out.grown h.2 (fun e => by have := Option.some.inj e; omega)) _ _ _ rfl).mono ?_
  rintro e w' ⟨rfl, w1, ⟨hbox, hg1⟩, hrow', hg'⟩
  have hbx : Box w' (w.heap.size + 1) (.int .i64 0) 2 := by
    unfold Box; rw [hg'.block _ hbox.lt (fun e => by have := Option.some.inj e; omega)]; exact hbox
  have c5 := hbx.c0
  have HGR : Hid (w.grownBy w' (some g)) := grown_trans (grown_new (grown_of_below HB.out) hg1 (fun i e => by cases e; omega)) hg'
  have HRW := hide hrow'
  clear hbox hg1 hrow' hg' hbx HN
  go_wp2_with fail
  go_ret
  exact ⟨rfl, HGR.out, HRW.out⟩
set_option maxHeartbeats 1000000 in
set_option maxRecDepth 100000 in
theorem fixed_zero (g : Nat) (k : Int) (w : World) (h : Row w g (.slice none 0 0) 0 0) (er : Nat) (hfx : fixAt [] k = (0, 0, er)) (hne : er ≠ 0) : Calls Try.prog 35 #[.pointer (some ⟨g, 0, none⟩), .int .i64 k] w fun e w' => e = .returned (.int .u64 0) ∧ w.grownBy w' (some g) ∧ Row w' g (.slice none 0 0) 0 (er : Int) := by
  have hglt := h.lt
  have HB : Hid (Below w.heap.size w ((w.alloc (.cells #[.int .i64 k] 3)).alloc (.cells #[.int .u64 0] 43))) := ((Below.refl _ _).alloc (Nat.le_refl _) _).alloc (by simp) _
  have H3 : Hid (Box ((w.alloc (.cells #[.int .i64 k] 3)).alloc (.cells #[.int .u64 0] 43)) w.heap.size (.int .i64 k) 3) := by
    have h : Box (w.alloc (.cells #[.int .i64 k] 3)) w.heap.size (.int .i64 k) 3 := heap_alloc_new _ _
    exact h.below ((Below.refl _ _).alloc (Nat.le_refl _) _)
  have H5 : Hid (Box ((w.alloc (.cells #[.int .i64 k] 3)).alloc (.cells #[.int .u64 0] 43)) (w.heap.size + 1) (.int .u64 0) 43) := by
    have h : Box ((w.alloc (.cells #[.int .i64 k] 3)).alloc (.cells #[.int .u64 0] 43)) (w.alloc (.cells #[.int .i64 k] 3)).heap.size (.int .u64 0) 43 := heap_alloc_new _ _
    rw [show (w.alloc (.cells #[.int .i64 k] 3)).heap.size = w.heap.size + 1 by simp] at h
    exact h
  have HZ : Hid (((w.alloc (.cells #[.int .i64 k] 3)).alloc (.cells #[.int .u64 0] 43)).heap.size = w.heap.size + 2) := by show _ = _; simp
  have HRow := hide (h.grown (below_grown HB.out) (by simp))
  have HF := hide (fun args w => enter_of Try.func49 (by kernel_rfl) (c := _) rfl args w)
  have HN := hide (fixed1_any none 0 0 w.heap.size (w.heap.size + 1) [] k _ (rd_nil _) (Nat.le_refl _) (by omega) H3.out H5.out (by omega))
  rw [hfx] at HN
  clear H3 h
  go_enter Try.func35, Try.ntmps35
  go_wp2_with fail
  refine (read_fails _ g _ 0 (er : Int) _ _ 0 _ (fun w1 => Box w1 (w.heap.size + 1) (.int .u64 0) 43 ∧ ((w.alloc (.cells #[.int .i64 k] 3)).alloc (.cells #[.int .u64 0] 43)).grownBy w1 (some (w.heap.size + 1))) HF.out HRow.out (by first | decide | omega) HN.out (fun w1 h => HRow.out.grown h.2 (fun e => by have := Option.some.inj e; omega)) _ _ _ rfl).mono ?_
  rintro e w' ⟨rfl, w1, ⟨hbox, hg1⟩, hrow', hg'⟩
  have hbx : Box w' (w.heap.size + 1) (.int .u64 0) 43 := by
    unfold Box; rw [hg'.block _ hbox.lt (fun e => by have := Option.some.inj e; omega)]; exact hbox
  have c5 := hbx.c0
  have HGR : Hid (w.grownBy w' (some g)) := grown_trans (grown_new (grown_of_below HB.out) hg1 (fun i e => by cases e; omega)) hg'
  have HRW := hide hrow'
  clear hbox hg1 hrow' hg' hbx HN
  go_wp2_with fail
  go_ret
  exact ⟨rfl, HGR.out, HRW.out⟩
theorem takeAt_nil (k : Int) : takeAt [] k = (0, if k < 0 then 23 else if 0 < k then 20 else 0) := by
  unfold takeAt
  by_cases h : k < 0
  · rw [if_pos h, if_pos h]
  · rw [if_neg h, if_neg h]
    by_cases h2 : 0 < k
    · rw [if_pos (by simp; omega), if_pos h2]
    · rw [if_neg (by simp; omega), if_neg h2, show k = 0 by omega]; rfl
theorem fail_nil (k : Int) (w : World) : Calls Try.prog 47 #[.pointer none, .int .i64 k] w fun e w' => e = .returned (.tuple #[]) ∧ w' = w := by
  go_enter Try.func47, Try.ntmps47
  go_wp2
  refine bodyPost_ret (results_none rfl _ _ _) rfl ?_
  exact ⟨rfl, rfl⟩
theorem fail_none (g : Nat) (v : Value) (p er k : Int) (w : World) (h : Row w g v p er) (hk : er ≠ 0 ∨ k = 0) : Calls Try.prog 47 #[.pointer (some ⟨g, 0, none⟩), .int .i64 k] w fun e w' => e = .returned (.tuple #[]) ∧ w' = w := by
  have c2 := h.c2
  clear h
  by_cases he : er = 0
  · subst he
    obtain rfl : k = 0 := by omega
    clear hk
    go_enter Try.func47, Try.ntmps47
    go_wp2
    refine bodyPost_ret (results_none rfl _ _ _) rfl ?_
    exact ⟨rfl, rfl⟩
  · have hb : (er != 0) = true := by rw [bne_iff_ne]; exact he
    clear hk he
    go_enter Try.func47, Try.ntmps47
    go_wp2
    refine bodyPost_ret (results_none rfl _ _ _) rfl ?_
    exact ⟨rfl, rfl⟩
set_option maxRecDepth 100000 in
theorem end_nil (w : World) : Calls Try.prog 24 #[.pointer none] w fun e w' => e = .returned (.agg #[.int .i64 1, .int .i64 0]) ∧ Below w.heap.size w w' := by
  go_enter Try.func24, Try.ntmps24
  go_wp2
  refine bodyPost_ret (results_cell_row rfl _ _ w.heap.size 49 #[.int .i64 1, .int .i64 0] (0, 0) _ rfl (heap_alloc_new _ _) Try.underlying49 rfl (by kernel_rfl)) rfl ?_
  exact ⟨rfl, (Below.refl _ _).alloc (Nat.le_refl _) _⟩
set_option maxRecDepth 100000 in
theorem end_none (g : Nat) (p er : Int) (w : World) (h : Row w g (.slice none 0 0) p er) (hp : er = 0 → p = 0) : Calls Try.prog 24 #[.pointer (some ⟨g, 0, none⟩)] w fun e w' => e = .returned (.agg #[.int .i64 er, .int .i64 p]) ∧ Below w.heap.size w w' := by
  have hglt := h.lt
  have hne : g ≠ w.heap.size := by omega
  have c0 := h.c0
  have c1 := h.c1
  have c2 := h.c2
  clear h
  by_cases he : er = 0
  · obtain rfl := hp he
    subst he
    clear hp
    go_enter Try.func24, Try.ntmps24
    go_wp2
    refine bodyPost_ret (results_cell_row rfl _ _ w.heap.size 49 #[.int .i64 0, .int .i64 0] (0, 0) _ rfl (heap_alloc_new _ _) Try.underlying49 rfl (by kernel_rfl)) rfl ?_
    exact ⟨rfl, (Below.refl _ _).alloc (Nat.le_refl _) _⟩
  · have hb : (er != 0) = true := by rw [bne_iff_ne]; exact he
    clear hp he
    go_enter Try.func24, Try.ntmps24
    go_wp2
    go_region_held (fun V => V.cell? ⟨g, 1, none⟩ = some (.int .i64 p) ∧ V.cell? ⟨g, 2, none⟩ = some (.int .i64 er)) (go_keep) (fail)
    all_goals
      go_wp2
      refine bodyPost_ret (results_cell_row rfl _ _ w.heap.size 49 #[.int .i64 er, .int .i64 p] (0, 0) _ rfl (show (w.alloc (.cells #[.int .i64 er, .int .i64 p] 49)).heap[w.heap.size]? = _ from heap_alloc_new _ _) Try.underlying49 rfl (by kernel_rfl)) rfl ?_
      exact ⟨rfl, ((Below.refl _ _).alloc (Nat.le_refl _) _).drew⟩
end Go.Proofs.Ytbmbhcjocgbbpab.Curs
