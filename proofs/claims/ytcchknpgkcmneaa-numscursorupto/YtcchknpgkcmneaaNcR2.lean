/-
  The document's cursor: Rest, End, Num, Take.
-/
import Derived.Test.YtcchknpgkcmneaaNcR
namespace Go.Proofs.Ytcchknpgkcmneaa.Curs
open Go.ChangeShapes Go.WideShapes Go.ChangeAt Go.RowKit
open Go.Proofs.Ytcchknpgkcmneaa.Base Go.Proofs.Ytcchknpgkcmneaa.Nums
set_option linter.unusedVariables false
theorem rfail_nil (k : Int) (w : World) : Calls Try.prog 57 #[.pointer none, .int .i64 k] w fun e w' => e = .returned (.tuple #[]) ∧ w' = w := by
  go_enter Try.func57, Try.ntmps57
  go_wp2
  refine bodyPost_ret (results_none rfl _ _ _) rfl ?_
  exact ⟨rfl, rfl⟩
theorem rfail_none (g : Nat) (v : Value) (p er wa k : Int) (f : Bool) (w : World) (h : Row5 w g v p f er wa) (hk : f = true ∨ k = 0) : Calls Try.prog 57 #[.pointer (some ⟨g, 0, none⟩), .int .i64 k] w fun e w' => e = .returned (.tuple #[]) ∧ w' = w := by
  have c2 := h.c2
  clear h
  cases f with
  | false =>
    obtain rfl : k = 0 := by simpa using hk
    clear hk
    go_enter Try.func57, Try.ntmps57
    go_wp2
    refine bodyPost_ret (results_none rfl _ _ _) rfl ?_
    exact ⟨rfl, rfl⟩
  | true =>
    clear hk
    go_enter Try.func57, Try.ntmps57
    go_wp2
    refine bodyPost_ret (results_none rfl _ _ _) rfl ?_
    exact ⟨rfl, rfl⟩
theorem rrest_nil (w : World) : Calls Try.prog 12 #[.pointer none] w fun e w' => e = .returned (.int .i64 0) ∧ w' = w := by
  go_enter Try.func12, Try.ntmps12
  go_wp2
  go_ret
  exact ⟨rfl, rfl⟩
theorem rrest_dead (g : Nat) (v : Value) (p er wa : Int) (w : World) (h : Row5 w g v p true er wa) : Calls Try.prog 12 #[.pointer (some ⟨g, 0, none⟩)] w fun e w' => e = .returned (.int .i64 0) ∧ w' = w := by
  have c2 := h.c2
  clear h
  go_enter Try.func12, Try.ntmps12
  go_wp2
  go_ret
  exact ⟨rfl, rfl⟩
set_option maxRecDepth 100000 in
theorem rrest_any (g p n c m : Nat) (a : Option Addr) (w : World) (h : Row5 w g (.slice a n c) (p : Int) false 0 0) (hm : p + m = n) (hn : n ≤ 140737488355328) : Calls Try.prog 12 #[.pointer (some ⟨g, 0, none⟩)] w fun e w' => e = .returned (.int .i64 (m : Int)) ∧ Below w.heap.size w w' := by
  have c0 := h.c0
  have c1 := h.c1
  have c2 := h.c2
  have e3 : IntKind.i64.wrap ((n : Int) - (p : Int)) = (m : Int) := by rw [IntKind.wrap_i64]; omega
  clear h hm
  go_enter Try.func12, Try.ntmps12
  go_wp2
  go_quiet (fail)
  go_wp2_with fail
  go_ret
  exact ⟨rfl, by first | exact Below.refl _ _ | exact (Below.refl _ _).drew | exact below_drewN' _ _ _⟩
set_option maxRecDepth 100000 in
theorem rend_nil (w : World) : Calls Try.prog 14 #[.pointer none] w fun e w' => e = .returned (.agg #[.int .i64 1, .int .i64 0]) ∧ Below w.heap.size w w' := by
  go_enter Try.func14, Try.ntmps14
  go_wp2
  refine bodyPost_ret (results_cell_row rfl _ _ w.heap.size 34 #[.int .i64 1, .int .i64 0] (0, 0) _ rfl (heap_alloc_new _ _) Try.underlying34 rfl (by kernel_rfl)) rfl ?_
  exact ⟨rfl, (Below.refl _ _).alloc (Nat.le_refl _) _⟩
set_option maxRecDepth 100000 in
theorem rend_dead (g : Nat) (v : Value) (p er wa : Int) (w : World) (h : Row5 w g v p true er wa) : Calls Try.prog 14 #[.pointer (some ⟨g, 0, none⟩)] w fun e w' => e = .returned (.agg #[.int .i64 er, .int .i64 wa]) ∧ Below w.heap.size w w' := by
  have hglt := h.lt
  have hne : g ≠ w.heap.size := by omega
  have c2 := h.c2
  have c3 := h.c3
  have c4 := h.c4
  clear h
  go_enter Try.func14, Try.ntmps14
  go_wp2
  refine bodyPost_ret (results_cell_row rfl _ _ w.heap.size 34 #[.int .i64 er, .int .i64 wa] (0, 0) _ rfl (heap_alloc_new _ _) Try.underlying34 rfl (by kernel_rfl)) rfl ?_
  exact ⟨rfl, (Below.refl _ _).alloc (Nat.le_refl _) _⟩
set_option maxRecDepth 100000 in
theorem rend_any (g p n c : Nat) (a : Option Addr) (w : World) (h : Row5 w g (.slice a n c) (p : Int) false 0 0) (hp : p ≤ n) : Calls Try.prog 14 #[.pointer (some ⟨g, 0, none⟩)] w fun e w' => e = .returned (.agg (if n = p then #[.int .i64 0, .int .i64 0] else #[.int .i64 22, .int .i64 (p : Int)])) ∧ Below w.heap.size w w' := by
  have hglt := h.lt
  have hne : g ≠ w.heap.size := by omega
  have c0 := h.c0
  have c1 := h.c1
  have c2 := h.c2
  clear h
  by_cases hl : n = p
  · rw [if_pos hl]
    have hd : ¬ (p : Int) < (n : Int) := by omega
    have hd2 : decide (p < n) = false := by simp; omega
    clear hl hp
    go_enter Try.func14, Try.ntmps14
    go_wp2
    go_quiet (fail)
    go_wp2_with fail
    refine bodyPost_ret (results_cell_row rfl _ _ w.heap.size 34 #[.int .i64 0, .int .i64 0] (0, 0) _ rfl (heap_setCell_same _ _ _ _ _ _ (heap_setCell_same _ _ _ _ _ _ (heap_alloc_new w (.cells #[.int .i64 0, .int .i64 0] 34)))) Try.underlying34 rfl (by kernel_rfl)) rfl ?_
    exact ⟨rfl, ((below_drewN ((Below.refl _ _).alloc (Nat.le_refl _) _) _).setCell (Nat.le_refl _) _).setCell (Nat.le_refl _) _⟩
  · rw [if_neg hl]
    have hd : (p : Int) < (n : Int) := by omega
    have hd2 : decide (p < n) = true := by simp; omega
    clear hl hp
    go_enter Try.func14, Try.ntmps14
    go_wp2
    go_quiet (fail)
    go_wp2_with fail
    refine bodyPost_ret (results_cell_row rfl _ _ w.heap.size 34 #[.int .i64 22, .int .i64 (p : Int)] (0, 0) _ rfl (heap_setCell_same _ _ _ _ _ _ (heap_setCell_same _ _ _ _ _ _ (heap_alloc_new w (.cells #[.int .i64 0, .int .i64 0] 34)))) Try.underlying34 rfl (by kernel_rfl)) rfl ?_
    exact ⟨rfl, ((below_drewN ((Below.refl _ _).alloc (Nat.le_refl _) _) _).setCell (Nat.le_refl _) _).setCell (Nat.le_refl _) _⟩
theorem rnum_nil (k : Int) (w : World) : Calls Try.prog 47 #[.pointer none, .int .i64 k] w fun e w' => e = .returned (.int .i64 0) ∧ w' = w := by
  go_enter Try.func47, Try.ntmps47
  go_wp2
  go_ret
  exact ⟨rfl, rfl⟩
theorem rnum_dead (g : Nat) (v : Value) (p er wa k : Int) (w : World) (h : Row5 w g v p true er wa) : Calls Try.prog 47 #[.pointer (some ⟨g, 0, none⟩), .int .i64 k] w fun e w' => e = .returned (.int .i64 0) ∧ w' = w := by
  have c2 := h.c2
  clear h
  go_enter Try.func47, Try.ntmps47
  go_wp2
  go_ret
  exact ⟨rfl, rfl⟩
set_option maxHeartbeats 1000000 in
set_option maxRecDepth 100000 in
theorem rnum_any (g D p : Nat) (L : List (BitVec 8)) (k : Int) (w : World) (h : ReA w g D L p) : Calls Try.prog 47 #[.pointer (some ⟨g, 0, none⟩), .int .i64 k] w fun e w' => e = .returned (.int .i64 ((atMost L k).1 : Nat)) ∧ w.grownBy w' (some g) ∧
    (if (atMost L k).2.2 = 0 then ReA w' g D (L.drop (atMost L k).2.1) (p + (atMost L k).2.1) else ReD w' g p ((atMost L k).2.2 : Nat)) := by
  obtain ⟨a, n, c, bs, hrow, hrd, hsl, hp, hL, had⟩ := h
  obtain ⟨la, hsa, hra⟩ := slice_from a n c p hsl hp
  have HROW := hide hrow
  have HRD := hide hrd
  have HSL := hide hsl
  have HAD := hide had
  have HL := hide hL
  have c0 := hrow.c0
  have c1 := hrow.c1
  have c2 := hrow.c2
  have HC : Hid (∀ W, Below w.heap.size w W → Calls Try.prog 91 #[.slice la (n - p) (c - p)] W fun e w' => e = .returned (.tuple #[.int .i64 ((get L).1 : Nat), .int .i64 ((get L).2.1 : Nat), .int .i64 ((get L).2.2 : Nat)]) ∧ Below w.heap.size w w') := fun W hW =>
    (refGet_any la (n - p) (c - p) L W (by rw [hL]; exact hra W bs (hrd.below hW))).mono fun e w' ⟨h1, h2⟩ => ⟨h1, hW.trans (h2.mono hW.size)⟩
  have HD : Hid (atMost L k = if (get L).2.2 ≠ 0 then (0, 0, (get L).2.2) else if k < ((get L).1 : Int) then (0, 0, 23) else get L) := rfl
  have h1 := get_fst L
  have h2 := get_len L
  have HLL : Hid (L.length = n - p) := by show _ = _; rw [hL, List.length_drop, hrd.1]
  have hn47 : n ≤ 140737488355328 := hrd.2.1
  have hpi : (p : Int) ≤ (n : Int) := by omega
  generalize atMost L k = A at HD
  generalize hG : get L = G at HC HD h1 h2
  obtain ⟨gv, gn, ge⟩ := G
  simp only at HC HD h1 h2
  clear hrow hrd hsl had hL hra hG
  go_enter Try.func47, Try.ntmps47
  go_wp2_with fail
  go_region_held (fun V => V.cell? ⟨g, 0, none⟩ = some (.slice a n c) ∧ V.cell? ⟨g, 1, none⟩ = some (.int .i64 (p : Int))) (first | go_keep | exact E8.out) (first
    | (go_at_call 91; refine (HC.out _ ((Below.refl _ _).drew)).mono ?_; rintro e w1 ⟨rfl, hb1⟩; have HB := hide hb1; have E8 := hide (And.intro (HROW.out.below hb1).c0 (HROW.out.below hb1).c1); clear hb1))
  have HR1 := hide (HROW.out.below HB.out)
  have HRD1 := hide (HRD.out.below HB.out)
  have hs1 := HB.out.size
  have d1 := HR1.out.c1
  have f1 := HR1.out.fr 1
  clear HC c0 c1 c2 hsa E8
  by_cases he : ge = 0
  · subst he
    by_cases hm : k < (gv : Int)
    · obtain rfl : A = (0, 0, 23) := by rw [HD.out, if_neg (by simp), if_pos hm]
      clear HD
      go_wp2_with fail
      refine (rfail_any g _ (p : Int) 23 w1 HR1.out (by decide)).mono ?_
      rintro e w2 ⟨rfl, hr2, hg2⟩
      have HR2 := hide hr2
      have HG2 := hide (grown_trans (grown_any (below_grown HB.out) (some g)) hg2)
      clear hr2 hg2
      go_wp2_with fail
      go_ret
      exact ⟨rfl, HG2.out, by first | exact ⟨_, _, _, _, HR2.out, by decide⟩ | (rw [if_neg (by decide)]; exact ⟨_, _, _, _, HR2.out, by decide⟩)⟩
    · obtain rfl : A = (gv, gn, 0) := by rw [HD.out, if_neg (by simp), if_neg hm]
      have hsum : (p : Int) + (gn : Int) = ((p + gn : Nat) : Int) := by omega
      obtain ⟨q, hq⟩ : ∃ q, p + gn = q := ⟨_, rfl⟩
      rw [hq] at hsum
      have hqn : q ≤ n := by have := HLL.out; omega
      have hqi : (q : Int) ≤ 140737488355328 := by omega
      have HQ := hide hq
      clear HD hq
      go_wp2_with fail
      go_ret
      have hgr : w.grownBy (w1.setCell ⟨g, 1, none⟩ (.int .i64 (q : Int))) (some g) := grown_cell (grown_any (below_grown HB.out) (some g)) 1 _
      refine ⟨rfl, by first | exact hgr | (rw [hsum]; exact hgr), ?_⟩
      (try rw [if_pos rfl])
      (try simp only)
      rw [HQ.out]
      refine ⟨a, n, c, bs, by first | exact HR1.out.put1 (q : Int) | (rw [hsum]; exact HR1.out.put1 (q : Int)), ?_, HSL.out, hqn, by rw [HL.out, List.drop_drop, HQ.out], fun ad e => ⟨(HAD.out ad e).1, (HAD.out ad e).2.1, ?_⟩⟩
      · exact HRD1.out.grown (r := some g) (grown_cell (World.grownBy.refl _ _) 1 _) (fun ad e e2 => (HAD.out ad e).1 (Option.some.inj e2).symm)
      · have := (HAD.out ad e).2.2
        simp [World.setCell]; omega
  · obtain rfl : A = (0, 0, ge) := by rw [HD.out, if_pos he]
    have hb : ((ge : Int) != 0) = true := by rw [bne_iff_ne]; omega
    have hb2 : ((ge : Int) == 0) = false := by rw [beq_eq_false_iff_ne]; omega
    clear HD
    go_wp2_with fail
    refine (rfail_any g _ (p : Int) (ge : Int) w1 HR1.out (by omega)).mono ?_
    rintro e w2 ⟨rfl, hr2, hg2⟩
    have HR2 := hide hr2
    have HG2 := hide (grown_trans (grown_any (below_grown HB.out) (some g)) hg2)
    clear hr2 hg2
    go_wp2_with fail
    go_ret
    exact ⟨rfl, HG2.out, by first | exact ⟨_, _, _, _, HR2.out, by omega⟩ | (rw [if_neg he]; exact ⟨_, _, _, _, HR2.out, by omega⟩)⟩
end Go.Proofs.Ytcchknpgkcmneaa.Curs
