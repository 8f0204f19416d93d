/-
  One step on nil cursors; one step, whatever it is.
-/
import Derived.Test.YtcchknpgkcmneaaNcT7
namespace Go.Proofs.Ytcchknpgkcmneaa.Curs
open Go.ChangeShapes Go.WideShapes Go.ChangeAt Go.RowKit
open Go.Proofs.Ytcchknpgkcmneaa.Base Go.Proofs.Ytcchknpgkcmneaa.Nums
set_option linter.unusedVariables false
structure Ctn (w : World) (base gt x : Nat) (vl vw vg : Value) (es : List En) (op N : Int) (W : World) : Prop where
  tk : TK W base gt vl vw vg es
  sx : SX W x op N
  lo : Below base w W
  sz : w.heap.size ≤ W.heap.size
theorem Ctn.below {w W W' : World} {base gt x : Nat} {vl vw vg : Value} {es : List En} {op N : Int} (h : Ctn w base gt x vl vw vg es op N W) (hb : Below W.heap.size W W') (h3 : base ≤ w.heap.size) : Ctn w base gt x vl vw vg es op N W' :=
  ⟨h.tk.below hb, h.sx.below hb, h.lo.trans (hb.mono (Nat.le_trans h3 h.sz)), Nat.le_trans h.sz hb.size⟩
theorem any_nil {fn : FuncId} {args : Array Value} {r : Value} (h : ∀ W, Calls Try.prog fn args W fun e w' => e = .returned r ∧ Below W.heap.size W w') {w : World} {base gt x : Nat} {vl vw vg : Value} {es : List En} {op N : Int} (h3 : base ≤ w.heap.size) :
    ∀ W, Ctn w base gt x vl vw vg es op N W → Calls Try.prog fn args W fun e w' => e = .returned r ∧ Ctn w base gt x vl vw vg es op N w' := fun W hW => (h W).mono fun e w' ⟨q1, q2⟩ => ⟨q1, hW.below q2 h3⟩
theorem still {fn : FuncId} {args : Array Value} {r : Value} (h : ∀ W, Calls Try.prog fn args W fun e w' => e = .returned r ∧ w' = W) : ∀ W, Calls Try.prog fn args W fun e w' => e = .returned r ∧ Below W.heap.size W w' := fun W => (h W).mono fun e w' ⟨q1, q2⟩ => ⟨q1, q2 ▸ Below.refl _ _⟩
set_option maxHeartbeats 2000000 in
set_option maxRecDepth 100000 in
theorem none0 (base gt : Nat) (vl vw vg : Value) (es : List En) (N : Int) (w : World) (htk : TK w base gt vl vw vg es) (hes : es.length ≤ 4194000) (hbase : base ≤ w.heap.size) :
    Calls Try.prog 15 #[.pointer (some ⟨gt, 0, none⟩), .pointer none, .pointer none, .agg #[.int .i64 0, .int .i64 N]] w fun e' w' => e' = .returned (.bool true) ∧ (∃ vl' vw' vg' es', TK w' base gt vl' vw' vg' es' ∧ es'.length ≤ es.length + 1) ∧ Below base w w' := by
  obtain ⟨x, hx⟩ : ∃ x, w.heap.size = x := ⟨_, rfl⟩
  obtain ⟨w0, hw0⟩ : ∃ w0, w.alloc (.cells #[.int .i64 0, .int .i64 N] 45) = w0 := ⟨_, rfl⟩
  have hb0 : Below w.heap.size w w0 := by rw [← hw0]; exact (Below.refl _ _).alloc (Nat.le_refl _) _
  have HX0 : Hid (Ctn w base gt x vl vw vg es 0 N w0) := ⟨htk.below hb0, by rw [← hw0, ← hx]; exact heap_alloc_new _ _, hb0.mono hbase, hb0.size⟩
  have HBW := hide hbase
  have HES := hide hes
  have s0 := HX0.out.sx.c0
  have s1 := HX0.out.sx.c1
  have HPR := hide (any_nil (still rest_nil) (gt := gt) (x := x) (vl := vl) (vw := vw) (vg := vg) (es := es) (op := 0) (N := N) hbase)
  have HRR := hide (any_nil (still rrest_nil) (gt := gt) (x := x) (vl := vl) (vw := vw) (vg := vg) (es := es) (op := 0) (N := N) hbase)
  have HPE := hide (any_nil end_nil (gt := gt) (x := x) (vl := vl) (vw := vw) (vg := vg) (es := es) (op := 0) (N := N) hbase)
  have HRE := hide (any_nil rend_nil (gt := gt) (x := x) (vl := vl) (vw := vw) (vg := vg) (es := es) (op := 0) (N := N) hbase)
  have HC := hide (any_nil (fun W => num_nil N W) (gt := gt) (x := x) (vl := vl) (vw := vw) (vg := vg) (es := es) (op := 0) (N := N) hbase)
  have HR := hide (any_nil (still (fun W => rnum_nil N W)) (gt := gt) (x := x) (vl := vl) (vw := vw) (vg := vg) (es := es) (op := 0) (N := N) hbase)
  clear htk hes hbase hb0
  go_enter Try.func15, Try.ntmps15
  go_wp2_with fail
  go_region_held (fun V => V.cell? ⟨x, 1, none⟩ = some (.int .i64 N)) (first | go_keep | exact E8.out | exact E9.out) (first
    | (go_at_call 46; refine (HC.out _ (HX0.out.below ((Below.refl _ _).drew) HBW.out)).mono ?_; rintro e w1 ⟨rfl, hx1⟩; have HX1 := hide hx1; have E8 := hide hx1.sx.c1; clear hx1)
    | (go_at_call 47; refine (HR.out _ HX1.out).mono ?_; rintro e w2 ⟨rfl, hx2⟩; have HX2 := hide hx2; have E9 := hide hx2.sx.c1; clear hx2))
  clear HC HR HX0 HX1 E8 E9 s0 s1
  go_wp2_with fail
  refine (HPR.out _ HX2.out).mono ?_
  rintro e w3 ⟨rfl, hx3⟩
  have HX3 := hide hx3
  clear hx3
  go_wp2_with fail
  refine (HRR.out _ HX3.out).mono ?_
  rintro e w4 ⟨rfl, hx4⟩
  have HX4 := hide hx4
  clear hx4 HX3
  go_wp2_with fail
  refine (HPE.out _ HX4.out).mono ?_
  rintro e w5 ⟨rfl, hx5⟩
  have HX5 := hide hx5
  clear hx5 HX4
  go_wp2_with fail
  refine (HRE.out _ HX5.out).mono ?_
  rintro e w6 ⟨rfl, hx6⟩
  have HX6 := hide hx6
  clear hx6 HX5
  go_wp2_with fail
  go_ret
  exact ⟨by first | rfl | simp, ⟨vl, vw, vg, es, HX6.out.tk, Nat.le_succ _⟩, HX6.out.lo⟩
set_option maxHeartbeats 2000000 in
set_option maxRecDepth 100000 in
theorem none1 (base gt : Nat) (vl vw vg : Value) (es : List En) (N : Int) (w : World) (htk : TK w base gt vl vw vg es) (hes : es.length ≤ 4194000) (hbase : base ≤ w.heap.size) :
    Calls Try.prog 15 #[.pointer (some ⟨gt, 0, none⟩), .pointer none, .pointer none, .agg #[.int .i64 1, .int .i64 N]] w fun e' w' => e' = .returned (.bool true) ∧ (∃ vl' vw' vg' es', TK w' base gt vl' vw' vg' es' ∧ es'.length ≤ es.length + 1) ∧ Below base w w' := by
  obtain ⟨x, hx⟩ : ∃ x, w.heap.size = x := ⟨_, rfl⟩
  obtain ⟨w0, hw0⟩ : ∃ w0, w.alloc (.cells #[.int .i64 1, .int .i64 N] 45) = w0 := ⟨_, rfl⟩
  have hb0 : Below w.heap.size w w0 := by rw [← hw0]; exact (Below.refl _ _).alloc (Nat.le_refl _) _
  have HX0 : Hid (Ctn w base gt x vl vw vg es 1 N w0) := ⟨htk.below hb0, by rw [← hw0, ← hx]; exact heap_alloc_new _ _, hb0.mono hbase, hb0.size⟩
  have HBW := hide hbase
  have HES := hide hes
  have s0 := HX0.out.sx.c0
  have s1 := HX0.out.sx.c1
  have HPR := hide (any_nil (still rest_nil) (gt := gt) (x := x) (vl := vl) (vw := vw) (vg := vg) (es := es) (op := 1) (N := N) hbase)
  have HRR := hide (any_nil (still rrest_nil) (gt := gt) (x := x) (vl := vl) (vw := vw) (vg := vg) (es := es) (op := 1) (N := N) hbase)
  have HPE := hide (any_nil end_nil (gt := gt) (x := x) (vl := vl) (vw := vw) (vg := vg) (es := es) (op := 1) (N := N) hbase)
  have HRE := hide (any_nil rend_nil (gt := gt) (x := x) (vl := vl) (vw := vw) (vg := vg) (es := es) (op := 1) (N := N) hbase)
  have HC := hide (any_nil (fun W => fixed_nil N W) (gt := gt) (x := x) (vl := vl) (vw := vw) (vg := vg) (es := es) (op := 1) (N := N) hbase)
  have HR := hide (any_nil (still (fun W => rfixed_nil N W)) (gt := gt) (x := x) (vl := vl) (vw := vw) (vg := vg) (es := es) (op := 1) (N := N) hbase)
  clear htk hes hbase hb0
  go_enter Try.func15, Try.ntmps15
  go_wp2_with fail
  go_region_held (fun V => V.cell? ⟨x, 1, none⟩ = some (.int .i64 N)) (first | go_keep | exact E8.out | exact E9.out) (first
    | (go_at_call 48; refine (HC.out _ (HX0.out.below ((Below.refl _ _).drew) HBW.out)).mono ?_; rintro e w1 ⟨rfl, hx1⟩; have HX1 := hide hx1; have E8 := hide hx1.sx.c1; clear hx1)
    | (go_at_call 49; refine (HR.out _ HX1.out).mono ?_; rintro e w2 ⟨rfl, hx2⟩; have HX2 := hide hx2; have E9 := hide hx2.sx.c1; clear hx2))
  clear HC HR HX0 HX1 E8 E9 s0 s1
  go_wp2_with fail
  refine (HPR.out _ HX2.out).mono ?_
  rintro e w3 ⟨rfl, hx3⟩
  have HX3 := hide hx3
  clear hx3
  go_wp2_with fail
  refine (HRR.out _ HX3.out).mono ?_
  rintro e w4 ⟨rfl, hx4⟩
  have HX4 := hide hx4
  clear hx4 HX3
  go_wp2_with fail
  refine (HPE.out _ HX4.out).mono ?_
  rintro e w5 ⟨rfl, hx5⟩
  have HX5 := hide hx5
  clear hx5 HX4
  go_wp2_with fail
  refine (HRE.out _ HX5.out).mono ?_
  rintro e w6 ⟨rfl, hx6⟩
  have HX6 := hide hx6
  clear hx6 HX5
  go_wp2_with fail
  go_ret
  exact ⟨by first | rfl | simp, ⟨vl, vw, vg, es, HX6.out.tk, Nat.le_succ _⟩, HX6.out.lo⟩
set_option maxHeartbeats 2000000 in
set_option maxRecDepth 100000 in
theorem none3 (base gt : Nat) (vl vw vg : Value) (es : List En) (N : Int) (w : World) (htk : TK w base gt vl vw vg es) (hes : es.length ≤ 4194000) (hbase : base ≤ w.heap.size) :
    Calls Try.prog 15 #[.pointer (some ⟨gt, 0, none⟩), .pointer none, .pointer none, .agg #[.int .i64 3, .int .i64 N]] w fun e' w' => e' = .returned (.bool true) ∧ (∃ vl' vw' vg' es', TK w' base gt vl' vw' vg' es' ∧ es'.length ≤ es.length + 1) ∧ Below base w w' := by
  obtain ⟨x, hx⟩ : ∃ x, w.heap.size = x := ⟨_, rfl⟩
  obtain ⟨w0, hw0⟩ : ∃ w0, w.alloc (.cells #[.int .i64 3, .int .i64 N] 45) = w0 := ⟨_, rfl⟩
  have hb0 : Below w.heap.size w w0 := by rw [← hw0]; exact (Below.refl _ _).alloc (Nat.le_refl _) _
  have HX0 : Hid (Ctn w base gt x vl vw vg es 3 N w0) := ⟨htk.below hb0, by rw [← hw0, ← hx]; exact heap_alloc_new _ _, hb0.mono hbase, hb0.size⟩
  have HBW := hide hbase
  have HES := hide hes
  have s0 := HX0.out.sx.c0
  have s1 := HX0.out.sx.c1
  have HPR := hide (any_nil (still rest_nil) (gt := gt) (x := x) (vl := vl) (vw := vw) (vg := vg) (es := es) (op := 3) (N := N) hbase)
  have HRR := hide (any_nil (still rrest_nil) (gt := gt) (x := x) (vl := vl) (vw := vw) (vg := vg) (es := es) (op := 3) (N := N) hbase)
  have HPE := hide (any_nil end_nil (gt := gt) (x := x) (vl := vl) (vw := vw) (vg := vg) (es := es) (op := 3) (N := N) hbase)
  have HRE := hide (any_nil rend_nil (gt := gt) (x := x) (vl := vl) (vw := vw) (vg := vg) (es := es) (op := 3) (N := N) hbase)
  have HC := hide (any_nil (fun W => text_nil N W) (gt := gt) (x := x) (vl := vl) (vw := vw) (vg := vg) (es := es) (op := 3) (N := N) hbase)
  have HR := hide (any_nil (still (fun W => rtext_nil N W)) (gt := gt) (x := x) (vl := vl) (vw := vw) (vg := vg) (es := es) (op := 3) (N := N) hbase)
  clear htk hes hbase hb0
  go_enter Try.func15, Try.ntmps15
  go_wp2_with fail
  go_region_held (fun V => V.cell? ⟨x, 1, none⟩ = some (.int .i64 N)) (first | go_keep | exact E8.out | exact E9.out) (first
    | (go_at_call 54; refine (HC.out _ (HX0.out.below ((Below.refl _ _).drew) HBW.out)).mono ?_; rintro e w1 ⟨rfl, hx1⟩; have HX1 := hide hx1; have E8 := hide hx1.sx.c1; clear hx1)
    | (go_at_call 55; refine (HR.out _ HX1.out).mono ?_; rintro e w2 ⟨rfl, hx2⟩; have HX2 := hide hx2; have E9 := hide hx2.sx.c1; clear hx2))
  clear HC HR HX0 HX1 E8 E9 s0 s1
  go_wp2_with fail
  refine (HPR.out _ HX2.out).mono ?_
  rintro e w3 ⟨rfl, hx3⟩
  have HX3 := hide hx3
  clear hx3
  go_wp2_with fail
  refine (HRR.out _ HX3.out).mono ?_
  rintro e w4 ⟨rfl, hx4⟩
  have HX4 := hide hx4
  clear hx4 HX3
  go_wp2_with fail
  refine (HPE.out _ HX4.out).mono ?_
  rintro e w5 ⟨rfl, hx5⟩
  have HX5 := hide hx5
  clear hx5 HX4
  go_wp2_with fail
  refine (HRE.out _ HX5.out).mono ?_
  rintro e w6 ⟨rfl, hx6⟩
  have HX6 := hide hx6
  clear hx6 HX5
  go_wp2_with fail
  go_ret
  exact ⟨by first | rfl | simp, ⟨vl, vw, vg, es, HX6.out.tk, Nat.le_succ _⟩, HX6.out.lo⟩
set_option maxHeartbeats 2000000 in
set_option maxRecDepth 100000 in
theorem none4 (base gt : Nat) (vl vw vg : Value) (es : List En) (N : Int) (w : World) (htk : TK w base gt vl vw vg es) (hes : es.length ≤ 4194000) (hbase : base ≤ w.heap.size) :
    Calls Try.prog 15 #[.pointer (some ⟨gt, 0, none⟩), .pointer none, .pointer none, .agg #[.int .i64 4, .int .i64 N]] w fun e' w' => e' = .returned (.bool true) ∧ (∃ vl' vw' vg' es', TK w' base gt vl' vw' vg' es' ∧ es'.length ≤ es.length + 1) ∧ Below base w w' := by
  obtain ⟨x, hx⟩ : ∃ x, w.heap.size = x := ⟨_, rfl⟩
  obtain ⟨w0, hw0⟩ : ∃ w0, w.alloc (.cells #[.int .i64 4, .int .i64 N] 45) = w0 := ⟨_, rfl⟩
  have hb0 : Below w.heap.size w w0 := by rw [← hw0]; exact (Below.refl _ _).alloc (Nat.le_refl _) _
  have HX0 : Hid (Ctn w base gt x vl vw vg es 4 N w0) := ⟨htk.below hb0, by rw [← hw0, ← hx]; exact heap_alloc_new _ _, hb0.mono hbase, hb0.size⟩
  have HBW := hide hbase
  have HES := hide hes
  have s0 := HX0.out.sx.c0
  have s1 := HX0.out.sx.c1
  have HPR := hide (any_nil (still rest_nil) (gt := gt) (x := x) (vl := vl) (vw := vw) (vg := vg) (es := es) (op := 4) (N := N) hbase)
  have HRR := hide (any_nil (still rrest_nil) (gt := gt) (x := x) (vl := vl) (vw := vw) (vg := vg) (es := es) (op := 4) (N := N) hbase)
  have HPE := hide (any_nil end_nil (gt := gt) (x := x) (vl := vl) (vw := vw) (vg := vg) (es := es) (op := 4) (N := N) hbase)
  have HRE := hide (any_nil rend_nil (gt := gt) (x := x) (vl := vl) (vw := vw) (vg := vg) (es := es) (op := 4) (N := N) hbase)
  have HC := hide (any_nil (still (fun W => fail_nil N W)) (gt := gt) (x := x) (vl := vl) (vw := vw) (vg := vg) (es := es) (op := 4) (N := N) hbase)
  have HR := hide (any_nil (still (fun W => rfail_nil N W)) (gt := gt) (x := x) (vl := vl) (vw := vw) (vg := vg) (es := es) (op := 4) (N := N) hbase)
  clear htk hes hbase hb0
  go_enter Try.func15, Try.ntmps15
  go_wp2_with fail
  refine (HC.out _ HX0.out).mono ?_
  rintro e w1 ⟨rfl, hx1⟩
  have HX1 := hide hx1
  have s2 := hx1.sx.c1
  clear hx1 HC HX0 s0 s1
  go_wp2_with fail
  refine (HR.out _ HX1.out).mono ?_
  rintro e w2 ⟨rfl, hx2⟩
  have HX2 := hide hx2
  clear hx2 HR HX1 s2
  go_wp2_with fail
  refine (HPR.out _ HX2.out).mono ?_
  rintro e w3 ⟨rfl, hx3⟩
  have HX3 := hide hx3
  clear hx3
  go_wp2_with fail
  refine (HRR.out _ HX3.out).mono ?_
  rintro e w4 ⟨rfl, hx4⟩
  have HX4 := hide hx4
  clear hx4 HX3
  go_wp2_with fail
  refine (HPE.out _ HX4.out).mono ?_
  rintro e w5 ⟨rfl, hx5⟩
  have HX5 := hide hx5
  clear hx5 HX4
  go_wp2_with fail
  refine (HRE.out _ HX5.out).mono ?_
  rintro e w6 ⟨rfl, hx6⟩
  have HX6 := hide hx6
  clear hx6 HX5
  go_wp2_with fail
  go_ret
  exact ⟨by first | rfl | simp, ⟨vl, vw, vg, es, HX6.out.tk, Nat.le_succ _⟩, HX6.out.lo⟩
set_option maxHeartbeats 2000000 in
set_option maxRecDepth 100000 in
theorem none9 (base gt : Nat) (vl vw vg : Value) (es : List En) (op N : Int) (w : World) (htk : TK w base gt vl vw vg es) (hes : es.length ≤ 4194000) (hbase : base ≤ w.heap.size) (hop : op < 0 ∨ 4 < op) :
    Calls Try.prog 15 #[.pointer (some ⟨gt, 0, none⟩), .pointer none, .pointer none, .agg #[.int .i64 op, .int .i64 N]] w fun e' w' => e' = .returned (.bool true) ∧ (∃ vl' vw' vg' es', TK w' base gt vl' vw' vg' es' ∧ es'.length ≤ es.length + 1) ∧ Below base w w' := by
  obtain ⟨x, hx⟩ : ∃ x, w.heap.size = x := ⟨_, rfl⟩
  obtain ⟨w0, hw0⟩ : ∃ w0, w.alloc (.cells #[.int .i64 op, .int .i64 N] 45) = w0 := ⟨_, rfl⟩
  have hb0 : Below w.heap.size w w0 := by rw [← hw0]; exact (Below.refl _ _).alloc (Nat.le_refl _) _
  have HX0 : Hid (Ctn w base gt x vl vw vg es op N w0) := ⟨htk.below hb0, by rw [← hw0, ← hx]; exact heap_alloc_new _ _, hb0.mono hbase, hb0.size⟩
  have HBW := hide hbase
  have HES := hide hes
  have s0 := HX0.out.sx.c0
  have s1 := HX0.out.sx.c1
  have HPR := hide (any_nil (still rest_nil) (gt := gt) (x := x) (vl := vl) (vw := vw) (vg := vg) (es := es) (op := op) (N := N) hbase)
  have HRR := hide (any_nil (still rrest_nil) (gt := gt) (x := x) (vl := vl) (vw := vw) (vg := vg) (es := es) (op := op) (N := N) hbase)
  have HPE := hide (any_nil end_nil (gt := gt) (x := x) (vl := vl) (vw := vw) (vg := vg) (es := es) (op := op) (N := N) hbase)
  have HRE := hide (any_nil rend_nil (gt := gt) (x := x) (vl := vl) (vw := vw) (vg := vg) (es := es) (op := op) (N := N) hbase)
  have o0 : (op == 0) = false := by rw [beq_eq_false_iff_ne]; omega
  have o1 : (op == 1) = false := by rw [beq_eq_false_iff_ne]; omega
  have o2 : (op == 2) = false := by rw [beq_eq_false_iff_ne]; omega
  have o3 : (op == 3) = false := by rw [beq_eq_false_iff_ne]; omega
  have o4 : (op == 4) = false := by rw [beq_eq_false_iff_ne]; omega
  clear htk hes hbase hb0 hop
  go_enter Try.func15, Try.ntmps15
  go_wp2_with fail
  refine (HPR.out _ HX0.out).mono ?_
  rintro e w3 ⟨rfl, hx3⟩
  have HX3 := hide hx3
  clear hx3
  go_wp2_with fail
  refine (HRR.out _ HX3.out).mono ?_
  rintro e w4 ⟨rfl, hx4⟩
  have HX4 := hide hx4
  clear hx4 HX3
  go_wp2_with fail
  refine (HPE.out _ HX4.out).mono ?_
  rintro e w5 ⟨rfl, hx5⟩
  have HX5 := hide hx5
  clear hx5 HX4
  go_wp2_with fail
  refine (HRE.out _ HX5.out).mono ?_
  rintro e w6 ⟨rfl, hx6⟩
  have HX6 := hide hx6
  clear hx6 HX5
  go_wp2_with fail
  go_ret
  exact ⟨by first | rfl | simp, ⟨vl, vw, vg, es, HX6.out.tk, Nat.le_succ _⟩, HX6.out.lo⟩
set_option maxHeartbeats 2000000 in
set_option maxRecDepth 100000 in
theorem none2 (base gt : Nat) (vl vw vg : Value) (es : List En) (N : Int) (w : World) (htk : TK w base gt vl vw vg es) (hes : es.length ≤ 4194000) (hbase : base ≤ w.heap.size) :
    Calls Try.prog 15 #[.pointer (some ⟨gt, 0, none⟩), .pointer none, .pointer none, .agg #[.int .i64 2, .int .i64 N]] w fun e' w' => e' = .returned (.bool true) ∧ (∃ vl' vw' vg' es', TK w' base gt vl' vw' vg' es' ∧ es'.length ≤ es.length + 1) ∧ Below base w w' := by
  obtain ⟨x, hx⟩ : ∃ x, w.heap.size = x := ⟨_, rfl⟩
  obtain ⟨w0, hw0⟩ : ∃ w0, w.alloc (.cells #[.int .i64 2, .int .i64 N] 45) = w0 := ⟨_, rfl⟩
  have hb0 : Below w.heap.size w w0 := by rw [← hw0]; exact (Below.refl _ _).alloc (Nat.le_refl _) _
  have HX0 : Hid (Ctn w base gt x vl vw vg es 2 N w0) := ⟨htk.below hb0, by rw [← hw0, ← hx]; exact heap_alloc_new _ _, hb0.mono hbase, hb0.size⟩
  have HBW := hide hbase
  have HES := hide hes
  have s0 := HX0.out.sx.c0
  have s1 := HX0.out.sx.c1
  have HPR := hide (any_nil (still rest_nil) (gt := gt) (x := x) (vl := vl) (vw := vw) (vg := vg) (es := es) (op := 2) (N := N) hbase)
  have HRR := hide (any_nil (still rrest_nil) (gt := gt) (x := x) (vl := vl) (vw := vw) (vg := vg) (es := es) (op := 2) (N := N) hbase)
  have HPE := hide (any_nil end_nil (gt := gt) (x := x) (vl := vl) (vw := vw) (vg := vg) (es := es) (op := 2) (N := N) hbase)
  have HRE := hide (any_nil rend_nil (gt := gt) (x := x) (vl := vl) (vw := vw) (vg := vg) (es := es) (op := 2) (N := N) hbase)
  have HC := hide (any_nil (fun W => take_nil N W) (gt := gt) (x := x) (vl := vl) (vw := vw) (vg := vg) (es := es) (op := 2) (N := N) hbase)
  have HR := hide (any_nil (still (fun W => rtake_nil N W)) (gt := gt) (x := x) (vl := vl) (vw := vw) (vg := vg) (es := es) (op := 2) (N := N) hbase)
  clear htk hes hbase hb0 HPR HRR HPE HRE
  go_enter Try.func15, Try.ntmps15
  go_wp2_with fail
  refine (HC.out _ HX0.out).mono ?_
  rintro e w1 ⟨rfl, hx1⟩
  have HX1 := hide hx1
  have s2 := hx1.sx.c1
  clear hx1 HC HX0 s0 s1
  go_wp2_with fail
  refine (HR.out _ HX1.out).mono ?_
  rintro e w2 ⟨rfl, hx2⟩
  have HX2 := hide hx2
  clear hx2 HR HX1 s2
  go_wp2_with fail
  refine (same_any none none 0 0 0 0 [] [] w2 (rd_nil _) (rd_nil _)).mono ?_
  rintro e w3 ⟨rfl, hb3⟩
  have HX3 := hide (HX2.out.below hb3 HBW.out)
  clear hb3 HX2
  rw [decide_eq_true (rfl : ([] : List (BitVec 8)) = [])]
  have HKP := hide (keep_any base gt vl vw vg es none 0 0 [] w3 HX3.out.tk (own_none _ _) ⟨none, 0, rfl⟩ (by simp) HES.out (Nat.le_trans HBW.out HX3.out.sz) (fun n e he j i hj e1 => by cases e1))
  go_wp2_with fail
  refine HKP.out.mono ?_
  rintro e w4 ⟨rfl, ⟨vl1, vw1, vg1, es1, hlen, htk4⟩, hb4⟩
  have HLEN := hide hlen
  have HT4 := hide htk4
  have HB4 : Hid (Below base w w4) := HX3.out.lo.trans hb4
  have HS4 : Hid (base ≤ w4.heap.size) := Nat.le_trans (Nat.le_trans HBW.out HX3.out.sz) hb4.size
  clear htk4 hb4 hlen HKP HX3
  go_wp2_with fail
  refine ((still rest_nil) w4).mono ?_
  rintro e w5 ⟨rfl, hb5⟩
  have HT5 := hide (HT4.out.below hb5)
  have HB5 := hide (HB4.out.trans (hb5.mono HS4.out))
  have HS5 : Hid (base ≤ w5.heap.size) := Nat.le_trans HS4.out hb5.size
  clear hb5 HT4 HB4 HS4
  go_wp2_with fail
  refine ((still rrest_nil) w5).mono ?_
  rintro e w6 ⟨rfl, hb6⟩
  have HT6 := hide (HT5.out.below hb6)
  have HB6 := hide (HB5.out.trans (hb6.mono HS5.out))
  have HS6 : Hid (base ≤ w6.heap.size) := Nat.le_trans HS5.out hb6.size
  clear hb6 HT5 HB5 HS5
  go_wp2_with fail
  refine ((fun W => end_nil W) w6).mono ?_
  rintro e w7 ⟨rfl, hb7⟩
  have HT7 := hide (HT6.out.below hb7)
  have HB7 := hide (HB6.out.trans (hb7.mono HS6.out))
  have HS7 : Hid (base ≤ w7.heap.size) := Nat.le_trans HS6.out hb7.size
  clear hb7 HT6 HB6 HS6
  go_wp2_with fail
  refine ((fun W => rend_nil W) w7).mono ?_
  rintro e w8 ⟨rfl, hb8⟩
  have HT8 := hide (HT7.out.below hb8)
  have HB8 := hide (HB7.out.trans (hb8.mono HS7.out))
  have HS8 : Hid (base ≤ w8.heap.size) := Nat.le_trans HS7.out hb8.size
  clear hb8 HT7 HB7 HS7
  go_wp2_with fail
  go_ret
  exact ⟨by first | rfl | simp, ⟨vl1, vw1, vg1, es1, HT8.out, by rw [HLEN.out]; exact Nat.le_refl _⟩, HB8.out⟩
/-- One step on both cursors. -/
theorem told_any (base gt gc gr D : Nat) (vl vw vg : Value) (es : List En) (s : St) (op N : Int) (w : World) (htk : TK w base gt vl vw vg es) (hcz : Cz w gc D s) (hrz : Rz w gr D s) (hl : s.1.length ≤ 1048576) (hes : es.length ≤ 4194000) (hbase : base ≤ w.heap.size) (hgc : gc < base) (hgr : gr < base) (hne : gc ≠ gr) (hD : D ≤ base) :
    Calls Try.prog 15 #[.pointer (some ⟨gt, 0, none⟩), .pointer (some ⟨gc, 0, none⟩), .pointer (some ⟨gr, 0, none⟩), .agg #[.int .i64 op, .int .i64 N]] w fun e' w' => e' = .returned (.bool true) ∧ After w base gt gc gr D es w' := by
  by_cases h : op < 0 ∨ 4 < op
  · exact told9 base gt gc gr D vl vw vg es s op N w htk hcz hrz hl hes hbase hgc hgr hne hD h
  obtain ⟨o, rfl⟩ : ∃ o : Nat, op = (o : Int) := ⟨op.toNat, by omega⟩
  have ho : o ≤ 4 := by omega
  match o, ho with
  | 0, _ => exact told0 base gt gc gr D vl vw vg es s N w htk hcz hrz hl hes hbase hgc hgr hne hD
  | 1, _ => exact told1 base gt gc gr D vl vw vg es s N w htk hcz hrz hl hes hbase hgc hgr hne hD
  | 2, _ => exact told2 base gt gc gr D vl vw vg es s N w htk hcz hrz hl hes hbase hgc hgr hne hD
  | 3, _ => exact told3 base gt gc gr D vl vw vg es s N w htk hcz hrz hl hes hbase hgc hgr hne hD
  | 4, _ => exact told4 base gt gc gr D vl vw vg es s N w htk hcz hrz hl hes hbase hgc hgr hne hD
/-- One step on nil cursors. -/
theorem none_any (base gt : Nat) (vl vw vg : Value) (es : List En) (op N : Int) (w : World) (htk : TK w base gt vl vw vg es) (hes : es.length ≤ 4194000) (hbase : base ≤ w.heap.size) :
    Calls Try.prog 15 #[.pointer (some ⟨gt, 0, none⟩), .pointer none, .pointer none, .agg #[.int .i64 op, .int .i64 N]] w fun e' w' => e' = .returned (.bool true) ∧ (∃ vl' vw' vg' es', TK w' base gt vl' vw' vg' es' ∧ es'.length ≤ es.length + 1) ∧ Below base w w' := by
  by_cases h : op < 0 ∨ 4 < op
  · exact none9 base gt vl vw vg es op N w htk hes hbase h
  obtain ⟨o, rfl⟩ : ∃ o : Nat, op = (o : Int) := ⟨op.toNat, by omega⟩
  have ho : o ≤ 4 := by omega
  match o, ho with
  | 0, _ => exact none0 base gt vl vw vg es N w htk hes hbase
  | 1, _ => exact none1 base gt vl vw vg es N w htk hes hbase
  | 2, _ => exact none2 base gt vl vw vg es N w htk hes hbase
  | 3, _ => exact none3 base gt vl vw vg es N w htk hes hbase
  | 4, _ => exact none4 base gt vl vw vg es N w htk hes hbase
end Go.Proofs.Ytcchknpgkcmneaa.Curs
