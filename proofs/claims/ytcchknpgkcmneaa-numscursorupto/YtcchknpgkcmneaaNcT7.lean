/-
  One step on both cursors: they do not part.
-/
import Derived.Test.YtcchknpgkcmneaaNcT6
namespace Go.Proofs.Ytcchknpgkcmneaa.Curs
open Go.ChangeShapes Go.WideShapes Go.ChangeAt Go.RowKit
open Go.Proofs.Ytcchknpgkcmneaa.Base Go.Proofs.Ytcchknpgkcmneaa.Nums
set_option linter.unusedVariables false
/-- Both cursors behind a step: the same, and what is left is no more than before. -/
def After (w : World) (base gt gc gr D : Nat) (es : List En) (W : World) : Prop := ∃ vl vw vg es' s, TK W base gt vl vw vg es' ∧ Cz W gc D s ∧ Rz W gr D s ∧ es'.length ≤ es.length + 1 ∧ s.1.length ≤ 1048576 ∧ KB base w W gc gr
set_option maxHeartbeats 2000000 in
set_option maxRecDepth 100000 in
theorem told0 (base gt gc gr D : Nat) (vl vw vg : Value) (es : List En) (s : St) (N : Int) (w : World) (htk : TK w base gt vl vw vg es) (hcz : Cz w gc D s) (hrz : Rz w gr D s) (hl : s.1.length ≤ 1048576) (hes : es.length ≤ 4194000) (hbase : base ≤ w.heap.size) (hgc : gc < base) (hgr : gr < base) (hne : gc ≠ gr) (hD : D ≤ base) :
    Calls Try.prog 15 #[.pointer (some ⟨gt, 0, none⟩), .pointer (some ⟨gc, 0, none⟩), .pointer (some ⟨gr, 0, none⟩), .agg #[.int .i64 0, .int .i64 N]] w fun e' w' => e' = .returned (.bool true) ∧ After w base gt gc gr D es w' := by
  obtain ⟨x, hx⟩ : ∃ x, w.heap.size = x := ⟨_, rfl⟩
  obtain ⟨w0, hw0⟩ : ∃ w0, w.alloc (.cells #[.int .i64 0, .int .i64 N] 45) = w0 := ⟨_, rfl⟩
  have hb0 : Below w.heap.size w w0 := by rw [← hw0]; exact (Below.refl _ _).alloc (Nat.le_refl _) _
  have HX0 : Hid (Ctx w base gt gc gr D x vl vw vg es 0 N w0 s s) := ⟨htk.below hb0, hcz.below hb0, hrz.below hb0, by rw [← hw0, ← hx]; exact heap_alloc_new _ _, (KB.refl _ _ _ _).below hb0 hbase⟩
  have HXW : Hid (w.heap.size ≤ x) := by show _ ≤ _; omega
  have HBW := hide hbase
  have HGC := hide hgc
  have HGR := hide hgr
  have HNE := hide hne
  have HDB := hide hD
  have HES := hide hes
  have HTOP := hide htk.tops.2.2.2
  have s0 := HX0.out.sx.c0
  have s1 := HX0.out.sx.c1
  have HS1 := hide hl
  obtain ⟨V, hV⟩ : ∃ V : Nat, (if s.2.2 ≠ 0 then 0 else (atMost s.1 N).1 : Nat) = V := ⟨_, rfl⟩
  obtain ⟨S2, hS2⟩ : ∃ S2, stepS s.1 s.2.1 s.2.2 (atMost s.1 N).2 = S2 := ⟨_, rfl⟩
  have HS2 : Hid (S2.1.length ≤ 1048576) := by show _ ≤ _; rw [← hS2]; exact stepS_len s _ _ hl
  have HC : Hid (∀ W, Ctx w base gt gc gr D x vl vw vg es 0 N W s s → Calls Try.prog 46 #[.pointer (some ⟨gc, 0, none⟩), .int .i64 N] W fun e w' => e = .returned (.int .i64 (V : Int)) ∧ Ctx w base gt gc gr D x vl vw vg es 0 N w' S2 s) := fun W h =>
    (cz_num gc D s N W h.cz).mono fun e w' ⟨q1, q2, q3⟩ => ⟨by rw [q1, hV], h.prog q2 (by rw [← hS2]; exact q3) hgc hne hbase HXW.out⟩
  have HR : Hid (∀ W, Ctx w base gt gc gr D x vl vw vg es 0 N W S2 s → Calls Try.prog 47 #[.pointer (some ⟨gr, 0, none⟩), .int .i64 N] W fun e w' => e = .returned (.int .i64 (V : Int)) ∧ Ctx w base gt gc gr D x vl vw vg es 0 N w' S2 S2) := fun W h =>
    (rz_num gr D s N W h.rz).mono fun e w' ⟨q1, q2, q3⟩ => ⟨by rw [q1, hV], h.ref q2 (by rw [← hS2]; exact q3) hgr hne hbase HXW.out⟩
  clear htk hcz hrz hl hes hbase hgc hgr hne hD hV hS2 hb0
  go_enter Try.func15, Try.ntmps15
  go_wp2_with fail
  go_region_held (fun V => V.cell? ⟨x, 1, none⟩ = some (.int .i64 N)) (first | go_keep | exact E8.out | exact E9.out) (first
    | (go_at_call 46; refine (HC.out _ (HX0.out.drew HBW.out)).mono ?_; rintro e w1 ⟨rfl, hx1⟩; have HX1 := hide hx1; have E8 := hide hx1.sx.c1; clear hx1)
    | (go_at_call 47; refine (HR.out _ HX1.out).mono ?_; rintro e w2 ⟨rfl, hx2⟩; have HX2 := hide hx2; have E9 := hide hx2.sx.c1; clear hx2))
  clear HC HR HX0 HX1 E8 E9 s0 s1
  obtain ⟨rl, hrl⟩ : ∃ rl, S2.1.length = rl := ⟨_, rfl⟩
  obtain ⟨ea, eb, hee⟩ := endS_two S2
  have HPR : Hid (∀ W, Ctx w base gt gc gr D x vl vw vg es 0 N W S2 S2 → Calls Try.prog 11 #[.pointer (some ⟨gc, 0, none⟩)] W fun e w' => e = .returned (.int .i64 (rl : Int)) ∧ Ctx w base gt gc gr D x vl vw vg es 0 N w' S2 S2) := fun W h =>
    (cz_rest gc D S2 W h.cz).mono fun e w' ⟨q1, q2⟩ => ⟨by rw [q1, hrl], h.below q2 HBW.out⟩
  have HRR : Hid (∀ W, Ctx w base gt gc gr D x vl vw vg es 0 N W S2 S2 → Calls Try.prog 12 #[.pointer (some ⟨gr, 0, none⟩)] W fun e w' => e = .returned (.int .i64 (rl : Int)) ∧ Ctx w base gt gc gr D x vl vw vg es 0 N w' S2 S2) := fun W h =>
    (rz_rest gr D S2 W h.rz).mono fun e w' ⟨q1, q2⟩ => ⟨by rw [q1, hrl], h.below q2 HBW.out⟩
  have HPE : Hid (∀ W, Ctx w base gt gc gr D x vl vw vg es 0 N W S2 S2 → Calls Try.prog 13 #[.pointer (some ⟨gc, 0, none⟩)] W fun e w' => e = .returned (.agg #[.int .i64 ea, .int .i64 eb]) ∧ Ctx w base gt gc gr D x vl vw vg es 0 N w' S2 S2) := fun W h =>
    (cz_end gc D S2 W h.cz).mono fun e w' ⟨q1, q2⟩ => ⟨by rw [q1, hee], h.below q2 HBW.out⟩
  have HRE : Hid (∀ W, Ctx w base gt gc gr D x vl vw vg es 0 N W S2 S2 → Calls Try.prog 14 #[.pointer (some ⟨gr, 0, none⟩)] W fun e w' => e = .returned (.agg #[.int .i64 ea, .int .i64 eb]) ∧ Ctx w base gt gc gr D x vl vw vg es 0 N w' S2 S2) := fun W h =>
    (rz_end gr D S2 W h.rz).mono fun e w' ⟨q1, q2⟩ => ⟨by rw [q1, hee], h.below q2 HBW.out⟩
  have hrr : ((rl : Int) == (rl : Int)) = true := by simp
  have hea : (ea == ea) = true := by simp
  have heb : (eb == eb) = true := by simp
  clear hrl hee
  go_wp2_with fail
  refine (HPR.out _ HX2.out).mono ?_
  rintro e w3 ⟨rfl, hx3⟩
  have HX3 := hide hx3
  clear hx3 HX2
  go_wp2_with fail
  refine (HRR.out _ HX3.out).mono ?_
  rintro e w4 ⟨rfl, hx4⟩
  have HX4 := hide hx4
  clear hx4 HX3
  go_wp2_with fail
  refine (HPE.out _ HX4.out).mono ?_
  rintro e w5 ⟨rfl, hx5⟩
  have HX5 := hide hx5
  clear hx5 HX4
  go_wp2_with fail
  refine (HRE.out _ HX5.out).mono ?_
  rintro e w6 ⟨rfl, hx6⟩
  have HX6 := hide hx6
  clear hx6 HX5
  go_wp2_with fail
  go_ret
  exact ⟨by first | rfl | simp, vl, vw, vg, es, S2, HX6.out.tk, HX6.out.cz, HX6.out.rz, Nat.le_succ _, HS2.out, HX6.out.kb⟩
set_option maxHeartbeats 2000000 in
set_option maxRecDepth 100000 in
theorem told1 (base gt gc gr D : Nat) (vl vw vg : Value) (es : List En) (s : St) (N : Int) (w : World) (htk : TK w base gt vl vw vg es) (hcz : Cz w gc D s) (hrz : Rz w gr D s) (hl : s.1.length ≤ 1048576) (hes : es.length ≤ 4194000) (hbase : base ≤ w.heap.size) (hgc : gc < base) (hgr : gr < base) (hne : gc ≠ gr) (hD : D ≤ base) :
    Calls Try.prog 15 #[.pointer (some ⟨gt, 0, none⟩), .pointer (some ⟨gc, 0, none⟩), .pointer (some ⟨gr, 0, none⟩), .agg #[.int .i64 1, .int .i64 N]] w fun e' w' => e' = .returned (.bool true) ∧ After w base gt gc gr D es w' := by
  obtain ⟨x, hx⟩ : ∃ x, w.heap.size = x := ⟨_, rfl⟩
  obtain ⟨w0, hw0⟩ : ∃ w0, w.alloc (.cells #[.int .i64 1, .int .i64 N] 45) = w0 := ⟨_, rfl⟩
  have hb0 : Below w.heap.size w w0 := by rw [← hw0]; exact (Below.refl _ _).alloc (Nat.le_refl _) _
  have HX0 : Hid (Ctx w base gt gc gr D x vl vw vg es 1 N w0 s s) := ⟨htk.below hb0, hcz.below hb0, hrz.below hb0, by rw [← hw0, ← hx]; exact heap_alloc_new _ _, (KB.refl _ _ _ _).below hb0 hbase⟩
  have HXW : Hid (w.heap.size ≤ x) := by show _ ≤ _; omega
  have HBW := hide hbase
  have HGC := hide hgc
  have HGR := hide hgr
  have HNE := hide hne
  have HDB := hide hD
  have HES := hide hes
  have HTOP := hide htk.tops.2.2.2
  have s0 := HX0.out.sx.c0
  have s1 := HX0.out.sx.c1
  have HS1 := hide hl
  obtain ⟨V, hV⟩ : ∃ V : Nat, (if s.2.2 ≠ 0 then 0 else (fixAt s.1 N).1 : Nat) = V := ⟨_, rfl⟩
  obtain ⟨S2, hS2⟩ : ∃ S2, stepS s.1 s.2.1 s.2.2 (fixAt s.1 N).2 = S2 := ⟨_, rfl⟩
  have HS2 : Hid (S2.1.length ≤ 1048576) := by show _ ≤ _; rw [← hS2]; exact stepS_len s _ _ hl
  have HC : Hid (∀ W, Ctx w base gt gc gr D x vl vw vg es 1 N W s s → Calls Try.prog 48 #[.pointer (some ⟨gc, 0, none⟩), .int .i64 N] W fun e w' => e = .returned (.int .u64 (V : Int)) ∧ Ctx w base gt gc gr D x vl vw vg es 1 N w' S2 s) := fun W h =>
    (cz_fixed gc D s N W h.cz).mono fun e w' ⟨q1, q2, q3⟩ => ⟨by rw [q1, hV], h.prog q2 (by rw [← hS2]; exact q3) hgc hne hbase HXW.out⟩
  have HR : Hid (∀ W, Ctx w base gt gc gr D x vl vw vg es 1 N W S2 s → Calls Try.prog 49 #[.pointer (some ⟨gr, 0, none⟩), .int .i64 N] W fun e w' => e = .returned (.int .u64 (V : Int)) ∧ Ctx w base gt gc gr D x vl vw vg es 1 N w' S2 S2) := fun W h =>
    (rz_fixed gr D s N W h.rz).mono fun e w' ⟨q1, q2, q3⟩ => ⟨by rw [q1, hV], h.ref q2 (by rw [← hS2]; exact q3) hgr hne hbase HXW.out⟩
  clear htk hcz hrz hl hes hbase hgc hgr hne hD hV hS2 hb0
  go_enter Try.func15, Try.ntmps15
  go_wp2_with fail
  go_region_held (fun V => V.cell? ⟨x, 1, none⟩ = some (.int .i64 N)) (first | go_keep | exact E8.out | exact E9.out) (first
    | (go_at_call 48; refine (HC.out _ (HX0.out.drew HBW.out)).mono ?_; rintro e w1 ⟨rfl, hx1⟩; have HX1 := hide hx1; have E8 := hide hx1.sx.c1; clear hx1)
    | (go_at_call 49; refine (HR.out _ HX1.out).mono ?_; rintro e w2 ⟨rfl, hx2⟩; have HX2 := hide hx2; have E9 := hide hx2.sx.c1; clear hx2))
  clear HC HR HX0 HX1 E8 E9 s0 s1
  obtain ⟨rl, hrl⟩ : ∃ rl, S2.1.length = rl := ⟨_, rfl⟩
  obtain ⟨ea, eb, hee⟩ := endS_two S2
  have HPR : Hid (∀ W, Ctx w base gt gc gr D x vl vw vg es 1 N W S2 S2 → Calls Try.prog 11 #[.pointer (some ⟨gc, 0, none⟩)] W fun e w' => e = .returned (.int .i64 (rl : Int)) ∧ Ctx w base gt gc gr D x vl vw vg es 1 N w' S2 S2) := fun W h =>
    (cz_rest gc D S2 W h.cz).mono fun e w' ⟨q1, q2⟩ => ⟨by rw [q1, hrl], h.below q2 HBW.out⟩
  have HRR : Hid (∀ W, Ctx w base gt gc gr D x vl vw vg es 1 N W S2 S2 → Calls Try.prog 12 #[.pointer (some ⟨gr, 0, none⟩)] W fun e w' => e = .returned (.int .i64 (rl : Int)) ∧ Ctx w base gt gc gr D x vl vw vg es 1 N w' S2 S2) := fun W h =>
    (rz_rest gr D S2 W h.rz).mono fun e w' ⟨q1, q2⟩ => ⟨by rw [q1, hrl], h.below q2 HBW.out⟩
  have HPE : Hid (∀ W, Ctx w base gt gc gr D x vl vw vg es 1 N W S2 S2 → Calls Try.prog 13 #[.pointer (some ⟨gc, 0, none⟩)] W fun e w' => e = .returned (.agg #[.int .i64 ea, .int .i64 eb]) ∧ Ctx w base gt gc gr D x vl vw vg es 1 N w' S2 S2) := fun W h =>
    (cz_end gc D S2 W h.cz).mono fun e w' ⟨q1, q2⟩ => ⟨by rw [q1, hee], h.below q2 HBW.out⟩
  have HRE : Hid (∀ W, Ctx w base gt gc gr D x vl vw vg es 1 N W S2 S2 → Calls Try.prog 14 #[.pointer (some ⟨gr, 0, none⟩)] W fun e w' => e = .returned (.agg #[.int .i64 ea, .int .i64 eb]) ∧ Ctx w base gt gc gr D x vl vw vg es 1 N w' S2 S2) := fun W h =>
    (rz_end gr D S2 W h.rz).mono fun e w' ⟨q1, q2⟩ => ⟨by rw [q1, hee], h.below q2 HBW.out⟩
  have hrr : ((rl : Int) == (rl : Int)) = true := by simp
  have hea : (ea == ea) = true := by simp
  have heb : (eb == eb) = true := by simp
  clear hrl hee
  go_wp2_with fail
  refine (HPR.out _ HX2.out).mono ?_
  rintro e w3 ⟨rfl, hx3⟩
  have HX3 := hide hx3
  clear hx3 HX2
  go_wp2_with fail
  refine (HRR.out _ HX3.out).mono ?_
  rintro e w4 ⟨rfl, hx4⟩
  have HX4 := hide hx4
  clear hx4 HX3
  go_wp2_with fail
  refine (HPE.out _ HX4.out).mono ?_
  rintro e w5 ⟨rfl, hx5⟩
  have HX5 := hide hx5
  clear hx5 HX4
  go_wp2_with fail
  refine (HRE.out _ HX5.out).mono ?_
  rintro e w6 ⟨rfl, hx6⟩
  have HX6 := hide hx6
  clear hx6 HX5
  go_wp2_with fail
  go_ret
  exact ⟨by first | rfl | simp, vl, vw, vg, es, S2, HX6.out.tk, HX6.out.cz, HX6.out.rz, Nat.le_succ _, HS2.out, HX6.out.kb⟩
set_option maxHeartbeats 2000000 in
set_option maxRecDepth 100000 in
theorem told3 (base gt gc gr D : Nat) (vl vw vg : Value) (es : List En) (s : St) (N : Int) (w : World) (htk : TK w base gt vl vw vg es) (hcz : Cz w gc D s) (hrz : Rz w gr D s) (hl : s.1.length ≤ 1048576) (hes : es.length ≤ 4194000) (hbase : base ≤ w.heap.size) (hgc : gc < base) (hgr : gr < base) (hne : gc ≠ gr) (hD : D ≤ base) :
    Calls Try.prog 15 #[.pointer (some ⟨gt, 0, none⟩), .pointer (some ⟨gc, 0, none⟩), .pointer (some ⟨gr, 0, none⟩), .agg #[.int .i64 3, .int .i64 N]] w fun e' w' => e' = .returned (.bool true) ∧ After w base gt gc gr D es w' := by
  obtain ⟨x, hx⟩ : ∃ x, w.heap.size = x := ⟨_, rfl⟩
  obtain ⟨w0, hw0⟩ : ∃ w0, w.alloc (.cells #[.int .i64 3, .int .i64 N] 45) = w0 := ⟨_, rfl⟩
  have hb0 : Below w.heap.size w w0 := by rw [← hw0]; exact (Below.refl _ _).alloc (Nat.le_refl _) _
  have HX0 : Hid (Ctx w base gt gc gr D x vl vw vg es 3 N w0 s s) := ⟨htk.below hb0, hcz.below hb0, hrz.below hb0, by rw [← hw0, ← hx]; exact heap_alloc_new _ _, (KB.refl _ _ _ _).below hb0 hbase⟩
  have HXW : Hid (w.heap.size ≤ x) := by show _ ≤ _; omega
  have HBW := hide hbase
  have HGC := hide hgc
  have HGR := hide hgr
  have HNE := hide hne
  have HDB := hide hD
  have HES := hide hes
  have HTOP := hide htk.tops.2.2.2
  have s0 := HX0.out.sx.c0
  have s1 := HX0.out.sx.c1
  have HS1 := hide hl
  obtain ⟨V, hV⟩ : ∃ V, txt s N = V := ⟨_, rfl⟩
  obtain ⟨S2, hS2⟩ : ∃ S2, stepS s.1 s.2.1 s.2.2 ((textAt s.1 N).1, (textAt s.1 N).2.1) = S2 := ⟨_, rfl⟩
  have HS2 : Hid (S2.1.length ≤ 1048576) := by show _ ≤ _; rw [← hS2]; exact stepS_len s _ _ hl
  have HC : Hid (∀ W, Ctx w base gt gc gr D x vl vw vg es 3 N W s s → Calls Try.prog 54 #[.pointer (some ⟨gc, 0, none⟩), .int .i64 N] W fun e w' => e = .returned (.string V) ∧ Ctx w base gt gc gr D x vl vw vg es 3 N w' S2 s) := fun W h =>
    (cz_text gc D s N W h.cz).mono fun e w' ⟨q1, q2, q3⟩ => ⟨by rw [q1, hV], h.prog q2 (by rw [← hS2]; exact q3) hgc hne hbase HXW.out⟩
  have HR : Hid (∀ W, Ctx w base gt gc gr D x vl vw vg es 3 N W S2 s → Calls Try.prog 55 #[.pointer (some ⟨gr, 0, none⟩), .int .i64 N] W fun e w' => e = .returned (.string V) ∧ Ctx w base gt gc gr D x vl vw vg es 3 N w' S2 S2) := fun W h =>
    (rz_text gr D s N W h.rz).mono fun e w' ⟨q1, q2, q3⟩ => ⟨by rw [q1, hV], h.ref q2 (by rw [← hS2]; exact q3) hgr hne hbase HXW.out⟩
  clear htk hcz hrz hl hes hbase hgc hgr hne hD hV hS2 hb0
  go_enter Try.func15, Try.ntmps15
  go_wp2_with fail
  go_region_held (fun V => V.cell? ⟨x, 1, none⟩ = some (.int .i64 N)) (first | go_keep | exact E8.out | exact E9.out) (first
    | (go_at_call 54; refine (HC.out _ (HX0.out.drew HBW.out)).mono ?_; rintro e w1 ⟨rfl, hx1⟩; have HX1 := hide hx1; have E8 := hide hx1.sx.c1; clear hx1)
    | (go_at_call 55; refine (HR.out _ HX1.out).mono ?_; rintro e w2 ⟨rfl, hx2⟩; have HX2 := hide hx2; have E9 := hide hx2.sx.c1; clear hx2))
  clear HC HR HX0 HX1 E8 E9 s0 s1
  obtain ⟨rl, hrl⟩ : ∃ rl, S2.1.length = rl := ⟨_, rfl⟩
  obtain ⟨ea, eb, hee⟩ := endS_two S2
  have HPR : Hid (∀ W, Ctx w base gt gc gr D x vl vw vg es 3 N W S2 S2 → Calls Try.prog 11 #[.pointer (some ⟨gc, 0, none⟩)] W fun e w' => e = .returned (.int .i64 (rl : Int)) ∧ Ctx w base gt gc gr D x vl vw vg es 3 N w' S2 S2) := fun W h =>
    (cz_rest gc D S2 W h.cz).mono fun e w' ⟨q1, q2⟩ => ⟨by rw [q1, hrl], h.below q2 HBW.out⟩
  have HRR : Hid (∀ W, Ctx w base gt gc gr D x vl vw vg es 3 N W S2 S2 → Calls Try.prog 12 #[.pointer (some ⟨gr, 0, none⟩)] W fun e w' => e = .returned (.int .i64 (rl : Int)) ∧ Ctx w base gt gc gr D x vl vw vg es 3 N w' S2 S2) := fun W h =>
    (rz_rest gr D S2 W h.rz).mono fun e w' ⟨q1, q2⟩ => ⟨by rw [q1, hrl], h.below q2 HBW.out⟩
  have HPE : Hid (∀ W, Ctx w base gt gc gr D x vl vw vg es 3 N W S2 S2 → Calls Try.prog 13 #[.pointer (some ⟨gc, 0, none⟩)] W fun e w' => e = .returned (.agg #[.int .i64 ea, .int .i64 eb]) ∧ Ctx w base gt gc gr D x vl vw vg es 3 N w' S2 S2) := fun W h =>
    (cz_end gc D S2 W h.cz).mono fun e w' ⟨q1, q2⟩ => ⟨by rw [q1, hee], h.below q2 HBW.out⟩
  have HRE : Hid (∀ W, Ctx w base gt gc gr D x vl vw vg es 3 N W S2 S2 → Calls Try.prog 14 #[.pointer (some ⟨gr, 0, none⟩)] W fun e w' => e = .returned (.agg #[.int .i64 ea, .int .i64 eb]) ∧ Ctx w base gt gc gr D x vl vw vg es 3 N w' S2 S2) := fun W h =>
    (rz_end gr D S2 W h.rz).mono fun e w' ⟨q1, q2⟩ => ⟨by rw [q1, hee], h.below q2 HBW.out⟩
  have hrr : ((rl : Int) == (rl : Int)) = true := by simp
  have hea : (ea == ea) = true := by simp
  have heb : (eb == eb) = true := by simp
  clear hrl hee
  go_wp2_with fail
  refine (HPR.out _ HX2.out).mono ?_
  rintro e w3 ⟨rfl, hx3⟩
  have HX3 := hide hx3
  clear hx3 HX2
  go_wp2_with fail
  refine (HRR.out _ HX3.out).mono ?_
  rintro e w4 ⟨rfl, hx4⟩
  have HX4 := hide hx4
  clear hx4 HX3
  go_wp2_with fail
  refine (HPE.out _ HX4.out).mono ?_
  rintro e w5 ⟨rfl, hx5⟩
  have HX5 := hide hx5
  clear hx5 HX4
  go_wp2_with fail
  refine (HRE.out _ HX5.out).mono ?_
  rintro e w6 ⟨rfl, hx6⟩
  have HX6 := hide hx6
  clear hx6 HX5
  go_wp2_with fail
  go_ret
  exact ⟨by first | rfl | simp, vl, vw, vg, es, S2, HX6.out.tk, HX6.out.cz, HX6.out.rz, Nat.le_succ _, HS2.out, HX6.out.kb⟩
set_option maxHeartbeats 2000000 in
set_option maxRecDepth 100000 in
theorem told4 (base gt gc gr D : Nat) (vl vw vg : Value) (es : List En) (s : St) (N : Int) (w : World) (htk : TK w base gt vl vw vg es) (hcz : Cz w gc D s) (hrz : Rz w gr D s) (hl : s.1.length ≤ 1048576) (hes : es.length ≤ 4194000) (hbase : base ≤ w.heap.size) (hgc : gc < base) (hgr : gr < base) (hne : gc ≠ gr) (hD : D ≤ base) :
    Calls Try.prog 15 #[.pointer (some ⟨gt, 0, none⟩), .pointer (some ⟨gc, 0, none⟩), .pointer (some ⟨gr, 0, none⟩), .agg #[.int .i64 4, .int .i64 N]] w fun e' w' => e' = .returned (.bool true) ∧ After w base gt gc gr D es w' := by
  obtain ⟨x, hx⟩ : ∃ x, w.heap.size = x := ⟨_, rfl⟩
  obtain ⟨w0, hw0⟩ : ∃ w0, w.alloc (.cells #[.int .i64 4, .int .i64 N] 45) = w0 := ⟨_, rfl⟩
  have hb0 : Below w.heap.size w w0 := by rw [← hw0]; exact (Below.refl _ _).alloc (Nat.le_refl _) _
  have HX0 : Hid (Ctx w base gt gc gr D x vl vw vg es 4 N w0 s s) := ⟨htk.below hb0, hcz.below hb0, hrz.below hb0, by rw [← hw0, ← hx]; exact heap_alloc_new _ _, (KB.refl _ _ _ _).below hb0 hbase⟩
  have HXW : Hid (w.heap.size ≤ x) := by show _ ≤ _; omega
  have HBW := hide hbase
  have HGC := hide hgc
  have HGR := hide hgr
  have HNE := hide hne
  have HDB := hide hD
  have HES := hide hes
  have HTOP := hide htk.tops.2.2.2
  have s0 := HX0.out.sx.c0
  have s1 := HX0.out.sx.c1
  have HS1 := hide hl
  obtain ⟨S2, hS2⟩ : ∃ S2, failS s N = S2 := ⟨_, rfl⟩
  have HS2 : Hid (S2.1.length ≤ 1048576) := by show _ ≤ _; rw [← hS2]; exact failS_len s _ _ hl
  have HC : Hid (∀ W, Ctx w base gt gc gr D x vl vw vg es 4 N W s s → Calls Try.prog 56 #[.pointer (some ⟨gc, 0, none⟩), .int .i64 N] W fun e w' => e = .returned (.tuple #[]) ∧ Ctx w base gt gc gr D x vl vw vg es 4 N w' S2 s) := fun W h =>
    (cz_fail gc D s N W h.cz).mono fun e w' ⟨q1, q2, q3⟩ => ⟨q1, h.prog q2 (by rw [← hS2]; exact q3) hgc hne hbase HXW.out⟩
  have HR : Hid (∀ W, Ctx w base gt gc gr D x vl vw vg es 4 N W S2 s → Calls Try.prog 57 #[.pointer (some ⟨gr, 0, none⟩), .int .i64 N] W fun e w' => e = .returned (.tuple #[]) ∧ Ctx w base gt gc gr D x vl vw vg es 4 N w' S2 S2) := fun W h =>
    (rz_fail gr D s N W h.rz).mono fun e w' ⟨q1, q2, q3⟩ => ⟨q1, h.ref q2 (by rw [← hS2]; exact q3) hgr hne hbase HXW.out⟩
  clear htk hcz hrz hl hes hbase hgc hgr hne hD hS2 hb0
  go_enter Try.func15, Try.ntmps15
  go_wp2_with fail
  refine (HC.out _ HX0.out).mono ?_
  rintro e w1 ⟨rfl, hx1⟩
  have HX1 := hide hx1
  have s2 := hx1.sx.c1
  clear hx1 HC HX0 s0 s1
  go_wp2_with fail
  refine (HR.out _ HX1.out).mono ?_
  rintro e w2 ⟨rfl, hx2⟩
  have HX2 := hide hx2
  clear hx2 HR HX1 s2
  obtain ⟨rl, hrl⟩ : ∃ rl, S2.1.length = rl := ⟨_, rfl⟩
  obtain ⟨ea, eb, hee⟩ := endS_two S2
  have HPR : Hid (∀ W, Ctx w base gt gc gr D x vl vw vg es 4 N W S2 S2 → Calls Try.prog 11 #[.pointer (some ⟨gc, 0, none⟩)] W fun e w' => e = .returned (.int .i64 (rl : Int)) ∧ Ctx w base gt gc gr D x vl vw vg es 4 N w' S2 S2) := fun W h =>
    (cz_rest gc D S2 W h.cz).mono fun e w' ⟨q1, q2⟩ => ⟨by rw [q1, hrl], h.below q2 HBW.out⟩
  have HRR : Hid (∀ W, Ctx w base gt gc gr D x vl vw vg es 4 N W S2 S2 → Calls Try.prog 12 #[.pointer (some ⟨gr, 0, none⟩)] W fun e w' => e = .returned (.int .i64 (rl : Int)) ∧ Ctx w base gt gc gr D x vl vw vg es 4 N w' S2 S2) := fun W h =>
    (rz_rest gr D S2 W h.rz).mono fun e w' ⟨q1, q2⟩ => ⟨by rw [q1, hrl], h.below q2 HBW.out⟩
  have HPE : Hid (∀ W, Ctx w base gt gc gr D x vl vw vg es 4 N W S2 S2 → Calls Try.prog 13 #[.pointer (some ⟨gc, 0, none⟩)] W fun e w' => e = .returned (.agg #[.int .i64 ea, .int .i64 eb]) ∧ Ctx w base gt gc gr D x vl vw vg es 4 N w' S2 S2) := fun W h =>
    (cz_end gc D S2 W h.cz).mono fun e w' ⟨q1, q2⟩ => ⟨by rw [q1, hee], h.below q2 HBW.out⟩
  have HRE : Hid (∀ W, Ctx w base gt gc gr D x vl vw vg es 4 N W S2 S2 → Calls Try.prog 14 #[.pointer (some ⟨gr, 0, none⟩)] W fun e w' => e = .returned (.agg #[.int .i64 ea, .int .i64 eb]) ∧ Ctx w base gt gc gr D x vl vw vg es 4 N w' S2 S2) := fun W h =>
    (rz_end gr D S2 W h.rz).mono fun e w' ⟨q1, q2⟩ => ⟨by rw [q1, hee], h.below q2 HBW.out⟩
  have hrr : ((rl : Int) == (rl : Int)) = true := by simp
  have hea : (ea == ea) = true := by simp
  have heb : (eb == eb) = true := by simp
  clear hrl hee
  go_wp2_with fail
  refine (HPR.out _ HX2.out).mono ?_
  rintro e w3 ⟨rfl, hx3⟩
  have HX3 := hide hx3
  clear hx3 HX2
  go_wp2_with fail
  refine (HRR.out _ HX3.out).mono ?_
  rintro e w4 ⟨rfl, hx4⟩
  have HX4 := hide hx4
  clear hx4 HX3
  go_wp2_with fail
  refine (HPE.out _ HX4.out).mono ?_
  rintro e w5 ⟨rfl, hx5⟩
  have HX5 := hide hx5
  clear hx5 HX4
  go_wp2_with fail
  refine (HRE.out _ HX5.out).mono ?_
  rintro e w6 ⟨rfl, hx6⟩
  have HX6 := hide hx6
  clear hx6 HX5
  go_wp2_with fail
  go_ret
  exact ⟨by first | rfl | simp, vl, vw, vg, es, S2, HX6.out.tk, HX6.out.cz, HX6.out.rz, Nat.le_succ _, HS2.out, HX6.out.kb⟩
set_option maxHeartbeats 2000000 in
set_option maxRecDepth 100000 in
theorem told2 (base gt gc gr D : Nat) (vl vw vg : Value) (es : List En) (s : St) (N : Int) (w : World) (htk : TK w base gt vl vw vg es) (hcz : Cz w gc D s) (hrz : Rz w gr D s) (hl : s.1.length ≤ 1048576) (hes : es.length ≤ 4194000) (hbase : base ≤ w.heap.size) (hgc : gc < base) (hgr : gr < base) (hne : gc ≠ gr) (hD : D ≤ base) :
    Calls Try.prog 15 #[.pointer (some ⟨gt, 0, none⟩), .pointer (some ⟨gc, 0, none⟩), .pointer (some ⟨gr, 0, none⟩), .agg #[.int .i64 2, .int .i64 N]] w fun e' w' => e' = .returned (.bool true) ∧ After w base gt gc gr D es w' := by
  obtain ⟨x, hx⟩ : ∃ x, w.heap.size = x := ⟨_, rfl⟩
  obtain ⟨w0, hw0⟩ : ∃ w0, w.alloc (.cells #[.int .i64 2, .int .i64 N] 45) = w0 := ⟨_, rfl⟩
  have hb0 : Below w.heap.size w w0 := by rw [← hw0]; exact (Below.refl _ _).alloc (Nat.le_refl _) _
  have HX0 : Hid (Ctx w base gt gc gr D x vl vw vg es 2 N w0 s s) := ⟨htk.below hb0, hcz.below hb0, hrz.below hb0, by rw [← hw0, ← hx]; exact heap_alloc_new _ _, (KB.refl _ _ _ _).below hb0 hbase⟩
  have HXW : Hid (w.heap.size ≤ x) := by show _ ≤ _; omega
  have HBW := hide hbase
  have HGC := hide hgc
  have HGR := hide hgr
  have HNE := hide hne
  have HDB := hide hD
  have HES := hide hes
  have HTOP := hide htk.tops.2.2.2
  have s0 := HX0.out.sx.c0
  have s1 := HX0.out.sx.c1
  have HS1 := hide hl
  obtain ⟨X, hX⟩ : ∃ X, (if s.2.2 ≠ 0 then [] else s.1.take (takeAt s.1 N).1) = X := ⟨_, rfl⟩
  obtain ⟨S2, hS2⟩ : ∃ S2, stepS s.1 s.2.1 s.2.2 (takeAt s.1 N) = S2 := ⟨_, rfl⟩
  have HS2 : Hid (S2.1.length ≤ 1048576) := by show _ ≤ _; rw [← hS2]; exact stepS_len s _ _ hl
  have HXL : Hid (X.length ≤ 1048576) := by
    show _ ≤ _
    rw [← hX]
    split
    · simp
    · rw [List.length_take]; omega
  have HC : Hid (∀ W, Ctx w base gt gc gr D x vl vw vg es 2 N W s s → Calls Try.prog 50 #[.pointer (some ⟨gc, 0, none⟩), .int .i64 N] W fun e w' => ∃ va vn vc, e = .returned (.slice va vn vc) ∧ Own w' W.heap.size (.slice va vn vc) X ∧ Fu (.slice va vn vc) ∧ Ctx w base gt gc gr D x vl vw vg es 2 N w' S2 s) := fun W h =>
    (cz_take gc D s N W h.cz).mono fun e w' ⟨⟨v, q1, q4, q5⟩, q2, q3⟩ => by
      rw [hX] at q4
      obtain ⟨va, vn, vc, rfl, _⟩ := Lz.own_named q4
      exact ⟨va, vn, vc, q1, q4, q5, h.prog q2 (by rw [← hS2]; exact q3) hgc hne hbase HXW.out⟩
  have HR : Hid (∀ W, Ctx w base gt gc gr D x vl vw vg es 2 N W S2 s → Calls Try.prog 52 #[.pointer (some ⟨gr, 0, none⟩), .int .i64 N] W fun e w' => ∃ va vn vc, e = .returned (.slice va vn vc) ∧ Own w' W.heap.size (.slice va vn vc) X ∧ W.grownBy w' (some gr) ∧ Ctx w base gt gc gr D x vl vw vg es 2 N w' S2 S2) := fun W h =>
    (rz_take gr D s N W h.rz).mono fun e w' ⟨⟨v, q1, q4⟩, q2, q3⟩ => by
      rw [hX] at q4
      obtain ⟨va, vn, vc, rfl, _⟩ := Lz.own_named q4
      exact ⟨va, vn, vc, q1, q4, q2, h.ref q2 (by rw [← hS2]; exact q3) hgr hne hbase HXW.out⟩
  have HW0 : Hid (base ≤ w0.heap.size) := Nat.le_trans hbase hb0.size
  have HW1 : Hid (w.heap.size ≤ w0.heap.size) := hb0.size
  clear htk hcz hrz hl hes hbase hgc hgr hne hD hS2 hb0 hX
  go_enter Try.func15, Try.ntmps15
  go_wp2_with fail
  refine (HC.out _ HX0.out).mono ?_
  rintro e w1 ⟨va, vn, vc, rfl, ho1, hf1, hx1⟩
  have HX1 := hide hx1
  have HO1 := hide ho1
  have HF1 := hide hf1
  have s2 := hx1.sx.c1
  clear hx1 ho1 hf1 HC HX0 s0 s1
  go_wp2_with fail
  refine (HR.out _ HX1.out).mono ?_
  rintro e w2 ⟨ua, un, uc, rfl, ho2, hg2, hx2⟩
  have HX2 := hide hx2
  have HU2 := hide ho2
  have HV2 : Hid (Own w2 w0.heap.size (.slice va vn vc) X) := Base.keep HO1.out hg2 (fun i j e1 e2 e3 => by have h1 := (blk HO1.out i e1).1; have h2 := Option.some.inj e2; have h4 := HGR.out; have h5 := HW0.out; omega)
  clear hx2 ho2 hg2 HR HX1 HO1 s2
  go_wp2_with fail
  refine (same_any va ua vn vc un uc X X w2 (Got.rd HV2.out (by have := HXL.out; omega)) (Got.rd HU2.out (by have := HXL.out; omega))).mono ?_
  rintro e w3 ⟨rfl, hb3⟩
  have HX3 := hide (HX2.out.below hb3 HBW.out)
  have HV3 := hide (HV2.out.below hb3)
  clear hb3 HX2 HV2 HU2
  rw [decide_eq_true (rfl : X = X)]
  have HKP := hide (keep_any base gt vl vw vg es va vn vc X w3 HX3.out.tk (HV3.out.mono HW0.out) HF1.out HXL.out HES.out (Nat.le_trans HBW.out HX3.out.kb.size) (fun n e he j i hj e1 e2 => by have h1 := (blk HV3.out i e1).1; have h2 := (HTOP.out n e he j i e2).2; have h3 := HW1.out; omega))
  go_wp2_with fail
  refine HKP.out.mono ?_
  rintro e w4 ⟨rfl, ⟨vl1, vw1, vg1, es1, hlen, htk4⟩, hb4⟩
  have HY0 : Hid (Cty w base gt gc gr D vl1 vw1 vg1 es1 w4 S2 S2) := ⟨htk4, HX3.out.cz.low hb4 HGC.out HDB.out, HX3.out.rz.low hb4 HGR.out HDB.out, HX3.out.kb.low hb4⟩
  have HLEN := hide hlen
  clear htk4 hb4 hlen HKP HX3 HV3
  obtain ⟨rl, hrl⟩ : ∃ rl, S2.1.length = rl := ⟨_, rfl⟩
  obtain ⟨ea, eb, hee⟩ := endS_two S2
  have HPR : Hid (∀ W, Cty w base gt gc gr D vl1 vw1 vg1 es1 W S2 S2 → Calls Try.prog 11 #[.pointer (some ⟨gc, 0, none⟩)] W fun e w' => e = .returned (.int .i64 (rl : Int)) ∧ Cty w base gt gc gr D vl1 vw1 vg1 es1 w' S2 S2) := fun W h =>
    (cz_rest gc D S2 W h.cz).mono fun e w' ⟨q1, q2⟩ => ⟨by rw [q1, hrl], h.below q2 HBW.out⟩
  have HRR : Hid (∀ W, Cty w base gt gc gr D vl1 vw1 vg1 es1 W S2 S2 → Calls Try.prog 12 #[.pointer (some ⟨gr, 0, none⟩)] W fun e w' => e = .returned (.int .i64 (rl : Int)) ∧ Cty w base gt gc gr D vl1 vw1 vg1 es1 w' S2 S2) := fun W h =>
    (rz_rest gr D S2 W h.rz).mono fun e w' ⟨q1, q2⟩ => ⟨by rw [q1, hrl], h.below q2 HBW.out⟩
  have HPE : Hid (∀ W, Cty w base gt gc gr D vl1 vw1 vg1 es1 W S2 S2 → Calls Try.prog 13 #[.pointer (some ⟨gc, 0, none⟩)] W fun e w' => e = .returned (.agg #[.int .i64 ea, .int .i64 eb]) ∧ Cty w base gt gc gr D vl1 vw1 vg1 es1 w' S2 S2) := fun W h =>
    (cz_end gc D S2 W h.cz).mono fun e w' ⟨q1, q2⟩ => ⟨by rw [q1, hee], h.below q2 HBW.out⟩
  have HRE : Hid (∀ W, Cty w base gt gc gr D vl1 vw1 vg1 es1 W S2 S2 → Calls Try.prog 14 #[.pointer (some ⟨gr, 0, none⟩)] W fun e w' => e = .returned (.agg #[.int .i64 ea, .int .i64 eb]) ∧ Cty w base gt gc gr D vl1 vw1 vg1 es1 w' S2 S2) := fun W h =>
    (rz_end gr D S2 W h.rz).mono fun e w' ⟨q1, q2⟩ => ⟨by rw [q1, hee], h.below q2 HBW.out⟩
  have hrr : ((rl : Int) == (rl : Int)) = true := by simp
  have hea : (ea == ea) = true := by simp
  have heb : (eb == eb) = true := by simp
  clear hrl hee
  go_wp2_with fail
  refine (HPR.out _ HY0.out).mono ?_
  rintro e v3 ⟨rfl, hx3⟩
  have HX3 := hide hx3
  clear hx3 HY0
  go_wp2_with fail
  refine (HRR.out _ HX3.out).mono ?_
  rintro e v4 ⟨rfl, hx4⟩
  have HX4 := hide hx4
  clear hx4 HX3
  go_wp2_with fail
  refine (HPE.out _ HX4.out).mono ?_
  rintro e v5 ⟨rfl, hx5⟩
  have HX5 := hide hx5
  clear hx5 HX4
  go_wp2_with fail
  refine (HRE.out _ HX5.out).mono ?_
  rintro e v6 ⟨rfl, hx6⟩
  have HX6 := hide hx6
  clear hx6 HX5
  go_wp2_with fail
  go_ret
  exact ⟨by first | rfl | simp, vl1, vw1, vg1, es1, S2, HX6.out.tk, HX6.out.cz, HX6.out.rz, by rw [HLEN.out]; exact Nat.le_refl _, HS2.out, HX6.out.kb⟩
set_option maxHeartbeats 2000000 in
set_option maxRecDepth 100000 in
theorem told9 (base gt gc gr D : Nat) (vl vw vg : Value) (es : List En) (s : St) (op N : Int) (w : World) (htk : TK w base gt vl vw vg es) (hcz : Cz w gc D s) (hrz : Rz w gr D s) (hl : s.1.length ≤ 1048576) (hes : es.length ≤ 4194000) (hbase : base ≤ w.heap.size) (hgc : gc < base) (hgr : gr < base) (hne : gc ≠ gr) (hD : D ≤ base) (hop : op < 0 ∨ 4 < op) :
    Calls Try.prog 15 #[.pointer (some ⟨gt, 0, none⟩), .pointer (some ⟨gc, 0, none⟩), .pointer (some ⟨gr, 0, none⟩), .agg #[.int .i64 op, .int .i64 N]] w fun e' w' => e' = .returned (.bool true) ∧ After w base gt gc gr D es w' := by
  obtain ⟨x, hx⟩ : ∃ x, w.heap.size = x := ⟨_, rfl⟩
  obtain ⟨w0, hw0⟩ : ∃ w0, w.alloc (.cells #[.int .i64 op, .int .i64 N] 45) = w0 := ⟨_, rfl⟩
  have hb0 : Below w.heap.size w w0 := by rw [← hw0]; exact (Below.refl _ _).alloc (Nat.le_refl _) _
  have HX0 : Hid (Ctx w base gt gc gr D x vl vw vg es op N w0 s s) := ⟨htk.below hb0, hcz.below hb0, hrz.below hb0, by rw [← hw0, ← hx]; exact heap_alloc_new _ _, (KB.refl _ _ _ _).below hb0 hbase⟩
  have HXW : Hid (w.heap.size ≤ x) := by show _ ≤ _; omega
  have HBW := hide hbase
  have HGC := hide hgc
  have HGR := hide hgr
  have HNE := hide hne
  have HDB := hide hD
  have HES := hide hes
  have HTOP := hide htk.tops.2.2.2
  have s0 := HX0.out.sx.c0
  have s1 := HX0.out.sx.c1
  have HS1 := hide hl
  obtain ⟨S2, hS2⟩ : ∃ S2, s = S2 := ⟨_, rfl⟩
  subst hS2
  have HS2 := hide hl
  have o0 : (op == 0) = false := by rw [beq_eq_false_iff_ne]; omega
  have o1 : (op == 1) = false := by rw [beq_eq_false_iff_ne]; omega
  have o2 : (op == 2) = false := by rw [beq_eq_false_iff_ne]; omega
  have o3 : (op == 3) = false := by rw [beq_eq_false_iff_ne]; omega
  have o4 : (op == 4) = false := by rw [beq_eq_false_iff_ne]; omega
  clear htk hcz hrz hl hes hbase hgc hgr hne hD hb0 hop
  go_enter Try.func15, Try.ntmps15
  obtain ⟨rl, hrl⟩ : ∃ rl, s.1.length = rl := ⟨_, rfl⟩
  obtain ⟨ea, eb, hee⟩ := endS_two s
  have HPR : Hid (∀ W, Ctx w base gt gc gr D x vl vw vg es op N W s s → Calls Try.prog 11 #[.pointer (some ⟨gc, 0, none⟩)] W fun e w' => e = .returned (.int .i64 (rl : Int)) ∧ Ctx w base gt gc gr D x vl vw vg es op N w' s s) := fun W h =>
    (cz_rest gc D s W h.cz).mono fun e w' ⟨q1, q2⟩ => ⟨by rw [q1, hrl], h.below q2 HBW.out⟩
  have HRR : Hid (∀ W, Ctx w base gt gc gr D x vl vw vg es op N W s s → Calls Try.prog 12 #[.pointer (some ⟨gr, 0, none⟩)] W fun e w' => e = .returned (.int .i64 (rl : Int)) ∧ Ctx w base gt gc gr D x vl vw vg es op N w' s s) := fun W h =>
    (rz_rest gr D s W h.rz).mono fun e w' ⟨q1, q2⟩ => ⟨by rw [q1, hrl], h.below q2 HBW.out⟩
  have HPE : Hid (∀ W, Ctx w base gt gc gr D x vl vw vg es op N W s s → Calls Try.prog 13 #[.pointer (some ⟨gc, 0, none⟩)] W fun e w' => e = .returned (.agg #[.int .i64 ea, .int .i64 eb]) ∧ Ctx w base gt gc gr D x vl vw vg es op N w' s s) := fun W h =>
    (cz_end gc D s W h.cz).mono fun e w' ⟨q1, q2⟩ => ⟨by rw [q1, hee], h.below q2 HBW.out⟩
  have HRE : Hid (∀ W, Ctx w base gt gc gr D x vl vw vg es op N W s s → Calls Try.prog 14 #[.pointer (some ⟨gr, 0, none⟩)] W fun e w' => e = .returned (.agg #[.int .i64 ea, .int .i64 eb]) ∧ Ctx w base gt gc gr D x vl vw vg es op N w' s s) := fun W h =>
    (rz_end gr D s W h.rz).mono fun e w' ⟨q1, q2⟩ => ⟨by rw [q1, hee], h.below q2 HBW.out⟩
  have hrr : ((rl : Int) == (rl : Int)) = true := by simp
  have hea : (ea == ea) = true := by simp
  have heb : (eb == eb) = true := by simp
  clear hrl hee
  go_wp2_with fail
  refine (HPR.out _ HX0.out).mono ?_
  rintro e w3 ⟨rfl, hx3⟩
  have HX3 := hide hx3
  clear hx3 HX0
  go_wp2_with fail
  refine (HRR.out _ HX3.out).mono ?_
  rintro e w4 ⟨rfl, hx4⟩
  have HX4 := hide hx4
  clear hx4 HX3
  go_wp2_with fail
  refine (HPE.out _ HX4.out).mono ?_
  rintro e w5 ⟨rfl, hx5⟩
  have HX5 := hide hx5
  clear hx5 HX4
  go_wp2_with fail
  refine (HRE.out _ HX5.out).mono ?_
  rintro e w6 ⟨rfl, hx6⟩
  have HX6 := hide hx6
  clear hx6 HX5
  go_wp2_with fail
  go_ret
  exact ⟨by first | rfl | simp, vl, vw, vg, es, s, HX6.out.tk, HX6.out.cz, HX6.out.rz, Nat.le_succ _, HS2.out, HX6.out.kb⟩
end Go.Proofs.Ytcchknpgkcmneaa.Curs
