/-
  Books as results; books that are handed in, with marks in the room of their lists; are they kept?
-/
import Derived.Test.YtgpfabblmoffiaaDoorLgG
import Derived.Laws.Rows
import Derived.Laws.ResultCell
namespace Go.Proofs.YtgpfabblmoffiaaDoor.Lg
open Go.ChangeShapes Go.WideShapes Go.ChangeAt Go.RowKit
open Go.Proofs.YtgpfabblmoffiaaDoor.Base Go.Proofs.YtgpfabblmoffiaaDoor.Rf
set_option linter.unusedVariables false
theorem bc_ret {fn : Func} {p : Tmp} (h : fn.results = #[.cell p 26]) (tmps : Array Value) (w : World) (g : Nat) (t : Int) (v1 v2 : Value) (f : Bool) (hp : tmps.getD p undef = .pointer (some ⟨g, 0, none⟩)) (hf : BC w g t v1 v2 f) :
    (results fn tmps).run Tryd.prog w = .ok (.agg #[.int .i64 t, v1, v2, .bool f]) w :=
  results_cell_row h tmps w g 26 _ (0, 0) _ hp hf Tryd.underlying26 rfl (by kernel_rfl)
theorem bc_ret2 {fn : Func} {p u : Tmp} (h : fn.results = #[.cell p 26, .tmp u]) (tmps : Array Value) (w : World) (g : Nat) (t : Int) (v1 v2 : Value) (f : Bool) (hp : tmps.getD p undef = .pointer (some ⟨g, 0, none⟩)) (hf : BC w g t v1 v2 f) :
    (results fn tmps).run Tryd.prog w = .ok (.tuple #[.agg #[.int .i64 t, v1, v2, .bool f], tmps.getD u undef]) w := by
  rw [results_cell_tmp h, hp]
  simp [asAddr, run_loadVar_row w g 26 26 _ (0, 0) _ hf Tryd.underlying26 rfl (by kernel_rfl)]
theorem results_cell_tmp2 {fn : Func} {p u u2 : Tmp} {ty : TypeId} (h : fn.results = #[.cell p ty, .tmp u, .tmp u2]) (tmps : Array Value) (P : Program) (w : World) :
    (results fn tmps).run P w =
      ((asAddr (tmps.getD p undef)).run P w).andThen fun a w₁ => ((loadVar ty a).run P w₁).andThen fun v w₂ => .ok (.tuple #[v, tmps.getD u undef, tmps.getD u2 undef]) w₂ := by
  simp only [results, h]
  simp [Sem.run_bind, Result.andThen]
theorem results_cell_tmp3 {fn : Func} {p u u2 u3 : Tmp} {ty : TypeId} (h : fn.results = #[.cell p ty, .tmp u, .tmp u2, .tmp u3]) (tmps : Array Value) (P : Program) (w : World) :
    (results fn tmps).run P w =
      ((asAddr (tmps.getD p undef)).run P w).andThen fun a w₁ => ((loadVar ty a).run P w₁).andThen fun v w₂ => .ok (.tuple #[v, tmps.getD u undef, tmps.getD u2 undef, tmps.getD u3 undef]) w₂ := by
  simp only [results, h]
  simp [Sem.run_bind, Result.andThen]
theorem bc_ret3 {fn : Func} {p u u2 : Tmp} (h : fn.results = #[.cell p 26, .tmp u, .tmp u2]) (tmps : Array Value) (w : World) (g : Nat) (t : Int) (v1 v2 : Value) (f : Bool) (hp : tmps.getD p undef = .pointer (some ⟨g, 0, none⟩)) (hf : BC w g t v1 v2 f) :
    (results fn tmps).run Tryd.prog w = .ok (.tuple #[.agg #[.int .i64 t, v1, v2, .bool f], tmps.getD u undef, tmps.getD u2 undef]) w := by
  rw [results_cell_tmp2 h, hp]
  simp [asAddr, run_loadVar_row w g 26 26 _ (0, 0) _ hf Tryd.underlying26 rfl (by kernel_rfl)]
theorem bc_ret4 {fn : Func} {p u u2 u3 : Tmp} (h : fn.results = #[.cell p 26, .tmp u, .tmp u2, .tmp u3]) (tmps : Array Value) (w : World) (g : Nat) (t : Int) (v1 v2 : Value) (f : Bool) (hp : tmps.getD p undef = .pointer (some ⟨g, 0, none⟩)) (hf : BC w g t v1 v2 f) :
    (results fn tmps).run Tryd.prog w = .ok (.tuple #[.agg #[.int .i64 t, v1, v2, .bool f], tmps.getD u undef, tmps.getD u2 undef, tmps.getD u3 undef]) w := by
  rw [results_cell_tmp3 h, hp]
  simp [asAddr, run_loadVar_row w g 26 26 _ (0, 0) _ hf Tryd.underlying26 rfl (by kernel_rfl)]
theorem BC.set1 {w : World} {g : Nat} {t : Int} {v1 v2 : Value} {f : Bool} (h : BC w g t v1 v2 f) (u : Value) : BC (w.setCell ⟨g, 1, none⟩ u) g t u v2 f := by
  unfold BC; rw [heap_setCell_same _ _ 1 _ _ _ h]; rfl
theorem BC.set2 {w : World} {g : Nat} {t : Int} {v1 v2 : Value} {f : Bool} (h : BC w g t v1 v2 f) (u : Value) : BC (w.setCell ⟨g, 2, none⟩ u) g t v1 u f := by
  unfold BC; rw [heap_setCell_same _ _ 2 _ _ _ h]; rfl
theorem BC.set3 {w : World} {g : Nat} {t : Int} {v1 v2 : Value} {f : Bool} (h : BC w g t v1 v2 f) (u : Bool) : BC (w.setCell ⟨g, 3, none⟩ (.bool u)) g t v1 v2 u := by
  unfold BC; rw [heap_setCell_same _ _ 3 _ _ _ h]; rfl
/-- The four cells of a book written over. -/
def set4 (w : World) (g : Nat) (t : Int) (v1 v2 : Value) (f : Bool) : World := (((w.setCell ⟨g, 0, none⟩ (.int .i64 t)).setCell ⟨g, 1, none⟩ v1).setCell ⟨g, 2, none⟩ v2).setCell ⟨g, 3, none⟩ (.bool f)
theorem BC.set4 {w : World} {g : Nat} {t : Int} {v1 v2 : Value} {f : Bool} (h : BC w g t v1 v2 f) (t' : Int) (u1 u2 : Value) (f' : Bool) : BC (Lg.set4 w g t' u1 u2 f') g t' u1 u2 f' := by
  unfold BC Lg.set4; rw [heap_setCell_same _ _ 3 _ _ _ (heap_setCell_same _ _ 2 _ _ _ (heap_setCell_same _ _ 1 _ _ _ (heap_setCell_same _ _ 0 _ _ _ h)))]; rfl
theorem grown_set4 (w : World) (g : Nat) (t : Int) (v1 v2 : Value) (f : Bool) : w.grownBy (Lg.set4 w g t v1 v2 f) (some g) :=
  grown_cell (grown_cell (grown_cell (grown_cell (World.grownBy.refl _ _) _ _) _ _) _ _) _ _
theorem BC.kp {w w' : World} {g : Nat} {t : Int} {v1 v2 : Value} {f : Bool} {S : Nat → Prop} (h : BC w g t v1 v2 f) (k : Kp S w w') (hS : ¬ S g) : BC w' g t v1 v2 f := (k.block g h.lt hS).trans h
theorem TC.kp {w w' : World} {g : Nat} {x : TS} {S : Nat → Prop} (h : TC w g x) (k : Kp S w w') (hS : ¬ S g) : TC w' g x := (k.block g h.lt hS).trans h
theorem Rm.below {w w' : World} {base g : Nat} {L : List TS} (h : Rm w base g L) (hb : Below w.heap.size w w') : Rm w' base g L := TF.below h hb
theorem Rm.kp {w w' : World} {base g : Nat} {L : List TS} {S : Nat → Prop} (h : Rm w base g L) (k : Kp S w w') (hS : ¬ S g) : Rm w' base g L := TF.kp h k hS
theorem Rm.mono {w : World} {base base' g : Nat} {L : List TS} (h : Rm w base g L) (hb : base' ≤ base) : Rm w base' g L := OwnF.mono h hb
set_option maxHeartbeats 2000000 in
set_option maxRecDepth 100000 in
theorem given_any (M R : List TS) (t : Int) (f : Bool) (a1 a2 : Option Addr) (n1 n2 c1 c2 : Nat) (w : World) (h1 : RdT w a1 n1 M) (h2 : RdT w a2 n2 R) (hn1 : n1 ≤ 5864062014634) (hn2 : n2 ≤ 5864062014634) :
    Calls Tryd.prog 17 #[.agg #[.int .i64 t, .slice a1 n1 c1, .slice a2 n2 c2, .bool f]] w fun e w' => ∃ g1 g2, e = .returned (.agg #[.int .i64 t, .slice (some ⟨g1, 0, none⟩) n1 (n1 + 64), .slice (some ⟨g2, 0, none⟩) n2 (n2 + 64), .bool f]) ∧ Rm w' w.heap.size g1 M ∧ Rm w' w.heap.size g2 R ∧ g1 < g2 ∧ Below w.heap.size w w' := by
  obtain ⟨w1, hw1⟩ : ∃ w1, w.alloc (.cells #[.int .i64 t, .slice a1 n1 c1, .slice a2 n2 c2, .bool f] 26) = w1 := ⟨_, rfl⟩
  have HB1 : Hid (Below w.heap.size w w1) := by rw [← hw1]; exact (Below.refl _ _).alloc (Nat.le_refl _) _
  have hC1 : BC w1 w.heap.size t (.slice a1 n1 c1) (.slice a2 n2 c2) f := by rw [← hw1]; exact bc_new _ _ _ _ _
  obtain ⟨w2, hw2⟩ : ∃ w2, w1.alloc (.cells #[.int .i64 0, .slice none 0 0, .slice none 0 0, .bool false] 26) = w2 := ⟨_, rfl⟩
  have hb2 : Below w1.heap.size w1 w2 := by rw [← hw2]; exact (Below.refl _ _).alloc (Nat.le_refl _) _
  have hC2 : BC w2 w1.heap.size 0 (.slice none 0 0) (.slice none 0 0) false := by rw [← hw2]; exact bc_new _ _ _ _ _
  obtain ⟨w3, hw3⟩ : ∃ w3, w2.alloc (.cells #[.int .i64 t, .slice a1 n1 c1, .slice a2 n2 c2, .bool f] 26) = w3 := ⟨_, rfl⟩
  have hb3 : Below w2.heap.size w2 w3 := by rw [← hw3]; exact (Below.refl _ _).alloc (Nat.le_refl _) _
  have hC3 : BC w3 w2.heap.size t (.slice a1 n1 c1) (.slice a2 n2 c2) f := by rw [← hw3]; exact bc_new _ _ _ _ _
  have HB3 : Hid (Below w.heap.size w w3) := below_trans HB1.out (below_trans hb2 hb3)
  have HC12 := hide (hC1.below hb2)
  have HC1 := hide ((hC1.below hb2).below hb3)
  have HC2 := hide (hC2.below hb3)
  have HC3 := hide hC3
  have HLT : Hid (w.heap.size < w1.heap.size ∧ w1.heap.size < w2.heap.size ∧ w2.heap.size < w3.heap.size) := ⟨hC1.lt, hC2.lt, hC3.lt⟩
  clear hC1 hC2 hC3 hb2 hb3
  have HR1 := hide (h1.below HB3.out)
  have HR2 := hide h2
  clear h1 h2
  obtain ⟨g, hg⟩ : ∃ g, w.heap.size = g := ⟨_, rfl⟩
  obtain ⟨q, hq⟩ : ∃ q, w1.heap.size = q := ⟨_, rfl⟩
  obtain ⟨r, hr⟩ : ∃ r, w2.heap.size = r := ⟨_, rfl⟩
  rw [hg] at HC1 HC12
  rw [hq] at HC2
  rw [hr] at HC3
  have HG := hide hg
  have HQ := hide hq
  have HRR := hide hr
  have u0 := HC12.out.c0
  have u1 := HC12.out.c1
  have u2 := HC12.out.c2
  have u3 := HC12.out.c3
  have y1 := HC1.out.c1
  go_enter Tryd.func17, Tryd.ntmps17
  go_wp2_with fail
  refine (roomy_any a1 n1 c1 M w3 HR1.out hn1).mono ?_
  clear hw1 hw2 hw3 hg hq hr y1 u0 u1 u2 u3
  rintro e w4 ⟨g1, rfl, ho4, hb4⟩
  have HO4 := hide ho4
  have HB4 := hide (below_trans HB3.out hb4)
  have HC14 := hide (HC1.out.below hb4)
  have HC24 := hide (HC2.out.below hb4)
  have HC34 := hide (HC3.out.below hb4)
  have HL4 : Hid (w3.heap.size ≤ w4.heap.size) := hb4.size
  clear ho4 hb4
  have x1 := HC34.out.c1
  have xz := HC34.out.fz 1
  have HGQ : Hid (w.heap.size = g ∧ g < q ∧ q < r ∧ r < w3.heap.size ∧ w3.heap.size ≤ g1) := by
    obtain ⟨l1, l2, l3⟩ := HLT.out
    have e1 := HG.out
    have e2 := HQ.out
    have e3 := HRR.out
    have := HO4.out.lt.1
    exact ⟨e1, by omega, by omega, by omega, this⟩
  obtain ⟨w5, hw5⟩ : ∃ w5, w4.setCell ⟨r, 1, none⟩ (.slice (some ⟨g1, 0, none⟩) n1 (n1 + 64)) = w5 := ⟨_, rfl⟩
  have HK5 : Hid (Kp (fun i => some r = some i) w4 w5) := by rw [← hw5]; exact Kp.of_grown (grown_set w4 r 1 _)
  have HC35 : Hid (BC w5 r t (.slice (some ⟨g1, 0, none⟩) n1 (n1 + 64)) (.slice a2 n2 c2) f) := by rw [← hw5]; exact HC34.out.set1 _
  have HO5 : Hid (Rm w5 w3.heap.size g1 M) := HO4.out.kp HK5.out (fun e => by have := HGQ.out; cases e; omega)
  have HC15 := hide (HC14.out.kp HK5.out (fun e => by have := HGQ.out; cases e; omega))
  have HC25 := hide (HC24.out.kp HK5.out (fun e => by have := HGQ.out; cases e; omega))
  have HB5 : Hid (Below w.heap.size w w5) := HK5.out.below HB4.out (fun i e => by have := HGQ.out; cases e; omega) HB4.out.size
  have HL5 : Hid (w3.heap.size ≤ w5.heap.size) := Nat.le_trans HL4.out HK5.out.size
  have HR25 := hide (HR2.out.below HB5.out)
  have y2 := HC15.out.c2
  go_wp2_with fail
  refine (roomy_any a2 n2 c2 R w5 HR25.out hn2).mono ?_
  clear hw5 x1 xz y2
  rintro e w6 ⟨g2, rfl, ho6, hb6⟩
  have HO6 := hide ho6
  have HB6 := hide (below_trans HB5.out hb6)
  have HO16 := hide (HO5.out.below hb6)
  have HC26 := hide (HC25.out.below hb6)
  have HC36 := hide (HC35.out.below hb6)
  have HG2 : Hid (g1 < g2) := by
    have h1 := HO6.out.lt.1
    have h2 := HO5.out.lt.2
    show _ < _
    omega
  clear ho6 hb6
  have x2 := HC36.out.c2
  have xz := HC36.out.fz 2
  obtain ⟨w7, hw7⟩ : ∃ w7, w6.setCell ⟨r, 2, none⟩ (.slice (some ⟨g2, 0, none⟩) n2 (n2 + 64)) = w7 := ⟨_, rfl⟩
  have HK7 : Hid (Kp (fun i => some r = some i) w6 w7) := by rw [← hw7]; exact Kp.of_grown (grown_set w6 r 2 _)
  have HC37 : Hid (BC w7 r t (.slice (some ⟨g1, 0, none⟩) n1 (n1 + 64)) (.slice (some ⟨g2, 0, none⟩) n2 (n2 + 64)) f) := by rw [← hw7]; exact HC36.out.set2 _
  have HO17 : Hid (Rm w7 w3.heap.size g1 M) := HO16.out.kp HK7.out (fun e => by have := HGQ.out; cases e; omega)
  have HO27 : Hid (Rm w7 w5.heap.size g2 R) := HO6.out.kp HK7.out (fun e => by have := HGQ.out; have := HG2.out; cases e; omega)
  have HC27 := hide (HC26.out.kp HK7.out (fun e => by have := HGQ.out; cases e; omega))
  have HB7 : Hid (Below w.heap.size w w7) := HK7.out.below HB6.out (fun i e => by have := HGQ.out; cases e; omega) HB6.out.size
  have c0 := HC37.out.c0
  have c1 := HC37.out.c1
  have c2 := HC37.out.c2
  have c3 := HC37.out.c3
  have r0 := HC27.out.c0
  have r1 := HC27.out.c1
  have r2 := HC27.out.c2
  have r3 := HC27.out.c3
  have f0 := HC27.out.fz 0
  have f1 := HC27.out.fz 1
  have f2 := HC27.out.fz 2
  have f3 := HC27.out.fz 3
  obtain ⟨w8, hw8⟩ : ∃ w8, (((w7.setCell ⟨q, 0, none⟩ (.int .i64 t)).setCell ⟨q, 1, none⟩ (.slice (some ⟨g1, 0, none⟩) n1 (n1 + 64))).setCell ⟨q, 2, none⟩ (.slice (some ⟨g2, 0, none⟩) n2 (n2 + 64))).setCell ⟨q, 3, none⟩ (.bool f) = w8 := ⟨_, rfl⟩
  have hw8' : set4 w7 q t (.slice (some ⟨g1, 0, none⟩) n1 (n1 + 64)) (.slice (some ⟨g2, 0, none⟩) n2 (n2 + 64)) f = w8 := hw8
  have HK8 : Hid (Kp (fun i => some q = some i) w7 w8) := by rw [← hw8']; exact Kp.of_grown (grown_set4 _ _ _ _ _ _)
  have HC28 : Hid (BC w8 q t (.slice (some ⟨g1, 0, none⟩) n1 (n1 + 64)) (.slice (some ⟨g2, 0, none⟩) n2 (n2 + 64)) f) := by rw [← hw8']; exact HC27.out.set4 _ _ _ _
  have HO18 : Hid (Rm w8 w3.heap.size g1 M) := HO17.out.kp HK8.out (fun e => by have := HGQ.out; cases e; omega)
  have HO28 : Hid (Rm w8 w5.heap.size g2 R) := HO27.out.kp HK8.out (fun e => by have := HGQ.out; have := HG2.out; cases e; omega)
  have HB8 : Hid (Below w.heap.size w w8) := HK8.out.below HB7.out (fun i e => by have := HGQ.out; cases e; omega) HB7.out.size
  clear hw8'
  go_wp2
  refine bodyPost_ret (bc_ret rfl _ _ q t _ _ f rfl HC28.out) rfl ?_
  exact ⟨g1, g2, rfl, HO18.out.mono HB3.out.size, HO28.out.mono HB5.out.size, HG2.out, HB8.out⟩
end Go.Proofs.YtgpfabblmoffiaaDoor.Lg
