/-
  Which damage is asked for; what a plan gives up.
-/
import Derived.Test.YtbmbhcjocgbbpaaFaPlanA
namespace Go.Proofs.Ytbmbhcjocgbbpaa.Fa
open Go.ChangeShapes Go.WideShapes Go.ChangeAt Go.RowKit
open Go.Proofs.Ytbmbhcjocgbbpaa.Base
set_option linter.unusedVariables false
/-- Is the entry damage of that instant? -/
def isDue (x : P4) (f : Flt) : Bool := !(f.k == 0) && (f.t == x.1 && (f.a == x.2.1 && (f.m == x.2.2.1 && f.r == x.2.2.2)))
/-- An instant lies in the block g. -/
def IB (w : World) (g : Nat) (x : P4) : Prop := w.heap[g]? = some (.cells #[.int .i64 x.1, .int .i64 x.2.1, .int .i64 x.2.2.1, .int .i64 x.2.2.2] 75)
theorem IB.cells {w : World} {g : Nat} {x : P4} (h : IB w g x) : w.cell? ⟨g, 0, none⟩ = some (.int .i64 x.1) ∧ w.cell? ⟨g, 1, none⟩ = some (.int .i64 x.2.1) ∧ w.cell? ⟨g, 2, none⟩ = some (.int .i64 x.2.2.1) ∧ w.cell? ⟨g, 3, none⟩ = some (.int .i64 x.2.2.2) := by
  refine ⟨?_, ?_, ?_, ?_⟩ <;> (rw [cell_of_row _ _ _ _ _ _ h]; rfl)
theorem IB.lt {w : World} {g : Nat} {x : P4} (h : IB w g x) : g < w.heap.size := (Array.getElem?_eq_some_iff.1 h).1
theorem IB.below {w w' : World} {g : Nat} {x : P4} (h : IB w g x) (hb : Below w.heap.size w w') : IB w' g x := (hb.block g h.lt).trans h
set_option maxHeartbeats 1000000 in
set_option maxRecDepth 100000 in
theorem due1_any (f : Flt) (x : P4) (c : Nat) (w : World) (hc : IB w c x) :
    Calls Try.prog 42 #[f.val, .pointer (some ⟨c, 0, none⟩)] w fun e w' => e = .returned (.bool (isDue x f)) ∧ Below w.heap.size w w' := by
  have HE : Hid (isDue x f = (!(f.k == 0) && (f.t == x.1 && (f.a == x.2.1 && (f.m == x.2.2.1 && f.r == x.2.2.2))))) := rfl
  generalize isDue x f = b at HE ⊢
  obtain ⟨x1, x2, x3, x4⟩ := x
  have hlt := hc.lt
  obtain ⟨c0, c1, c2, c3⟩ := hc.cells
  simp only at c0 c1 c2 c3 HE
  clear hc
  unfold Flt.val
  by_cases hk : f.k = 0
  · have hk' : (f.k == 0) = true := by simpa using hk
    have HQ : Hid (b = false) := by show _ = _; rw [HE.out, hk']; rfl
    clear HE
    go_enter Try.func42, Try.ntmps42
    go_wp2_with fail
    go_ret
    rw [HQ.out]
    exact ⟨rfl, ba (b0 _) _⟩
  · have hk' : (f.k == 0) = false := by simpa using hk
    have hk2 : (f.k != 0) = true := by simpa using hk
    have HQ := four_cases f.t f.a f.m f.r x1 x2 x3 x4 b (by rw [HE.out, hk']; rfl)
    clear HE
    rcases HQ with ⟨q1, rfl⟩ | ⟨q1, q2, rfl⟩ | ⟨q1, q2, q3, rfl⟩ | ⟨q1, q2, q3, q4, rfl⟩ | ⟨q1, q2, q3, q4, rfl⟩
    · go_enter Try.func42, Try.ntmps42
      go_wp2_with fail
      go_ret
      exact ⟨rfl, ba (b0 _) _⟩
    · go_enter Try.func42, Try.ntmps42
      go_wp2_with fail
      go_ret
      exact ⟨rfl, ba (b0 _) _⟩
    · go_enter Try.func42, Try.ntmps42
      go_wp2_with fail
      go_ret
      exact ⟨rfl, ba (b0 _) _⟩
    · go_enter Try.func42, Try.ntmps42
      go_wp2_with fail
      go_ret
      exact ⟨rfl, ba (b0 _) _⟩
    · go_enter Try.func42, Try.ntmps42
      go_wp2_with fail
      go_ret
      exact ⟨rfl, ba (b0 _) _⟩
/-- A plan lies in the block p: its list is lv. -/
def PlB (w : World) (p : Nat) (lv : Value) : Prop := w.heap[p]? = some (.cells #[lv] 69)
theorem PlB.lt {w : World} {p : Nat} {lv : Value} (h : PlB w p lv) : p < w.heap.size := (Array.getElem?_eq_some_iff.1 h).1
theorem PlB.below {w w' : World} {p : Nat} {lv : Value} (h : PlB w p lv) (hb : Below w.heap.size w w') : PlB w' p lv := (hb.block p h.lt).trans h
theorem PlB.grown {w w' : World} {p : Nat} {lv : Value} {q : Option Nat} (h : PlB w p lv) (hb : w.grownBy w' q) (hne : q ≠ some p) : PlB w' p lv := (hb.block p h.lt (fun e => hne e.symm)).trans h
theorem PlB.cell {w : World} {p : Nat} {lv : Value} (h : PlB w p lv) : w.cell? ⟨p, 0, none⟩ = some lv := by rw [cell_of_row _ _ _ _ _ _ h]; rfl
theorem PlB.fz {w : World} {p : Nat} {lv : Value} (h : PlB w p lv) : w.frozen? ⟨p, 0, none⟩ = false := frozen_of_row _ _ _ _ _ h
theorem PlB.set {w : World} {p : Nat} {lv : Value} (h : PlB w p lv) (lv' : Value) : PlB (w.setCell ⟨p, 0, none⟩ lv') p lv' := by
  unfold PlB
  rw [heap_setCell_same _ _ 0 _ _ _ h]
  rfl
theorem PlB.ne {w : World} {p base g n c : Nat} {lv : Value} {fs : List Flt} (h : PlB w p lv) (ho : OwnL w base (.slice (some ⟨g, 0, none⟩) n c) fs) : g ≠ p := by
  rintro rfl
  rcases ho.2 with ⟨e, _⟩ | ⟨g', cap, cur, e, _, h3, _⟩
  · cases e
  · simp only [Value.slice.injEq, Option.some.injEq, Addr.mk.injEq, and_true] at e
    obtain ⟨rfl, _⟩ := e
    rw [PlB, h3] at h
    simp at h
theorem PlB.apart {w : World} {p base : Nat} {lv v : Value} {fs : List Flt} (h : PlB w p lv) (ho : OwnL w base v fs) : ∀ i, v.ownBlock = some i → i ≠ p := by
  intro i e
  obtain ⟨a, c, rfl, _, _⟩ := ho.shape
  cases a with
  | none => cases e
  | some ad =>
    rcases ho.2 with ⟨e2, _⟩ | ⟨g', cap, cur, e2, _⟩
    · cases e2
    · simp only [Value.slice.injEq, Option.some.injEq] at e2
      obtain ⟨rfl, _, rfl⟩ := e2
      have : g' = i := Option.some.inj e
      subst this
      exact h.ne ho
/-- Two lists of the call's own lie apart. -/
def Ap2 (v u : Value) : Prop := ∀ i, v.ownBlock = some i → u.ownBlock ≠ some i
theorem Ap2.symm {v u : Value} (h : Ap2 v u) : Ap2 u v := fun i e e2 => h i e2 e
theorem filter_snoc (P : Flt → Bool) (fs : List Flt) (i : Nat) (f : Flt) (hi : i < fs.length) (hf : fs.getD i f0 = f) : (fs.take (i + 1)).filter P = if P f = true then (fs.take i).filter P ++ [f] else (fs.take i).filter P := by
  rw [take_all fs i f hi hf, List.filter_append]
  by_cases h : P f = true
  · rw [if_pos h]; simp [h]
  · rw [if_neg h]; simp [h]
theorem filter_len (P : Flt → Bool) (fs : List Flt) (i : Nat) : ((fs.take i).filter P).length ≤ i := Nat.le_trans (List.length_filter_le _ _) (List.length_take_le _ _)
/-- Own memory that is added to lies apart from the other list. -/
theorem ap_push {v u : Value} {g n c sz : Nat} (h : Ap2 v u) (hu : ∀ i, u.ownBlock = some i → i < sz) (hg : v.ownBlock = some g ∨ g = sz) : Ap2 (.slice (some ⟨g, 0, none⟩) n c) u := by
  intro i e e2
  have e3 : g = i := Option.some.inj e
  subst e3
  rcases hg with hg | hg
  · exact h g hg e2
  · have := hu g e2; omega
set_option maxHeartbeats 2000000 in
set_option maxRecDepth 100000 in
theorem take_stop (x : P4) (c p lb n cap : Nat) (la : Option Addr) (fs : List Flt) (w : World) (hc : PB w c x) (hp : PlB w p (.slice la n cap)) (ho : OwnL w lb (.slice la n cap) fs) (hn : n ≤ 1048576) :
    Calls Try.prog 39 #[.pointer (some ⟨p, 0, none⟩), .func (.func 40) #[] #[.pointer (some ⟨c, 0, none⟩)]] w fun e w' => ∃ v lv, e = .returned v ∧ OwnL w' w.heap.size v (fs.filter (isStop x)) ∧ OwnL w' w.heap.size lv (fs.filter (fun f => !isStop x f)) ∧ PlB w' p lv ∧ Ap2 v lv ∧ w.grownBy w' (some p) := by
  have HL := hide ho.len.1
  have HR := hide ho.rdl
  have HP := hide hp
  have HC := hide hc
  have hpc := hp.cell
  have hpz := hp.fz
  have hni : (n : Int) ≤ 1048576 := by omega
  clear ho hp hc
  go_enter Try.func39, Try.ntmps39
  go_wp2_with fail
  go_loopw [5, 6, 16] (fun sv sl si wr => ∃ (i : Nat) (v lv : Value), i ≤ n ∧ v = sv ∧ lv = sl ∧ .int .i64 (i : Int) = si ∧ Hid (OwnL wr w.heap.size v ((fs.take i).filter (isStop x))) ∧ Hid (OwnL wr w.heap.size lv ((fs.take i).filter (fun f => !isStop x f))) ∧ Hid (Ap2 v lv) ∧ Hid (Below w.heap.size w wr)) (fun _ _ si _ => n - (intOf si).toNat)
  case atStart => exact ⟨0, _, _, by omega, rfl, rfl, rfl, ownl_none _ _, ownl_none _ _, (fun i e => by cases e), b0 _⟩
  case round =>
    obtain ⟨i, v, lv, hi, rfl, rfl, rfl, HV, HLV, HAP, HB⟩ := hrel
    by_cases hin : i < n
    · have hii : (i : Int) < (n : Int) := by omega
      obtain ⟨b1, o1, rfl, hl1, hc1⟩ := HR.out.2 (by omega)
      obtain ⟨f, hf⟩ : ∃ f, fs.getD i f0 = f := ⟨_, rfl⟩
      obtain ⟨p0, p1, p2, p3, p4, p5, p6, p7⟩ := (hc1 i hin).same (w' := wr) (fun k => HB.out.cell (p := ⟨b1, k, none⟩) hl1)
      rw [hf] at p0 p1 p2 p3 p4 p5 p6 p7
      have HF := hide hf
      have hil : i < fs.length := by rw [← HL.out]; exact hin
      have HS1 := hide (filter_snoc (isStop x) fs i f hil HF.out)
      have HS2 := hide (filter_snoc (fun f => !isStop x f) fs i f hil HF.out)
      have HN1 := hide (filter_len (isStop x) fs i)
      have HN2 := hide (filter_len (fun f => !isStop x f) fs i)
      clear hf hc1
      obtain ⟨w0, hw0⟩ : ∃ w0, wr.alloc (.cells #[.int .i64 f.k, .int .i64 f.j, .int .i64 f.t, .int .i64 f.a, .int .i64 f.m, .int .i64 f.r, .int .i64 f.p, .int .u32 (f.q.toNat : Int)] 25) = w0 := ⟨_, rfl⟩
      have HF0 : Hid (FB w0 wr.heap.size f) := by show FB _ _ _; rw [← hw0]; exact FB.new wr f
      have HB0 : Hid (Below wr.heap.size wr w0) := by show Below _ _ _; rw [← hw0]; exact ba (b0 _) _
      obtain ⟨t0, t1, t2, t3, t4, t5, t6, t7⟩ := HF0.out.cells
      go_wp2_with fail
      refine (stop1_any f x c _ ((HC.out.below HB.out).below HB0.out)).mono ?_
      rintro e w1 ⟨rfl, hb1⟩
      have HB1 := hide (below_trans HB0.out hb1)
      obtain ⟨d0, d1, d2, d3, d4, d5, d6, d7⟩ := (HF0.out.below hb1).cells
      have HBW := hide (below_trans HB.out HB1.out)
      have HV1 := hide (HV.out.below HB1.out)
      have HL1 := hide (HLV.out.below HB1.out)
      clear hb1 p0 p1 p2 p3 p4 p5 p6 p7 t0 t1 t2 t3 t4 t5 t6 t7
      generalize hD1 : (fs.take i).filter (isStop x) = D1 at HV1 HS1 HN1
      generalize hD2 : (fs.take i).filter (fun f => !isStop x f) = D2 at HL1 HS2 HN2
      have HD1 := hide hD1
      have HD2 := hide hD2
      clear hD1 hD2
      by_cases hq : isStop x f = true
      · have HQ := hide hq
        rw [HQ.out]
        rw [if_pos hq] at HS1
        rw [if_neg (by rw [hq]; simp)] at HS2
        clear hq
        have HA1 : Hid (At8 (w1.alloc (.cells #[.int .i64 f.k, .int .i64 f.j, .int .i64 f.t, .int .i64 f.a, .int .i64 f.m, .int .i64 f.r, .int .i64 f.p, .int .u32 (f.q.toNat : Int)] 25)) w1.heap.size 0 f) := by
          obtain ⟨e0, e1, e2, e3, e4, e5, e6, e7⟩ := (FB.new w1 f).cells
          exact ⟨e0, e1, e2, e3, e4, e5, e6, e7⟩
        have HV2 : Hid (OwnL (w1.alloc (.cells #[.int .i64 f.k, .int .i64 f.j, .int .i64 f.t, .int .i64 f.a, .int .i64 f.m, .int .i64 f.r, .int .i64 f.p, .int .u32 (f.q.toNat : Int)] 25)) w.heap.size v D1) := HV1.out.below (ba (b0 _) _)
        go_wp2_with (at_builtin; refine pushFl _ rfl _ _ rfl w.heap.size v D1 rfl HV2.out w1.heap.size f rfl HA1.out (by have := HN1.out; omega) (by have := HBW.out.size; simp; omega) ?_
                     intro g5 c5 w2 ho5 hg5 hl5
                     have HO5 := hide ho5
                     have HG5 : Hid (w1.grownBy w2 v.ownBlock) := (World.grownBy_alloc w1 _ _).trans hg5
                     have HP5 : Hid (v.ownBlock = some g5 ∨ w1.heap.size ≤ g5) := hl5.imp id (fun e => by rw [e]; simp)
                     have HZ5 : Hid (w1.heap.size ≤ w2.heap.size) := HG5.out.size
                     clear ho5 hg5 hl5)
        go_roundw
        case rel =>
          refine ⟨i + 1, _, lv, by omega, rfl, rfl, by go_num, ?_, ?_, ?_, ?_⟩
          · show OwnL _ _ _ _
            rw [HS1.out]
            exact HO5.out
          · show OwnL _ _ _ _
            rw [HS2.out]
            exact HL1.out.kept HG5.out (fun j e e2 => HAP.out j e2 e)
          · intro j e e2
            have e3 : g5 = j := Option.some.inj e
            subst e3
            rcases HP5.out with h5 | h5
            · exact HAP.out g5 h5 e2
            · have := (HL1.out.blk g5 e2).2; omega
          · exact HBW.out.grown HG5.out HBW.out.size (fun j e => (HV1.out.blk j e).1)
        case measure => simp [intOf]; omega
      · have HQ : Hid (isStop x f = false) := bool_ff hq
        rw [HQ.out]
        rw [if_neg hq] at HS1
        rw [if_pos (by rw [HQ.out]; rfl)] at HS2
        clear hq
        have HA1 : Hid (At8 (w1.alloc (.cells #[.int .i64 f.k, .int .i64 f.j, .int .i64 f.t, .int .i64 f.a, .int .i64 f.m, .int .i64 f.r, .int .i64 f.p, .int .u32 (f.q.toNat : Int)] 25)) w1.heap.size 0 f) := by
          obtain ⟨e0, e1, e2, e3, e4, e5, e6, e7⟩ := (FB.new w1 f).cells
          exact ⟨e0, e1, e2, e3, e4, e5, e6, e7⟩
        have HV2 : Hid (OwnL (w1.alloc (.cells #[.int .i64 f.k, .int .i64 f.j, .int .i64 f.t, .int .i64 f.a, .int .i64 f.m, .int .i64 f.r, .int .i64 f.p, .int .u32 (f.q.toNat : Int)] 25)) w.heap.size lv D2) := HL1.out.below (ba (b0 _) _)
        go_wp2_with (at_builtin; refine pushFl _ rfl _ _ rfl w.heap.size lv D2 rfl HV2.out w1.heap.size f rfl HA1.out (by have := HN2.out; omega) (by have := HBW.out.size; simp; omega) ?_
                     intro g5 c5 w2 ho5 hg5 hl5
                     have HO5 := hide ho5
                     have HG5 : Hid (w1.grownBy w2 lv.ownBlock) := (World.grownBy_alloc w1 _ _).trans hg5
                     have HP5 : Hid (lv.ownBlock = some g5 ∨ w1.heap.size ≤ g5) := hl5.imp id (fun e => by rw [e]; simp)
                     have HZ5 : Hid (w1.heap.size ≤ w2.heap.size) := HG5.out.size
                     clear ho5 hg5 hl5)
        go_roundw
        case rel =>
          refine ⟨i + 1, v, _, by omega, rfl, rfl, by go_num, ?_, ?_, ?_, ?_⟩
          · show OwnL _ _ _ _
            rw [HS1.out]
            exact HV1.out.kept HG5.out (fun j e e2 => HAP.out j e e2)
          · show OwnL _ _ _ _
            rw [HS2.out]
            exact HO5.out
          · intro j e e2
            have e3 : g5 = j := Option.some.inj e2
            subst e3
            rcases HP5.out with h5 | h5
            · exact HAP.out g5 e h5
            · have := (HV1.out.blk g5 e).2; omega
          · exact HBW.out.grown HG5.out HBW.out.size (fun j e => (HL1.out.blk j e).1)
        case measure => simp [intOf]; omega
    · obtain rfl : i = n := by omega
      have hall : fs.take i = fs := List.take_of_length_le (by rw [HL.out]; exact Nat.le_refl _)
      rw [hall] at HV HLV
      have HP1 := hide (HP.out.below HB.out)
      have e1 := HP1.out.cell
      have e2 := HP1.out.fz
      clear hall
      obtain ⟨ga, gc, rfl, _, _⟩ := HLV.out.shape
      go_wp2_with fail
      go_ret
      refine ⟨_, _, rfl, HV.out.kept (grown_cell (World.grownBy.refl _ _) 0 _) (fun j e e3 => HP1.out.apart HV.out j e (Option.some.inj e3).symm), HLV.out.kept (grown_cell (World.grownBy.refl _ _) 0 _) (fun j e e3 => HP1.out.apart HLV.out j e (Option.some.inj e3).symm), HP1.out.set _, HAP.out, ?_⟩
      exact grown_cell (grown_any (below_grown HB.out) _) 0 _
set_option maxHeartbeats 2000000 in
set_option maxRecDepth 100000 in
theorem take_due (x : P4) (c p lb n cap : Nat) (la : Option Addr) (fs : List Flt) (w : World) (hc : IB w c x) (hp : PlB w p (.slice la n cap)) (ho : OwnL w lb (.slice la n cap) fs) (hn : n ≤ 1048576) :
    Calls Try.prog 39 #[.pointer (some ⟨p, 0, none⟩), .func (.func 42) #[] #[.pointer (some ⟨c, 0, none⟩)]] w fun e w' => ∃ v lv, e = .returned v ∧ OwnL w' w.heap.size v (fs.filter (isDue x)) ∧ OwnL w' w.heap.size lv (fs.filter (fun f => !isDue x f)) ∧ PlB w' p lv ∧ Ap2 v lv ∧ w.grownBy w' (some p) := by
  have HL := hide ho.len.1
  have HR := hide ho.rdl
  have HP := hide hp
  have HC := hide hc
  have hpc := hp.cell
  have hpz := hp.fz
  have hni : (n : Int) ≤ 1048576 := by omega
  clear ho hp hc
  go_enter Try.func39, Try.ntmps39
  go_wp2_with fail
  go_loopw [5, 6, 16] (fun sv sl si wr => ∃ (i : Nat) (v lv : Value), i ≤ n ∧ v = sv ∧ lv = sl ∧ .int .i64 (i : Int) = si ∧ Hid (OwnL wr w.heap.size v ((fs.take i).filter (isDue x))) ∧ Hid (OwnL wr w.heap.size lv ((fs.take i).filter (fun f => !isDue x f))) ∧ Hid (Ap2 v lv) ∧ Hid (Below w.heap.size w wr)) (fun _ _ si _ => n - (intOf si).toNat)
  case atStart => exact ⟨0, _, _, by omega, rfl, rfl, rfl, ownl_none _ _, ownl_none _ _, (fun i e => by cases e), b0 _⟩
  case round =>
    obtain ⟨i, v, lv, hi, rfl, rfl, rfl, HV, HLV, HAP, HB⟩ := hrel
    by_cases hin : i < n
    · have hii : (i : Int) < (n : Int) := by omega
      obtain ⟨b1, o1, rfl, hl1, hc1⟩ := HR.out.2 (by omega)
      obtain ⟨f, hf⟩ : ∃ f, fs.getD i f0 = f := ⟨_, rfl⟩
      obtain ⟨p0, p1, p2, p3, p4, p5, p6, p7⟩ := (hc1 i hin).same (w' := wr) (fun k => HB.out.cell (p := ⟨b1, k, none⟩) hl1)
      rw [hf] at p0 p1 p2 p3 p4 p5 p6 p7
      have HF := hide hf
      have hil : i < fs.length := by rw [← HL.out]; exact hin
      have HS1 := hide (filter_snoc (isDue x) fs i f hil HF.out)
      have HS2 := hide (filter_snoc (fun f => !isDue x f) fs i f hil HF.out)
      have HN1 := hide (filter_len (isDue x) fs i)
      have HN2 := hide (filter_len (fun f => !isDue x f) fs i)
      clear hf hc1
      obtain ⟨w0, hw0⟩ : ∃ w0, wr.alloc (.cells #[.int .i64 f.k, .int .i64 f.j, .int .i64 f.t, .int .i64 f.a, .int .i64 f.m, .int .i64 f.r, .int .i64 f.p, .int .u32 (f.q.toNat : Int)] 25) = w0 := ⟨_, rfl⟩
      have HF0 : Hid (FB w0 wr.heap.size f) := by show FB _ _ _; rw [← hw0]; exact FB.new wr f
      have HB0 : Hid (Below wr.heap.size wr w0) := by show Below _ _ _; rw [← hw0]; exact ba (b0 _) _
      obtain ⟨t0, t1, t2, t3, t4, t5, t6, t7⟩ := HF0.out.cells
      go_wp2_with fail
      refine (due1_any f x c _ ((HC.out.below HB.out).below HB0.out)).mono ?_
      rintro e w1 ⟨rfl, hb1⟩
      have HB1 := hide (below_trans HB0.out hb1)
      obtain ⟨d0, d1, d2, d3, d4, d5, d6, d7⟩ := (HF0.out.below hb1).cells
      have HBW := hide (below_trans HB.out HB1.out)
      have HV1 := hide (HV.out.below HB1.out)
      have HL1 := hide (HLV.out.below HB1.out)
      clear hb1 p0 p1 p2 p3 p4 p5 p6 p7 t0 t1 t2 t3 t4 t5 t6 t7
      generalize hD1 : (fs.take i).filter (isDue x) = D1 at HV1 HS1 HN1
      generalize hD2 : (fs.take i).filter (fun f => !isDue x f) = D2 at HL1 HS2 HN2
      have HD1 := hide hD1
      have HD2 := hide hD2
      clear hD1 hD2
      by_cases hq : isDue x f = true
      · have HQ := hide hq
        rw [HQ.out]
        rw [if_pos hq] at HS1
        rw [if_neg (by rw [hq]; simp)] at HS2
        clear hq
        have HA1 : Hid (At8 (w1.alloc (.cells #[.int .i64 f.k, .int .i64 f.j, .int .i64 f.t, .int .i64 f.a, .int .i64 f.m, .int .i64 f.r, .int .i64 f.p, .int .u32 (f.q.toNat : Int)] 25)) w1.heap.size 0 f) := by
          obtain ⟨e0, e1, e2, e3, e4, e5, e6, e7⟩ := (FB.new w1 f).cells
          exact ⟨e0, e1, e2, e3, e4, e5, e6, e7⟩
        have HV2 : Hid (OwnL (w1.alloc (.cells #[.int .i64 f.k, .int .i64 f.j, .int .i64 f.t, .int .i64 f.a, .int .i64 f.m, .int .i64 f.r, .int .i64 f.p, .int .u32 (f.q.toNat : Int)] 25)) w.heap.size v D1) := HV1.out.below (ba (b0 _) _)
        go_wp2_with (at_builtin; refine pushFl _ rfl _ _ rfl w.heap.size v D1 rfl HV2.out w1.heap.size f rfl HA1.out (by have := HN1.out; omega) (by have := HBW.out.size; simp; omega) ?_
                     intro g5 c5 w2 ho5 hg5 hl5
                     have HO5 := hide ho5
                     have HG5 : Hid (w1.grownBy w2 v.ownBlock) := (World.grownBy_alloc w1 _ _).trans hg5
                     have HP5 : Hid (v.ownBlock = some g5 ∨ w1.heap.size ≤ g5) := hl5.imp id (fun e => by rw [e]; simp)
                     have HZ5 : Hid (w1.heap.size ≤ w2.heap.size) := HG5.out.size
                     clear ho5 hg5 hl5)
        go_roundw
        case rel =>
          refine ⟨i + 1, _, lv, by omega, rfl, rfl, by go_num, ?_, ?_, ?_, ?_⟩
          · show OwnL _ _ _ _
            rw [HS1.out]
            exact HO5.out
          · show OwnL _ _ _ _
            rw [HS2.out]
            exact HL1.out.kept HG5.out (fun j e e2 => HAP.out j e2 e)
          · intro j e e2
            have e3 : g5 = j := Option.some.inj e
            subst e3
            rcases HP5.out with h5 | h5
            · exact HAP.out g5 h5 e2
            · have := (HL1.out.blk g5 e2).2; omega
          · exact HBW.out.grown HG5.out HBW.out.size (fun j e => (HV1.out.blk j e).1)
        case measure => simp [intOf]; omega
      · have HQ : Hid (isDue x f = false) := bool_ff hq
        rw [HQ.out]
        rw [if_neg hq] at HS1
        rw [if_pos (by rw [HQ.out]; rfl)] at HS2
        clear hq
        have HA1 : Hid (At8 (w1.alloc (.cells #[.int .i64 f.k, .int .i64 f.j, .int .i64 f.t, .int .i64 f.a, .int .i64 f.m, .int .i64 f.r, .int .i64 f.p, .int .u32 (f.q.toNat : Int)] 25)) w1.heap.size 0 f) := by
          obtain ⟨e0, e1, e2, e3, e4, e5, e6, e7⟩ := (FB.new w1 f).cells
          exact ⟨e0, e1, e2, e3, e4, e5, e6, e7⟩
        have HV2 : Hid (OwnL (w1.alloc (.cells #[.int .i64 f.k, .int .i64 f.j, .int .i64 f.t, .int .i64 f.a, .int .i64 f.m, .int .i64 f.r, .int .i64 f.p, .int .u32 (f.q.toNat : Int)] 25)) w.heap.size lv D2) := HL1.out.below (ba (b0 _) _)
        go_wp2_with (at_builtin; refine pushFl _ rfl _ _ rfl w.heap.size lv D2 rfl HV2.out w1.heap.size f rfl HA1.out (by have := HN2.out; omega) (by have := HBW.out.size; simp; omega) ?_
                     intro g5 c5 w2 ho5 hg5 hl5
                     have HO5 := hide ho5
                     have HG5 : Hid (w1.grownBy w2 lv.ownBlock) := (World.grownBy_alloc w1 _ _).trans hg5
                     have HP5 : Hid (lv.ownBlock = some g5 ∨ w1.heap.size ≤ g5) := hl5.imp id (fun e => by rw [e]; simp)
                     have HZ5 : Hid (w1.heap.size ≤ w2.heap.size) := HG5.out.size
                     clear ho5 hg5 hl5)
        go_roundw
        case rel =>
          refine ⟨i + 1, v, _, by omega, rfl, rfl, by go_num, ?_, ?_, ?_, ?_⟩
          · show OwnL _ _ _ _
            rw [HS1.out]
            exact HV1.out.kept HG5.out (fun j e e2 => HAP.out j e e2)
          · show OwnL _ _ _ _
            rw [HS2.out]
            exact HO5.out
          · intro j e e2
            have e3 : g5 = j := Option.some.inj e2
            subst e3
            rcases HP5.out with h5 | h5
            · exact HAP.out g5 e h5
            · have := (HV1.out.blk g5 e).2; omega
          · exact HBW.out.grown HG5.out HBW.out.size (fun j e => (HL1.out.blk j e).1)
        case measure => simp [intOf]; omega
    · obtain rfl : i = n := by omega
      have hall : fs.take i = fs := List.take_of_length_le (by rw [HL.out]; exact Nat.le_refl _)
      rw [hall] at HV HLV
      have HP1 := hide (HP.out.below HB.out)
      have e1 := HP1.out.cell
      have e2 := HP1.out.fz
      clear hall
      obtain ⟨ga, gc, rfl, _, _⟩ := HLV.out.shape
      go_wp2_with fail
      go_ret
      refine ⟨_, _, rfl, HV.out.kept (grown_cell (World.grownBy.refl _ _) 0 _) (fun j e e3 => HP1.out.apart HV.out j e (Option.some.inj e3).symm), HLV.out.kept (grown_cell (World.grownBy.refl _ _) 0 _) (fun j e e3 => HP1.out.apart HLV.out j e (Option.some.inj e3).symm), HP1.out.set _, HAP.out, ?_⟩
      exact grown_cell (grown_any (below_grown HB.out) _) 0 _
end Go.Proofs.Ytbmbhcjocgbbpaa.Fa
