/-
  A buffer: its cells, and what its methods do.
-/
import Derived.Test.YtlbplicafcoifaaSoRoom
import Derived.Deep.RegionLaw
import Derived.Deep.RegionWith
namespace Go.Proofs.Ytlbplicafcoifaa.So
open Go.ChangeShapes Go.WideShapes Go.ChangeAt Go.RowKit
open Go.Proofs.Ytlbplicafcoifaa.Base
set_option linter.unusedVariables false
/-- The block b is a buffer: its list, what it costs, its budget. -/
def BF (w : World) (b : Nat) (v : Value) (cost bud : Int) : Prop := w.heap[b]? = some (.cells #[v, .int .i64 cost, .int .i64 bud] 47)
theorem BF.cells {w : World} {b : Nat} {v : Value} {cost bud : Int} (h : BF w b v cost bud) : w.cell? ⟨b, 0, none⟩ = some v ∧ w.cell? ⟨b, 1, none⟩ = some (.int .i64 cost) ∧ w.cell? ⟨b, 2, none⟩ = some (.int .i64 bud) := by
  refine ⟨?_, ?_, ?_⟩ <;> (rw [cell_of_row _ _ _ _ _ _ h]; rfl)
theorem BF.frozen {w : World} {b : Nat} {v : Value} {cost bud : Int} (h : BF w b v cost bud) (k : Nat) : w.frozen? ⟨b, k, none⟩ = false := frozen_of_row _ _ _ _ _ h
theorem BF.lt {w : World} {b : Nat} {v : Value} {cost bud : Int} (h : BF w b v cost bud) : b < w.heap.size := lt_row h
theorem BF.same {w w' : World} {b : Nat} {v : Value} {cost bud : Int} (h : BF w b v cost bud) (e : w'.heap[b]? = w.heap[b]?) : BF w' b v cost bud := by
  unfold BF at h ⊢; rw [e]; exact h
theorem BF.below {w w' : World} {b : Nat} {v : Value} {cost bud : Int} (h : BF w b v cost bud) (hb : Below w.heap.size w w') : BF w' b v cost bud := h.same (hb.block b h.lt)
theorem BF.set0 {w : World} {b : Nat} {v : Value} {cost bud : Int} (h : BF w b v cost bud) (v' : Value) : BF (w.setCell ⟨b, 0, none⟩ v') b v' cost bud := by
  unfold BF; rw [heap_setCell_same _ _ _ _ _ _ h]; rfl
theorem BF.set1 {w : World} {b : Nat} {v : Value} {cost bud : Int} (h : BF w b v cost bud) (c' : Int) : BF (w.setCell ⟨b, 1, none⟩ (.int .i64 c')) b v c' bud := by
  unfold BF; rw [heap_setCell_same _ _ _ _ _ _ h]; rfl
set_option maxRecDepth 100000 in
theorem new_any (bud : Int) (w : World) (h1 : 256 ≤ bud) (h2 : bud ≤ 16777216) :
    Calls Try.prog 4 #[.int .i64 bud] w fun e w' => ∃ b, e = .returned (.tuple #[.pointer (some ⟨b, 0, none⟩), .int .i64 0]) ∧ BF w' b (.slice none 0 0) 0 bud ∧ w.heap.size ≤ b ∧ Below w.heap.size w w' := by
  have h3 : ¬ bud < 256 := by omega
  have h4 : ¬ 16777216 < bud := by omega
  have HB : Hid (BF (w.alloc (.cells #[.slice none 0 0, .int .i64 0, .int .i64 bud] 47)) w.heap.size (.slice none 0 0) 0 bud) := heap_alloc_new _ _
  have HW : Hid (Below w.heap.size w (w.alloc (.cells #[.slice none 0 0, .int .i64 0, .int .i64 bud] 47))) := (Below.refl _ _).alloc (Nat.le_refl _) _
  go_enter Try.func4, Try.ntmps4
  go_wp2_with fail
  go_ret2
  exact ⟨_, rfl, HB.out, Nat.le_refl _, HW.out⟩
set_option maxRecDepth 100000 in
theorem count_any (b : Nat) (a : Option Addr) (n c : Nat) (cost bud : Int) (w : World) (h : BF w b (.slice a n c) cost bud) :
    Calls Try.prog 17 #[.pointer (some ⟨b, 0, none⟩)] w fun e w' => e = .returned (.int .i64 (n : Int)) ∧ w' = w := by
  obtain ⟨c0, c1, c2⟩ := h.cells
  clear h
  go_enter Try.func17, Try.ntmps17
  go_wp2_with fail
  go_ret
  exact ⟨rfl, rfl⟩
set_option maxRecDepth 100000 in
theorem len_any (b : Nat) (a : Option Addr) (n c : Nat) (cost bud : Int) (w : World) (h : BF w b (.slice a n c) cost bud) :
    Calls Try.prog 12 #[.pointer (some ⟨b, 0, none⟩)] w fun e w' => e = .returned (.int .i64 (n : Int)) ∧ w' = w := by
  go_enter Try.func12, Try.ntmps12
  go_wp2_with (go_at_call 17; refine (count_any b a n c cost bud _ h).mono ?_; rintro e w1 ⟨rfl, rfl⟩)
  go_ret
  exact ⟨rfl, rfl⟩
set_option maxRecDepth 100000 in
theorem used_any (b : Nat) (v : Value) (cost bud : Int) (w : World) (h : BF w b v cost bud) :
    Calls Try.prog 14 #[.pointer (some ⟨b, 0, none⟩)] w fun e w' => e = .returned (.int .i64 cost) ∧ w' = w := by
  obtain ⟨c0, c1, c2⟩ := h.cells
  clear h
  go_enter Try.func14, Try.ntmps14
  go_wp2_with fail
  go_ret
  exact ⟨rfl, rfl⟩
/-- append of one record at a step of a region that draws. -/
theorem step_pushR {ops : Array Oper} {o : Oper} {a : Act} {w : World} {K : Act → World → Prop} {Q : Exit → Act → World → Prop} {E : Prop} (hgd : o.guard = none) (s x : Operand)
    (ho : o.op = .call { callee := .builtin .append, args := #[s, x], argTypes := #[38, 38] }) (d : Tmp) (hd : o.dst = some d)
    (base : Nat) (v : Value) (rs : List Rec) (hs : a.eval s = v) (hown : OwnR w base v rs) (g0 : Nat) (r : Rec) (hx : a.eval x = .slice (some ⟨g0, 0, none⟩) 1 1)
    (hr : RB w g0 r) (hl : (rs.length + 1) * 40 ≤ 140737488355328) (hbase : base ≤ w.heap.size)
    (h : ∀ g cap w', OwnR w' base (.slice (some ⟨g, 0, none⟩) (rs.length + 1) cap) (rs ++ [r]) → w.grownBy w' v.ownBlock → (v.ownBlock = some g ∨ g = w.heap.size) → K (a.put (some d) (.slice (some ⟨g, 0, none⟩) (rs.length + 1) cap)) w') :
    if Region.wanted o (yielded ops a.tmps) = true then Oper.wp Try.prog o a w K Q else E := by
  obtain ⟨i0, hi, hz0, hz1, hz2⟩ := info_rec
  refine step_append_lies w hgd s x 38 ho base 34 i0 _ 3 40 Try.underlying38 hi hz0 hz1 hz2 rfl (by omega) v rs.length (rvals rs) hs hown ⟨g0, 0, none⟩ 1 1 (rvals [r]) hx (by rw [length_rvals]; rfl) (fun j u hu => (rdr_one hr).cellsAt j u hu) (rvals_one _) (by omega) (by unfold maxLen; omega) hl hbase w.heap.size rfl ?_
  intro g cap w' h1 h2 h3 _
  rw [hd]
  exact h g cap w' (by unfold OwnR; rw [List.length_append, rvals_append]; exact h1) h2 h3
set_option maxHeartbeats 4000000 in
set_option maxRecDepth 100000 in
theorem keep_any (b base : Nat) (v : Value) (rs : List Rec) (r : Rec) (cost bud : Int) (w : World) (h : BF w b v cost bud) (ho : OwnR w base v rs) (hb : b < base) (hbase : base ≤ w.heap.size) (hk : r.k.size ≤ 140737488355328) (hv : r.v.size ≤ 140737488355328) (hl : (rs.length + 1) * 40 ≤ 140737488355328) (hc0 : 0 ≤ cost) (hc1 : cost ≤ 2305843009213693952) :
    Calls Try.prog 19 #[.pointer (some ⟨b, 0, none⟩), r.val] w fun e w' => e = .returned (.tuple #[]) ∧ ∃ g c, BF w' b (.slice (some ⟨g, 0, none⟩) (rs.length + 1) c) (cost + costR r) bud ∧ OwnR w' base (.slice (some ⟨g, 0, none⟩) (rs.length + 1) c) (rs ++ [r]) ∧ Kept2 w w' (some b) v.ownBlock ∧ (v.ownBlock = some g ∨ w.heap.size ≤ g) := by
  have HOW := hide (fun W => owned_any r W (by omega) (by omega))
  have HCO := hide (fun W => cost_any r W hk hv)
  have HCB : Hid (0 ≤ costR r ∧ costR r ≤ 562949953421312) := by unfold costR; exact ⟨by omega, by omega⟩
  obtain ⟨a, c, rfl, hac⟩ := own_shape ho
  have HBF := hide h
  have HO := hide ho
  have HNB : Hid (∀ j, (Value.slice a rs.length c).ownBlock = some j → j ≠ b) := fun j e => by have := (ho.blk j e).1; omega
  clear h ho
  obtain ⟨gb, hgb⟩ : ∃ gb, w.heap.size = gb := ⟨_, rfl⟩
  obtain ⟨w1, hw1⟩ : ∃ w1, w.alloc (.cells #[.int .i64 r.p, .string r.k, .string r.v] 34) = w1 := ⟨_, rfl⟩
  have HB1 : Hid (Below w.heap.size w w1) := by rw [← hw1]; exact (Below.refl _ _).alloc (Nat.le_refl _) _
  have HR1 : Hid (RB w1 gb r) := by rw [← hw1, ← hgb]; exact heap_alloc_new _ _
  have HF1 := hide (HBF.out.below HB1.out)
  have HO1 := hide (HO.out.below HB1.out)
  obtain ⟨p0, p1, p2⟩ := HF1.out.cells
  obtain ⟨q0, q1, q2⟩ := HR1.out.cells
  obtain ⟨co, hco⟩ : ∃ co, costR r = co := ⟨_, rfl⟩
  rw [hco] at HCO HCB ⊢
  unfold Rec.val at HOW HCO ⊢
  obtain ⟨hco0, hco1⟩ := HCB.out
  have hwc : IntKind.i64.wrap (cost + co) = cost + co := by rw [IntKind.wrap_i64]; omega
  clear hco
  go_enter Try.func19, Try.ntmps19
  go_wp2_with fail
  go_region_law (first
    | (refine step_pushR rfl (.tmp 8) (.tmp 11) rfl 12 rfl base (.slice a rs.length c) rs (by first | rfl | (simp [Act.eval]; done)) HO3.out g3 r (by first | rfl | (simp [Act.eval]; done)) HX3.out hl (by have := HW3.out.size; omega) ?_
       intro g4 c4 w4 ho4 hg4 hv4
       have HF4 : Hid (BF w4 b (.slice a rs.length c) cost bud) := HF3.out.same (hg4.block b HF3.out.lt (fun e => HNB.out b e.symm rfl))
       have HO4 := hide ho4
       have HG4 := hide hg4
       have HV4 := hide hv4
       clear ho4 hg4 hv4
       obtain ⟨i0, i1, i2⟩ := HF4.out.cells
       have f0 := HF4.out.frozen 0)
    | (go_simp; refine (HOW.out _).mono ?_; rintro e w2 ⟨rfl, hb2⟩
       have HB2 := hide (below_trans ((Below.refl _ _).drew) hb2 : Below w1.heap.size w1 w2)
       clear hb2
       have HF2 := hide (HF1.out.below HB2.out)
       have HO2 := hide (HO1.out.below HB2.out)
       have HR2 := hide (HR1.out.below HB2.out)
       obtain ⟨a0, a1, a2⟩ := HF2.out.cells
       obtain ⟨g3, hg3⟩ : ∃ g, w2.heap.size = g := ⟨_, rfl⟩
       obtain ⟨w3, hw3⟩ : ∃ w3, w2.alloc (.cells #[.int .i64 r.p, .string r.k, .string r.v] 34) = w3 := ⟨_, rfl⟩
       have HB3 : Hid (Below w2.heap.size w2 w3) := by rw [← hw3]; exact (Below.refl _ _).alloc (Nat.le_refl _) _
       have HX3 : Hid (RB w3 g3 r) := by rw [← hw3, ← hg3]; exact heap_alloc_new _ _
       have HF3 := hide (HF2.out.below HB3.out)
       have HO3 := hide (HO2.out.below HB3.out)
       have HR3 := hide (HR2.out.below HB3.out)
       have HW3 := hide (below_trans (below_trans HB1.out HB2.out) HB3.out)
       obtain ⟨e0, e1, e2⟩ := HF3.out.cells))
  all_goals
    obtain ⟨w5, hw5⟩ : ∃ w5, w4.setCell ⟨b, 0, none⟩ (.slice (some ⟨g4, 0, none⟩) (rs.length + 1) c4) = w5 := ⟨_, rfl⟩
    have HF5 : Hid (BF w5 b (.slice (some ⟨g4, 0, none⟩) (rs.length + 1) c4) cost bud) := by rw [← hw5]; exact HF4.out.set0 _
    have HR4 : Hid (RB w4 gb r) := by
      have h1 := HR3.out
      show _ = _
      rw [HG4.out.block gb (lt_row h1) (fun e => by have h2 := (HO.out.blk gb e.symm).2; omega)]
      exact h1
    have HR5 : Hid (RB w5 gb r) := by rw [← hw5]; exact rb_far HR4.out (by omega)
    have HO5 : Hid (OwnR w5 base (.slice (some ⟨g4, 0, none⟩) (rs.length + 1) c4) (rs ++ [r])) := by
      rw [← hw5]
      exact HO4.out.same (fun j e => Below.heap_setCell _ _ _ _ (by have h1 := (HO4.out.blk j e).1; simp; omega))
    have HK5 : Hid (Kept2 w w5 (some b) (Value.slice a rs.length c).ownBlock) := by
      rw [← hw5]
      exact (((Kept2.refl w _ _).grown (below_grown HW3.out) (fun i e => by cases e)).grown HG4.out (fun i e => .inr (.inl rfl))).grown (grown_cell (World.grownBy.refl _ _) _ _) (fun i e => .inl rfl)
    rw [hw5]
    obtain ⟨u0, u1, u2⟩ := HF5.out.cells
    obtain ⟨s0, s1, s2⟩ := HR5.out.cells
    clear HF4 HR4 HO4 HG4 HF3 HO3 HR3 HX3 i0 i1 i2 f0
    go_wp2_with fail
    go_region_with (go_at_call 18; refine (HCO.out _).mono ?_; rintro e w6 ⟨rfl, hb6⟩; have hbw : Below w5.heap.size w5 w6 := below_trans ((Below.refl _ _).drew) hb6; have HB6 := hide hbw; have HF6 := hide (HF5.out.below hbw); obtain ⟨x0, x1, x2⟩ := HF6.out.cells; have y1 := HF6.out.frozen 1; clear hb6 hbw)
    all_goals
      go_wp2_with fail
      refine bodyPost_end (results_none rfl _ _ _) rfl ?_
      refine ⟨rfl, g4, c4, HF6.out.set1 _, ?_, ?_, ?_⟩
      · exact (HO5.out.below HB6.out).same (fun j e => Below.heap_setCell _ _ _ _ (by have h1 := (HO5.out.blk j e).1; simp; omega))
      · exact (HK5.out.grown (below_grown HB6.out) (fun i e => by cases e)).grown (grown_cell (World.grownBy.refl _ _) _ _) (fun i e => .inl rfl)
      · rcases HV4.out with q | q
        · exact .inl q
        · right; have h1 := HW3.out.size; omega
end Go.Proofs.Ytlbplicafcoifaa.So
