/-
  The document's own buffer; the methods of both on a nil pointer; budgets that are refused.
-/
import Derived.Test.YtlbplicafcoifaaSoAdd
import Derived.Test.YtlbplicafcoifaaSoTake
import Derived.Test.YtlbplicafcoifaaSortBoundsWalk
namespace Go.Proofs.Ytlbplicafcoifaa.So
open Go.ChangeShapes Go.WideShapes Go.ChangeAt Go.RowKit
open Go.Proofs.Ytlbplicafcoifaa.Base
set_option linter.unusedVariables false
/-- The block b is the document's buffer: its list, what it may cost. -/
def QF (w : World) (b : Nat) (v : Value) (most : Int) : Prop := w.heap[b]? = some (.cells #[v, .int .i64 most] 49)
theorem QF.cells {w : World} {b : Nat} {v : Value} {most : Int} (h : QF w b v most) : w.cell? ⟨b, 0, none⟩ = some v ∧ w.cell? ⟨b, 1, none⟩ = some (.int .i64 most) := by
  refine ⟨?_, ?_⟩ <;> (rw [cell_of_row _ _ _ _ _ _ h]; rfl)
theorem QF.frozen {w : World} {b : Nat} {v : Value} {most : Int} (h : QF w b v most) (k : Nat) : w.frozen? ⟨b, k, none⟩ = false := frozen_of_row _ _ _ _ _ h
theorem QF.lt {w : World} {b : Nat} {v : Value} {most : Int} (h : QF w b v most) : b < w.heap.size := lt_row h
theorem QF.same {w w' : World} {b : Nat} {v : Value} {most : Int} (h : QF w b v most) (e : w'.heap[b]? = w.heap[b]?) : QF w' b v most := by
  unfold QF at h ⊢; rw [e]; exact h
theorem QF.below {w w' : World} {b : Nat} {v : Value} {most : Int} (h : QF w b v most) (hb : Below w.heap.size w w') : QF w' b v most := h.same (hb.block b h.lt)
theorem QF.set0 {w : World} {b : Nat} {v : Value} {most : Int} (h : QF w b v most) (v' : Value) : QF (w.setCell ⟨b, 0, none⟩ v') b v' most := by
  unfold QF; rw [heap_setCell_same _ _ _ _ _ _ h]; rfl
set_option maxRecDepth 100000 in
theorem rnew_any (bud : Int) (w : World) (h1 : 256 ≤ bud) (h2 : bud ≤ 16777216) :
    Calls Try.prog 5 #[.int .i64 bud] w fun e w' => ∃ b, e = .returned (.tuple #[.pointer (some ⟨b, 0, none⟩), .int .i64 0]) ∧ QF w' b (.slice none 0 0) bud ∧ w.heap.size ≤ b ∧ Below w.heap.size w w' := by
  have h3 : ¬ bud < 256 := by omega
  have h4 : ¬ 16777216 < bud := by omega
  have HB : Hid (QF (w.alloc (.cells #[.slice none 0 0, .int .i64 bud] 49)) w.heap.size (.slice none 0 0) bud) := heap_alloc_new _ _
  have HW : Hid (Below w.heap.size w (w.alloc (.cells #[.slice none 0 0, .int .i64 bud] 49))) := (Below.refl _ _).alloc (Nat.le_refl _) _
  go_enter Try.func5, Try.ntmps5
  go_wp2_with fail
  go_ret2
  exact ⟨_, rfl, HB.out, Nat.le_refl _, HW.out⟩
set_option maxRecDepth 100000 in
theorem rnew_bad (bud : Int) (w : World) (h : bud < 256 ∨ 16777216 < bud) :
    Calls Try.prog 5 #[.int .i64 bud] w fun e w' => e = .returned (.tuple #[.pointer none, .int .i64 3]) ∧ w' = w := by
  by_cases h1 : bud < 256
  · go_enter Try.func5, Try.ntmps5
    go_wp2_with fail
    go_ret2
    exact ⟨rfl, rfl⟩
  · have h2 : 16777216 < bud := by omega
    go_enter Try.func5, Try.ntmps5
    go_wp2_with fail
    go_ret2
    exact ⟨rfl, rfl⟩
set_option maxRecDepth 100000 in
theorem new_bad (bud : Int) (w : World) (h : bud < 256 ∨ 16777216 < bud) :
    Calls Try.prog 4 #[.int .i64 bud] w fun e w' => e = .returned (.tuple #[.pointer none, .int .i64 3]) ∧ w' = w := by
  by_cases h1 : bud < 256
  · go_enter Try.func4, Try.ntmps4
    go_wp2_with fail
    go_ret2
    exact ⟨rfl, rfl⟩
  · have h2 : 16777216 < bud := by omega
    go_enter Try.func4, Try.ntmps4
    go_wp2_with fail
    go_ret2
    exact ⟨rfl, rfl⟩
theorem len_nil (w : World) : Calls Try.prog 12 #[.pointer none] w fun e w' => e = .returned (.int .i64 0) ∧ w' = w := by
  go_enter Try.func12, Try.ntmps12
  go_wp2_with fail
  go_ret
  exact ⟨rfl, rfl⟩
theorem used_nil (w : World) : Calls Try.prog 14 #[.pointer none] w fun e w' => e = .returned (.int .i64 0) ∧ w' = w := by
  go_enter Try.func14, Try.ntmps14
  go_wp2_with fail
  go_ret
  exact ⟨rfl, rfl⟩
theorem take_nil (w : World) : Calls Try.prog 8 #[.pointer none] w fun e w' => e = .returned (.slice none 0 0) ∧ w' = w := by
  go_enter Try.func8, Try.ntmps8
  go_wp2_with fail
  go_ret
  exact ⟨rfl, rfl⟩
theorem add_nil (r : Rec) (w : World) : Calls Try.prog 6 #[.pointer none, r.val] w fun e w' => e = .returned (.int .i64 1) ∧ Below w.heap.size w w' := by
  have HB : Hid (Below w.heap.size w (w.alloc (.cells #[.int .i64 r.p, .string r.k, .string r.v] 34))) := (Below.refl _ _).alloc (Nat.le_refl _) _
  unfold Rec.val
  go_enter Try.func6, Try.ntmps6
  go_wp2_with fail
  go_ret
  exact ⟨rfl, HB.out⟩
theorem rlen_nil (w : World) : Calls Try.prog 13 #[.pointer none] w fun e w' => e = .returned (.int .i64 0) ∧ w' = w := by
  go_enter Try.func13, Try.ntmps13
  go_wp2_with fail
  go_ret
  exact ⟨rfl, rfl⟩
theorem rused_nil (w : World) : Calls Try.prog 15 #[.pointer none] w fun e w' => e = .returned (.int .i64 0) ∧ w' = w := by
  go_enter Try.func15, Try.ntmps15
  go_wp2_with fail
  go_ret
  exact ⟨rfl, rfl⟩
theorem rtake_nil (w : World) : Calls Try.prog 10 #[.pointer none] w fun e w' => e = .returned (.slice none 0 0) ∧ w' = w := by
  go_enter Try.func10, Try.ntmps10
  go_wp2_with fail
  go_ret
  exact ⟨rfl, rfl⟩
theorem radd_nil (r : Rec) (w : World) : Calls Try.prog 7 #[.pointer none, r.val] w fun e w' => e = .returned (.int .i64 1) ∧ Below w.heap.size w w' := by
  have HB : Hid (Below w.heap.size w (w.alloc (.cells #[.int .i64 r.p, .string r.k, .string r.v] 34))) := (Below.refl _ _).alloc (Nat.le_refl _) _
  unfold Rec.val
  go_enter Try.func7, Try.ntmps7
  go_wp2_with fail
  go_ret
  exact ⟨rfl, HB.out⟩
set_option maxRecDepth 100000 in
theorem rlen_any (b : Nat) (a : Option Addr) (n c : Nat) (most : Int) (w : World) (h : QF w b (.slice a n c) most) :
    Calls Try.prog 13 #[.pointer (some ⟨b, 0, none⟩)] w fun e w' => e = .returned (.int .i64 (n : Int)) ∧ w' = w := by
  obtain ⟨c0, c1⟩ := h.cells
  clear h
  go_enter Try.func13, Try.ntmps13
  go_wp2_with fail
  go_ret
  exact ⟨rfl, rfl⟩
theorem sumC_nonneg (P : List Rec) : 0 ≤ sumC P := by
  induction P with
  | nil => rw [sumC_nil]; omega
  | cons r P ih =>
    have : sumC (r :: P) = costR r + sumC P := by unfold sumC; simp
    have h2 : 0 ≤ costR r := by unfold costR; omega
    omega
theorem sumC_split (P : List Rec) (i : Nat) : sumC P = sumC (P.take i) + sumC (P.drop i) := by
  conv => lhs; rw [← List.take_append_drop i P]
  unfold sumC
  rw [List.map_append, List.sum_append]
theorem sumC_take (P : List Rec) (i : Nat) (h : i < P.length) : sumC (P.take (i + 1)) = sumC (P.take i) + costR (P.getD i rec0) := by
  rw [take_snoc P i h, sumC_snoc]
set_option maxHeartbeats 1000000 in
set_option maxRecDepth 100000 in
theorem rused_any (b base : Nat) (v : Value) (rs : List Rec) (most : Int) (w : World) (h : QF w b v most) (ho : OwnR w base v rs) (hF : Fit rs) (hs : sumC rs ≤ 4611686018427387904) :
    Calls Try.prog 15 #[.pointer (some ⟨b, 0, none⟩)] w fun e w' => e = .returned (.int .i64 (sumC rs)) ∧ Below w.heap.size w w' := by
  obtain ⟨a, c, hv, hac⟩ := own_shape ho
  subst hv
  have HQ := hide h
  have HR := hide (own_rdr ho)
  have HF := hide hF
  obtain ⟨n, hn⟩ : ∃ n, rs.length = n := ⟨_, rfl⟩
  rw [hn] at HQ HR
  have HN := hide hn
  have hcn : n ≤ 9223372036854775807 := by
    rcases ho.2 with ⟨_, q⟩ | ⟨_, _, _, _, _, _, q1, q2, _⟩
    · omega
    · unfold maxLen at q2; omega
  clear h ho hF hn hac
  go_enter Try.func15, Try.ntmps15
  go_wp2_with fail
  go_loopw [3, 4] (fun s3 s4 wr => ∃ i : Nat, .int .i64 (sumC (rs.take i)) = s3 ∧ .int .i64 (i : Int) = s4 ∧ i ≤ n ∧ Hid (Below w.heap.size w wr)) (fun _ s4 _ => n - (intOf s4).toNat)
  case atStart => exact ⟨0, rfl, rfl, by omega, Below.refl _ _⟩
  case round =>
    obtain ⟨i, rfl, rfl, hi, HB⟩ := hrel
    obtain ⟨c0, c1⟩ := (HQ.out.below HB.out).cells
    by_cases hin : i < n
    · have hii : (i : Int) < (n : Int) := by omega
      obtain ⟨b1, o1, rfl, hl1, hc1⟩ := HR.out.2 (by omega)
      obtain ⟨e0, e1, e2⟩ := hc1 i hin
      have p0 := (HB.out.cell (p := ⟨b1, o1 + i * 3, none⟩) hl1).trans e0
      have p1 := (HB.out.cell (p := ⟨b1, o1 + i * 3 + 1, none⟩) hl1).trans e1
      have p2 := (HB.out.cell (p := ⟨b1, o1 + i * 3 + 2, none⟩) hl1).trans e2
      have HCO := hide (fun W => refCost_any (rs.getD i rec0) W (HF.out.getD i).1 (HF.out.getD i).2)
      have HNX := hide (sumC_take rs i (by rw [HN.out]; exact hin))
      have h1 := sumC_nonneg (rs.take i)
      have h2 := sumC_split rs (i + 1)
      have h3 := sumC_nonneg (rs.drop (i + 1))
      rw [HNX.out] at h2
      have hwc : IntKind.i64.wrap (sumC (rs.take i) + costR (rs.getD i rec0)) = sumC (rs.take i) + costR (rs.getD i rec0) := by
        have h4 : 0 ≤ costR (rs.getD i rec0) := by unfold costR; omega
        rw [IntKind.wrap_i64]; omega
      clear h1 h2 h3 e0 e1 e2 hc1
      generalize costR (rs.getD i rec0) = co at HCO HNX hwc
      generalize sumC (rs.take i) = sm at HNX hwc ⊢
      unfold Rec.val at HCO
      generalize rs.getD i rec0 = x at p0 p1 p2 HCO
      go_wp2_with (go_at_call 20; refine (HCO.out _).mono ?_; rintro e w4 ⟨rfl, hb4⟩; have HB4 := hide (below_trans HB.out hb4); clear hb4)
      go_roundw
      case rel => exact ⟨i + 1, (by rw [HNX.out]), by go_num, by omega, HB4⟩
      case measure => simp [intOf]; omega
    · obtain rfl : i = n := by omega
      go_wp2_with fail
      go_ret
      exact ⟨ret_int (by rw [List.take_of_length_le (by rw [HN.out]; exact Nat.le_refl _)]), HB.out⟩
set_option maxHeartbeats 1000000 in
set_option maxRecDepth 100000 in
theorem rtake_any (b base : Nat) (v : Value) (rs : List Rec) (most : Int) (w : World) (h : QF w b v most) (ho : OwnR w base v rs) (hb : b < base) (hbase : base ≤ w.heap.size) (hl : rs.length * 40 ≤ 140737488355328) :
    Calls Try.prog 10 #[.pointer (some ⟨b, 0, none⟩)] w fun e w' => ∃ v', e = .returned v' ∧ OwnR w' base v' (isort rs) ∧ QF w' b (.slice none 0 0) most ∧ Kept2 w w' (some b) none := by
  obtain ⟨a, c, hv, hac⟩ := own_shape ho
  subst hv
  have HQ := hide h
  obtain ⟨c0, c1⟩ := h.cells
  have HS := hide (refSort_any a rs.length c rs w (own_rdr ho) hl)
  clear h ho
  go_enter Try.func10, Try.ntmps10
  go_wp2_with fail
  refine HS.out.mono ?_
  rintro e w1 ⟨v1, rfl, ho1, hb1⟩
  have HQ1 := hide (HQ.out.below hb1)
  have HO1 := hide ho1
  have HB1 := hide hb1
  clear ho1 hb1 c0 c1
  obtain ⟨d0, d1⟩ := HQ1.out.cells
  have f0 := HQ1.out.frozen 0
  go_wp2_with fail
  go_ret
  refine ⟨_, rfl, ?_, HQ1.out.set0 _, ?_⟩
  · exact (HO1.out.base hbase).same (fun j e => Below.heap_setCell _ _ _ _ (by have h1 := (HO1.out.blk j e).1; simp; omega))
  · exact ((Kept2.refl w _ _).grown (below_grown HB1.out) (fun i e => by cases e)).grown (grown_cell (World.grownBy.refl _ _) _ _) (fun i e => .inl rfl)
end Go.Proofs.Ytlbplicafcoifaa.So
