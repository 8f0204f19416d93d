/-
  Add and Take.
-/
import Derived.Test.YtlbplicafcoifaaSoBuf
namespace Go.Proofs.Ytlbplicafcoifaa.So
open Go.ChangeShapes Go.WideShapes Go.ChangeAt Go.RowKit
open Go.Proofs.Ytlbplicafcoifaa.Base
set_option linter.unusedVariables false
/-- The six cells that Add looks at. -/
def six (V : World) (b gb : Nat) (v : Value) (cost bud : Int) (r : Rec) : Prop := (V.cell? ⟨b, 0, none⟩ = some v ∧ V.cell? ⟨b, 1, none⟩ = some (.int .i64 cost) ∧ V.cell? ⟨b, 2, none⟩ = some (.int .i64 bud)) ∧ V.cell? ⟨gb, 0, none⟩ = some (.int .i64 r.p) ∧ V.cell? ⟨gb, 1, none⟩ = some (.string r.k) ∧ V.cell? ⟨gb, 2, none⟩ = some (.string r.v)
set_option maxHeartbeats 4000000 in
set_option maxRecDepth 100000 in
theorem add_any (b base : Nat) (v : Value) (rs : List Rec) (r : Rec) (cost bud : Int) (w : World) (h : BF w b v cost bud) (ho : OwnR w base v rs) (hb : b < base) (hbase : base ≤ w.heap.size) (hk : r.k.size ≤ 140737488355328) (hv : r.v.size ≤ 140737488355328) (hl : (rs.length + 1) * 40 ≤ 140737488355328) (hc0 : 0 ≤ cost) (hc1 : cost ≤ 2305843009213693952) :
    Calls Try.prog 6 #[.pointer (some ⟨b, 0, none⟩), r.val] w fun e w' =>
      (0 < rs.length ∧ bud < cost + costR r ∧ e = .returned (.int .i64 62) ∧ Below w.heap.size w w') ∨
      ((rs.length = 0 ∨ cost + costR r ≤ bud) ∧ e = .returned (.int .i64 0) ∧ ∃ g c, BF w' b (.slice (some ⟨g, 0, none⟩) (rs.length + 1) c) (cost + costR r) bud ∧ OwnR w' base (.slice (some ⟨g, 0, none⟩) (rs.length + 1) c) (rs ++ [r]) ∧ Kept2 w w' (some b) v.ownBlock ∧ (v.ownBlock = some g ∨ w.heap.size ≤ g)) := by
  have HKE := hide (fun W (h1 : BF W b v cost bud) (h2 : OwnR W base v rs) (h3 : base ≤ W.heap.size) => keep_any b base v rs r cost bud W h1 h2 hb h3 hk hv hl hc0 hc1)
  have HCO := hide (fun W => cost_any r W hk hv)
  have HCB : Hid (0 ≤ costR r ∧ costR r ≤ 562949953421312) := by unfold costR; exact ⟨by omega, by omega⟩
  obtain ⟨a, c, rfl, hac⟩ := own_shape ho
  have HO := hide ho
  clear ho
  have HCT := hide (fun W (h1 : BF W b (.slice a rs.length c) cost bud) => count_any b a rs.length c cost bud W h1)
  obtain ⟨gb, hgb⟩ : ∃ gb, w.heap.size = gb := ⟨_, rfl⟩
  obtain ⟨w1, hw1⟩ : ∃ w1, w.alloc (.cells #[.int .i64 r.p, .string r.k, .string r.v] 34) = w1 := ⟨_, rfl⟩
  have HB1 : Hid (Below w.heap.size w w1) := by rw [← hw1]; exact (Below.refl _ _).alloc (Nat.le_refl _) _
  have HR1 : Hid (RB w1 gb r) := by rw [← hw1, ← hgb]; exact heap_alloc_new _ _
  have HF1 := hide (h.below HB1.out)
  have HO1 := hide (HO.out.below HB1.out)
  have HSIX : Hid (∀ V, Below w1.heap.size w1 V → (V.cell? ⟨b, 0, none⟩ = some (.slice a rs.length c) ∧ V.cell? ⟨b, 1, none⟩ = some (.int .i64 cost) ∧ V.cell? ⟨b, 2, none⟩ = some (.int .i64 bud)) ∧ V.cell? ⟨gb, 0, none⟩ = some (.int .i64 r.p) ∧ V.cell? ⟨gb, 1, none⟩ = some (.string r.k) ∧ V.cell? ⟨gb, 2, none⟩ = some (.string r.v)) := fun V hV => ⟨(HF1.out.below hV).cells, (HR1.out.below hV).cells⟩
  obtain ⟨⟨p0, p1, p2⟩, q0, q1, q2⟩ := HSIX.out w1 (Below.refl _ _)
  obtain ⟨co, hco⟩ : ∃ co, costR r = co := ⟨_, rfl⟩
  rw [hco] at HCO HCB HKE ⊢
  unfold Rec.val at HCO HKE ⊢
  obtain ⟨hco0, hco1⟩ := HCB.out
  have hwc : IntKind.i64.wrap (cost + co) = cost + co := by rw [IntKind.wrap_i64]; omega
  have B0 : Hid (Below w1.heap.size w1 w1.drew) := (Below.refl _ _).drew
  clear hco h
  go_enter Try.func6, Try.ntmps6
  go_upto_region 3 with fail
  go_cut [26] from 5 to 31 (fun s26 wx => ∃ tk : Bool, .bool tk = s26 ∧ Hid (tk = true → 0 < rs.length ∧ bud < cost + co) ∧ Hid (tk = false → rs.length = 0 ∨ cost + co ≤ bud) ∧ Hid (Below w1.heap.size w1 wx))
  case first =>
    by_cases hL0 : 0 < rs.length
    · have hLi : (0 : Int) < (rs.length : Int) := by omega
      have hLd : decide ((0 : Int) < (rs.length : Int)) = true := by simpa using hLi
      by_cases hbd : bud < cost + co
      · first | (go_region_held_law (fun V => (V.cell? ⟨b, 0, none⟩ = some (.slice a rs.length c) ∧ V.cell? ⟨b, 1, none⟩ = some (.int .i64 cost) ∧ V.cell? ⟨b, 2, none⟩ = some (.int .i64 bud)) ∧ V.cell? ⟨gb, 0, none⟩ = some (.int .i64 r.p) ∧ V.cell? ⟨gb, 1, none⟩ = some (.string r.k) ∧ V.cell? ⟨gb, 2, none⟩ = some (.string r.v)) (first | exact HSIX.out _ B6.out | exact HSIX.out _ B0.out | go_keep) (first
          | (go_at_call 17; refine (HCT.out _ (HF1.out.below B0.out)).mono ?_; rintro e w5 ⟨rfl, rfl⟩)
          | (go_at_call 18; refine (HCO.out _).mono ?_; rintro e w6 ⟨rfl, hb6⟩; have B6 := hide (below_trans B0.out hb6); clear hb6))) | fail
        all_goals
          go_wp2_with fail
          go_meet
          case rel => exact ⟨true, rfl, (fun _ => ⟨hL0, hbd⟩), (fun h => nomatch h), B6.out⟩
      · first | (go_region_held_law (fun V => (V.cell? ⟨b, 0, none⟩ = some (.slice a rs.length c) ∧ V.cell? ⟨b, 1, none⟩ = some (.int .i64 cost) ∧ V.cell? ⟨b, 2, none⟩ = some (.int .i64 bud)) ∧ V.cell? ⟨gb, 0, none⟩ = some (.int .i64 r.p) ∧ V.cell? ⟨gb, 1, none⟩ = some (.string r.k) ∧ V.cell? ⟨gb, 2, none⟩ = some (.string r.v)) (first | exact HSIX.out _ B6.out | exact HSIX.out _ B0.out | go_keep) (first
          | (go_at_call 17; refine (HCT.out _ (HF1.out.below B0.out)).mono ?_; rintro e w5 ⟨rfl, rfl⟩)
          | (go_at_call 18; refine (HCO.out _).mono ?_; rintro e w6 ⟨rfl, hb6⟩; have B6 := hide (below_trans B0.out hb6); clear hb6))) | fail
        all_goals
          have hbd2 : decide (bud < cost + co) = false := by rw [decide_eq_false_iff_not]; omega
          go_wp2_with fail
          go_meet
          case rel => exact ⟨false, (by first | rfl | rw [hbd2]), (fun h => nomatch h), (fun _ => .inr (by omega)), B6.out⟩
    · obtain rfl : rs = [] := List.length_eq_zero_iff.1 (by omega)
      go_quiet ((go_at_call 17; exact Calls.quiet_of_same (HCT.out _ (HF1.out.below (below_drewN' _ _ _)))))
      go_wp2_with fail
      go_meet
      case rel => exact ⟨false, rfl, (fun h => nomatch h), (fun _ => .inl (by first | rfl | trivial)), below_drewN' _ _ _⟩
  case rest =>
    obtain ⟨tk, rfl, HT1, HT2, HBX⟩ := hcut
    have HWX := hide (below_trans HB1.out HBX.out)
    cases tk with
    | true =>
      have HT := hide (HT1.out rfl)
      go_wp2_with fail
      go_ret
      refine .inl ⟨HT.out.1, HT.out.2, rfl, ?_⟩
      first | exact HWX.out | (rw [← hgb]; exact HWX.out)
    | false =>
      have HT := hide (HT2.out rfl)
      have HFC := hide (HF1.out.below HBX.out)
      have HOC := hide (HO1.out.below HBX.out)
      have HRC := hide (HR1.out.below HBX.out)
      obtain ⟨r0, r1, r2⟩ := HRC.out.cells
      have B1 : Hid (Below wc.heap.size wc wc.drew) := (Below.refl _ _).drew
      have HKC := hide (HKE.out wc.drew (HFC.out.below B1.out) (HOC.out.below B1.out) (by have h1 := B1.out.size; have h2 := HWX.out.size; omega))
      go_wp2_with fail
      go_region_with (go_at_call 19; refine HKC.out.mono ?_; rintro e w7 ⟨rfl, g7, c7, hf7, ho7, hk7, hv7⟩; have HF7 := hide hf7; have HO7 := hide ho7; have HK7 := hide hk7; have HV7 := hide hv7; clear hf7 ho7 hk7 hv7)
      all_goals
        go_wp2_with fail
        go_ret
        refine .inr ⟨HT.out, rfl, g7, c7, HF7.out, HO7.out, ?_, ?_⟩
        · have h1 := HK7.out
          have h2 := B1.out
          have h3 := HWX.out
          exact ⟨h1.os.trans (h2.os.trans h3.os), h1.tape.trans (h2.tape.trans h3.tape), h1.output.trans (h2.output.trans h3.output), Nat.le_trans h3.size (Nat.le_trans h2.size h1.size), fun i hi e1 e2 => (h1.block i (by have := h3.size; have := h2.size; omega) e1 e2).trans ((h2.block i (by have := h3.size; omega)).trans (h3.block i hi))⟩
        · rcases HV7.out with q | q
          · exact .inl q
          · right; have h2 := B1.out.size; have h3 := HWX.out.size; omega
end Go.Proofs.Ytlbplicafcoifaa.So
