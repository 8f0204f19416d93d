/-
  The document's Add.
-/
import Derived.Test.YtlbplicafcoifaaSoRbuf
namespace Go.Proofs.Ytlbplicafcoifaa.So
open Go.ChangeShapes Go.WideShapes Go.ChangeAt Go.RowKit
open Go.Proofs.Ytlbplicafcoifaa.Base
set_option linter.unusedVariables false
set_option maxHeartbeats 4000000 in
set_option maxRecDepth 100000 in
theorem radd_any (b base : Nat) (v : Value) (rs : List Rec) (r : Rec) (most : Int) (w : World) (h : QF w b v most) (ho : OwnR w base v rs) (hb : b < base) (hbase : base ≤ w.heap.size) (hk : r.k.size ≤ 140737488355328) (hv : r.v.size ≤ 140737488355328) (hl : (rs.length + 1) * 40 ≤ 140737488355328) (hF : Fit rs) (hs : sumC rs ≤ 2305843009213693952) :
    Calls Try.prog 7 #[.pointer (some ⟨b, 0, none⟩), r.val] w fun e w' =>
      (0 < rs.length ∧ most < sumC rs + costR r ∧ e = .returned (.int .i64 62) ∧ Below w.heap.size w w') ∨
      ((rs.length = 0 ∨ sumC rs + costR r ≤ most) ∧ e = .returned (.int .i64 0) ∧ ∃ g c, QF w' b (.slice (some ⟨g, 0, none⟩) (rs.length + 1) c) most ∧ OwnR w' base (.slice (some ⟨g, 0, none⟩) (rs.length + 1) c) (rs ++ [r]) ∧ Kept2 w w' (some b) v.ownBlock ∧ (v.ownBlock = some g ∨ w.heap.size ≤ g)) := by
  have HUS := hide (fun W (h1 : QF W b v most) (h2 : OwnR W base v rs) => rused_any b base v rs most W h1 h2 hF (by omega))
  have HCO := hide (fun W => refCost_any r W hk hv)
  have HCB : Hid (0 ≤ costR r ∧ costR r ≤ 562949953421312) := by unfold costR; exact ⟨by omega, by omega⟩
  have HS0 := hide (sumC_nonneg rs)
  obtain ⟨a, c, hvv, hac⟩ := own_shape ho
  subst hvv
  have HO := hide ho
  have HNB : Hid (∀ j, (Value.slice a rs.length c).ownBlock = some j → j ≠ b) := fun j e => by have := (ho.blk j e).1; omega
  clear ho
  obtain ⟨gb, hgb⟩ : ∃ gb, w.heap.size = gb := ⟨_, rfl⟩
  obtain ⟨w1, hw1⟩ : ∃ w1, w.alloc (.cells #[.int .i64 r.p, .string r.k, .string r.v] 34) = w1 := ⟨_, rfl⟩
  have HB1 : Hid (Below w.heap.size w w1) := by rw [← hw1]; exact (Below.refl _ _).alloc (Nat.le_refl _) _
  have HR1 : Hid (RB w1 gb r) := by rw [← hw1, ← hgb]; exact heap_alloc_new _ _
  have HF1 := hide (h.below HB1.out)
  have HO1 := hide (HO.out.below HB1.out)
  have HSIX : Hid (∀ V, Below w1.heap.size w1 V → (V.cell? ⟨b, 0, none⟩ = some (.slice a rs.length c) ∧ V.cell? ⟨b, 1, none⟩ = some (.int .i64 most)) ∧ V.cell? ⟨gb, 0, none⟩ = some (.int .i64 r.p) ∧ V.cell? ⟨gb, 1, none⟩ = some (.string r.k) ∧ V.cell? ⟨gb, 2, none⟩ = some (.string r.v)) := fun V hV => ⟨(HF1.out.below hV).cells, (HR1.out.below hV).cells⟩
  obtain ⟨⟨p0, p1⟩, q0, q1, q2⟩ := HSIX.out w1 (Below.refl _ _)
  obtain ⟨co, hco⟩ : ∃ co, costR r = co := ⟨_, rfl⟩
  obtain ⟨sm, hsm⟩ : ∃ sm, sumC rs = sm := ⟨_, rfl⟩
  rw [hco] at HCO HCB ⊢
  rw [hsm] at HUS HS0 hs ⊢
  unfold Rec.val at HCO ⊢
  obtain ⟨hco0, hco1⟩ := HCB.out
  have hs0 := HS0.out
  have hwc : IntKind.i64.wrap (sm + co) = sm + co := by rw [IntKind.wrap_i64]; omega
  have B0 : Hid (Below w1.heap.size w1 w1.drew) := (Below.refl _ _).drew
  clear hco hsm h
  go_enter Try.func7, Try.ntmps7
  go_upto_region 3 with fail
  go_cut [24] from 5 to 34 (fun s24 wx => ∃ tk : Bool, .bool tk = s24 ∧ Hid (tk = true → 0 < rs.length ∧ most < sm + co) ∧ Hid (tk = false → rs.length = 0 ∨ sm + co ≤ most) ∧ Hid (Below w1.heap.size w1 wx))
  case first =>
    by_cases hL0 : 0 < rs.length
    · have hLi : (0 : Int) < (rs.length : Int) := by omega
      have hLd : decide ((0 : Int) < (rs.length : Int)) = true := by simpa using hLi
      by_cases hbd : most < sm + co
      · first | (go_region_held_law (fun V => (V.cell? ⟨b, 0, none⟩ = some (.slice a rs.length c) ∧ V.cell? ⟨b, 1, none⟩ = some (.int .i64 most)) ∧ V.cell? ⟨gb, 0, none⟩ = some (.int .i64 r.p) ∧ V.cell? ⟨gb, 1, none⟩ = some (.string r.k) ∧ V.cell? ⟨gb, 2, none⟩ = some (.string r.v)) (first | exact HSIX.out _ B6.out | exact HSIX.out _ B5.out | exact HSIX.out _ B0.out | go_keep) (first
          | (go_at_call 15; refine (HUS.out _ (HF1.out.below B0.out) (HO1.out.below B0.out)).mono ?_; rintro e w5 ⟨rfl, hb5⟩; have B5 := hide (below_trans B0.out hb5); clear hb5)
          | (go_at_call 20; refine (HCO.out _).mono ?_; rintro e w6 ⟨rfl, hb6⟩; have B6 := hide (below_trans B5.out hb6); clear hb6))) | fail
        all_goals
          go_wp2_with fail
          go_meet
          case rel => exact ⟨true, rfl, (fun _ => ⟨hL0, hbd⟩), (fun h => nomatch h), B6.out⟩
      · first | (go_region_held_law (fun V => (V.cell? ⟨b, 0, none⟩ = some (.slice a rs.length c) ∧ V.cell? ⟨b, 1, none⟩ = some (.int .i64 most)) ∧ V.cell? ⟨gb, 0, none⟩ = some (.int .i64 r.p) ∧ V.cell? ⟨gb, 1, none⟩ = some (.string r.k) ∧ V.cell? ⟨gb, 2, none⟩ = some (.string r.v)) (first | exact HSIX.out _ B6.out | exact HSIX.out _ B5.out | exact HSIX.out _ B0.out | go_keep) (first
          | (go_at_call 15; refine (HUS.out _ (HF1.out.below B0.out) (HO1.out.below B0.out)).mono ?_; rintro e w5 ⟨rfl, hb5⟩; have B5 := hide (below_trans B0.out hb5); clear hb5)
          | (go_at_call 20; refine (HCO.out _).mono ?_; rintro e w6 ⟨rfl, hb6⟩; have B6 := hide (below_trans B5.out hb6); clear hb6))) | fail
        all_goals
          have hbd2 : decide (most < sm + co) = false := by rw [decide_eq_false_iff_not]; omega
          go_wp2_with fail
          go_meet
          case rel => exact ⟨false, (by first | rfl | rw [hbd2]), (fun h => nomatch h), (fun _ => .inr (by omega)), B6.out⟩
    · obtain rfl : rs = [] := List.length_eq_zero_iff.1 (by omega)
      go_quiet (fail)
      go_wp2_with fail
      go_meet
      case rel => exact ⟨false, rfl, (fun h => nomatch h), (fun _ => .inl (by first | rfl | trivial)), below_drewN' _ _ _⟩
  case rest =>
    obtain ⟨tk, rfl, HT1, HT2, HBX⟩ := hcut
    have HWX := hide (below_trans HB1.out HBX.out)
    cases tk with
    | true =>
      have HT := hide (HT1.out rfl)
      go_wp2_with fail
      go_ret
      refine .inl ⟨HT.out.1, HT.out.2, rfl, ?_⟩
      first | exact HWX.out | (rw [← hgb]; exact HWX.out)
    | false =>
      have HT := hide (HT2.out rfl)
      have HFC := hide (HF1.out.below HBX.out)
      have HOC := hide (HO1.out.below HBX.out)
      have HRC := hide (HR1.out.below HBX.out)
      obtain ⟨r0, r1, r2⟩ := HRC.out.cells
      obtain ⟨s0, s1⟩ := HFC.out.cells
      obtain ⟨g3, hg3⟩ : ∃ g, wc.heap.size = g := ⟨_, rfl⟩
      obtain ⟨w3, hw3⟩ : ∃ w3, wc.alloc (.cells #[.int .i64 r.p, .string r.k, .string r.v] 34) = w3 := ⟨_, rfl⟩
      have HB3 : Hid (Below wc.heap.size wc w3) := by rw [← hw3]; exact (Below.refl _ _).alloc (Nat.le_refl _) _
      have B3 : Hid (Below w3.heap.size w3 w3.drew) := (Below.refl _ _).drew
      have HX3 : Hid (RB w3.drew g3 r) := by
        have h1 : RB w3 g3 r := by rw [← hw3, ← hg3]; exact heap_alloc_new _ _
        exact h1.below B3.out
      have HF3 := hide ((HFC.out.below HB3.out).below B3.out)
      have HO3 := hide ((HOC.out.below HB3.out).below B3.out)
      have HW3 := hide (below_trans (below_trans HWX.out HB3.out) B3.out)
      obtain ⟨u0, u1⟩ := (HFC.out.below HB3.out).cells
      go_wp2_with fail
      go_region_law (refine step_pushR rfl (.tmp 29) (.tmp 31) rfl 32 rfl base (.slice a rs.length c) rs (by first | rfl | (simp [Act.eval]; done)) HO3.out g3 r (by first | rfl | (simp [Act.eval]; done)) HX3.out hl (by have := HW3.out.size; omega) ?_
                     intro g4 c4 w4 ho4 hg4 hv4
                     have HF4 : Hid (QF w4 b (.slice a rs.length c) most) := HF3.out.same (hg4.block b HF3.out.lt (fun e => HNB.out b e.symm rfl))
                     have HO4 := hide ho4
                     have HG4 := hide hg4
                     have HV4 := hide hv4
                     clear ho4 hg4 hv4
                     obtain ⟨i0, i1⟩ := HF4.out.cells
                     have f0 := HF4.out.frozen 0)
      all_goals
        go_wp2_with fail
        go_ret
        refine .inr ⟨HT.out, rfl, g4, c4, HF4.out.set0 _, ?_, ?_, ?_⟩
        · exact HO4.out.same (fun j e => Below.heap_setCell _ _ _ _ (by have h1 := (HO4.out.blk j e).1; simp; omega))
        · exact (((Kept2.refl w _ _).grown (below_grown HW3.out) (fun i e => by cases e)).grown HG4.out (fun i e => .inr (.inl rfl))).grown (grown_cell (World.grownBy.refl _ _) _ _) (fun i e => .inl rfl)
        · rcases HV4.out with q | q
          · exact .inl q
          · right; have h1 := HW3.out.size; omega
end Go.Proofs.Ytlbplicafcoifaa.So
