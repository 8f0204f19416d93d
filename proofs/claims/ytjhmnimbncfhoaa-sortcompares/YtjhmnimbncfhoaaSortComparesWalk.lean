/-
  SortCompares: two records, by the program and by the document.
-/
import Derived.Test.YtjhmnimbncfhoaaSoOpen
import Derived.Deep.RegionHeldLaw
namespace Go.Proofs.Ytjhmnimbncfhoaa.So
open Go.ChangeShapes Go.WideShapes Go.ChangeAt Go.RowKit
open Go.Proofs.Ytjhmnimbncfhoaa.Base Go.Proofs.Ytjhmnimbncfhoaa.Nums
set_option linter.unusedVariables false
set_option maxHeartbeats 1000000 in
theorem cwalk (a b : Rec) (w : World) (ha : a.fits) (hb : b.fits) :
    Calls Try.prog 3 #[a.val, b.val] w fun e w' => e = .returned (.bool true) ∧ Below w.heap.size w w' := by
  have h1 := hide (fun W => cmp_any a b W (by have := ha.1; omega) (by have := hb.1; omega))
  have h2 := hide (fun W => refCmp_any a b W)
  have h3 := hide (fun W => cost_any a W (by have := ha.1; omega) (by have := ha.2; omega))
  have h4 := hide (fun W => refCost_any a W (by have := ha.1; omega) (by have := ha.2; omega))
  have h5 := hide (fun W => cost_any b W (by have := hb.1; omega) (by have := hb.2; omega))
  have h6 := hide (fun W => refCost_any b W (by have := hb.1; omega) (by have := hb.2; omega))
  generalize cmpR a b = z at h1 h2
  generalize costR a = ca at h3 h4
  generalize costR b = cb at h5 h6
  clear ha hb
  obtain ⟨ap, ak, av⟩ := a
  obtain ⟨bp, bk, bv⟩ := b
  unfold Rec.val at h1 h2 h3 h4 h5 h6 ⊢
  simp only at h1 h2 h3 h4 h5 h6 ⊢
  have d1 : (z == z) = true := by simp
  have d2 : (ca == ca) = true := by simp
  have d3 : (cb == cb) = true := by simp
  obtain ⟨g, hg⟩ : ∃ g, w.heap.size = g := ⟨_, rfl⟩
  obtain ⟨W, hW⟩ : ∃ W, (w.alloc (.cells #[.int .i64 ap, .string ak, .string av] 23)).alloc (.cells #[.int .i64 bp, .string bk, .string bv] 23) = W := ⟨_, rfl⟩
  have HA : Hid (Below w.heap.size w W) := by rw [← hW]; exact (((Below.refl w.heap.size w).alloc (Nat.le_refl _) (.cells #[.int .i64 ap, .string ak, .string av] 23)).alloc (by simp) (.cells #[.int .i64 bp, .string bk, .string bv] 23))
  have b1 : W.heap[g]? = some (.cells #[.int .i64 ap, .string ak, .string av] 23) := by
    rw [← hW, heap_alloc_old _ _ (by simp; omega), ← hg]; exact heap_alloc_new _ _
  have b2 : W.heap[g + 1]? = some (.cells #[.int .i64 bp, .string bk, .string bv] 23) := by
    rw [← hW, ← hg]
    have := heap_alloc_new (w.alloc (.cells #[.int .i64 ap, .string ak, .string av] 23)) (.cells #[.int .i64 bp, .string bk, .string bv] 23)
    simpa using this
  have HS : Hid ((W.cell? ⟨g, 0, none⟩ = some (.int .i64 ap) ∧ W.cell? ⟨g, 1, none⟩ = some (.string ak) ∧ W.cell? ⟨g, 2, none⟩ = some (.string av)) ∧ W.cell? ⟨g + 1, 0, none⟩ = some (.int .i64 bp) ∧ W.cell? ⟨g + 1, 1, none⟩ = some (.string bk) ∧ W.cell? ⟨g + 1, 2, none⟩ = some (.string bv)) := by
    refine ⟨⟨?_, ?_, ?_⟩, ?_, ?_, ?_⟩
    · rw [cell_of_row _ _ _ _ _ _ b1]; rfl
    · rw [cell_of_row _ _ _ _ _ _ b1]; rfl
    · rw [cell_of_row _ _ _ _ _ _ b1]; rfl
    · rw [cell_of_row _ _ _ _ _ _ b2]; rfl
    · rw [cell_of_row _ _ _ _ _ _ b2]; rfl
    · rw [cell_of_row _ _ _ _ _ _ b2]; rfl
  have HL : Hid (g < W.heap.size ∧ g + 1 < W.heap.size) := ⟨lt_row b1, lt_row b2⟩
  have HK : Hid (∀ V, Below W.heap.size W V → (V.cell? ⟨g, 0, none⟩ = some (.int .i64 ap) ∧ V.cell? ⟨g, 1, none⟩ = some (.string ak) ∧ V.cell? ⟨g, 2, none⟩ = some (.string av)) ∧ V.cell? ⟨g + 1, 0, none⟩ = some (.int .i64 bp) ∧ V.cell? ⟨g + 1, 1, none⟩ = some (.string bk) ∧ V.cell? ⟨g + 1, 2, none⟩ = some (.string bv)) := by
    intro V hV
    obtain ⟨⟨a0, a1, a2⟩, e0, e1, e2⟩ := HS.out
    exact ⟨⟨(hV.cell (p := ⟨g, 0, none⟩) HL.out.1).trans a0, (hV.cell (p := ⟨g, 1, none⟩) HL.out.1).trans a1, (hV.cell (p := ⟨g, 2, none⟩) HL.out.1).trans a2⟩, (hV.cell (p := ⟨g + 1, 0, none⟩) HL.out.2).trans e0, (hV.cell (p := ⟨g + 1, 1, none⟩) HL.out.2).trans e1, (hV.cell (p := ⟨g + 1, 2, none⟩) HL.out.2).trans e2⟩
  obtain ⟨⟨q0, q1, q2⟩, q3, q4, q5⟩ := HS.out
  have B0 : Hid (Below W.heap.size W W.drew) := (Below.refl _ _).drew
  clear b1 b2
  go_enter Try.func3, Try.ntmps3
  go_wp2_with fail
  clear hW
  go_region_held_law (fun V => (V.cell? ⟨g, 0, none⟩ = some (.int .i64 ap) ∧ V.cell? ⟨g, 1, none⟩ = some (.string ak) ∧ V.cell? ⟨g, 2, none⟩ = some (.string av)) ∧ V.cell? ⟨g + 1, 0, none⟩ = some (.int .i64 bp) ∧ V.cell? ⟨g + 1, 1, none⟩ = some (.string bk) ∧ V.cell? ⟨g + 1, 2, none⟩ = some (.string bv)) (first | exact HK.out _ B6.out | exact HK.out _ B5.out | exact HK.out _ B4.out | exact HK.out _ B3.out | exact HK.out _ B2.out | exact HK.out _ B1.out | go_keep) (first
    | (go_at_call 8; refine (h1.out _).mono ?_; rintro e w1 ⟨rfl, hb1⟩; have B1 := hide (below_trans B0.out hb1); clear hb1 h1)
    | (go_at_call 9; refine (h2.out _).mono ?_; rintro e w2 ⟨rfl, hb2⟩; have B2 := hide (below_trans B1.out hb2); clear hb2 h2)
    | (go_at_call 10; refine (h3.out _).mono ?_; rintro e w3 ⟨rfl, hb3⟩; have B3 := hide (below_trans B2.out hb3); clear hb3 h3)
    | (go_at_call 11; refine (h4.out _).mono ?_; rintro e w4 ⟨rfl, hb4⟩; have B4 := hide (below_trans B3.out hb4); clear hb4 h4)
    | (go_at_call 10; refine (h5.out _).mono ?_; rintro e w5 ⟨rfl, hb5⟩; have B5 := hide (below_trans B4.out hb5); clear hb5 h5)
    | (go_at_call 11; refine (h6.out _).mono ?_; rintro e w6 ⟨rfl, hb6⟩; have B6 := hide (below_trans B5.out hb6); clear hb6 h6))
  all_goals
    go_wp2_with fail
    go_ret
    exact ⟨rfl, below_trans HA.out B6.out⟩
end Go.Proofs.Ytjhmnimbncfhoaa.So
