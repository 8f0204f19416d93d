/-
  New: the document's books.
-/
import Derived.Test.YtgpfabblmoffiaaLgN
namespace Go.Proofs.Ytgpfabblmoffiaa.Lg
open Go.ChangeShapes Go.WideShapes Go.ChangeAt Go.RowKit
open Go.Proofs.Ytgpfabblmoffiaa.Base Go.Proofs.Ytgpfabblmoffiaa.Rf
set_option linter.unusedVariables false
set_option maxHeartbeats 2000000 in
set_option maxRecDepth 100000 in
theorem refNew_any (m r t : Int) (w : World) :
    Calls Try.prog 5 #[.int .i64 m, .int .i64 r, .int .i64 t] w fun e w' => ∃ a1 n1 c1 a2 n2 c2, e = .returned (.tuple #[.agg #[.int .i64 (newB m r t).t, .slice a1 n1 c1, .slice a2 n2 c2, .bool (newB m r t).f], .int .i64 (newE m r t)]) ∧ Ans w' w.heap.size w'.heap.size a1 n1 c1 (newB m r t).m a2 n2 c2 (newB m r t).r ∧ Below w.heap.size w w' := by
  obtain ⟨w1, hw1⟩ : ∃ w1, w.alloc (.cells #[.int .i64 0, .slice none 0 0, .slice none 0 0, .bool false] 24) = w1 := ⟨_, rfl⟩
  have HB1 : Hid (Below w.heap.size w w1) := by rw [← hw1]; exact (Below.refl _ _).alloc (Nat.le_refl _) _
  have HC1 : Hid (BC w1 w.heap.size 0 (.slice none 0 0) (.slice none 0 0) false) := by rw [← hw1]; exact bc_new _ _ _ _ _
  obtain ⟨g, hg⟩ : ∃ g, w.heap.size = g := ⟨_, rfl⟩
  rw [hg] at HC1
  have HG := hide hg
  have x0 := HC1.out.c0
  have x1 := HC1.out.c1
  have x2 := HC1.out.c2
  have x3 := HC1.out.c3
  have z0' := HC1.out.fz 0
  have z1' := HC1.out.fz 1
  have z2' := HC1.out.fz 2
  have z3' := HC1.out.fz 3
  unfold newB newE newOk
  rcases Bool.eq_false_or_eq_true (wi m 0 256 && (wi r 1 65535 && wi t 1 16)) with hz | hz
  · rw [hz, if_pos rfl, if_pos rfl]
    have hb : (0 ≤ m ∧ m ≤ 256) ∧ (1 ≤ r ∧ r ≤ 65535) ∧ 1 ≤ t ∧ t ≤ 16 := by
      simp only [Bool.and_eq_true, wi_iff] at hz
      exact hz
    obtain ⟨M, rfl⟩ : ∃ M : Nat, m = (M : Int) := ⟨m.toNat, by omega⟩
    obtain ⟨R, rfl⟩ : ∃ R : Nat, r = (R : Int) := ⟨r.toNat, by omega⟩
    obtain ⟨X1, hm1, ho1⟩ := made_t M (by omega)
    obtain ⟨X2, hm2, ho2⟩ := made_t R (by omega)
    have hk1 := hm1 (M : Int) (M : Int) rfl rfl
    have hk2 := hm2 (R : Int) (R : Int) rfl rfl
    have HO1 := hide ho1
    have HO2 := hide ho2
    clear hm1 hm2 ho1 ho2
    have b1 : ¬ (M : Int) < 0 := by omega
    have b2 : ¬ (256 : Int) < (M : Int) := by omega
    have b3 : ¬ (R : Int) < 1 := by omega
    have b4 : ¬ (65535 : Int) < (R : Int) := by omega
    have b5 : ¬ t < 1 := by omega
    have b6 : ¬ 16 < t := by omega
    clear hb
    rw [Int.toNat_natCast, Int.toNat_natCast]
    obtain ⟨wa, hwa⟩ : ∃ wa, (w1.alloc (.cells X1 33)).alloc (.cells X2 33) = wa := ⟨_, rfl⟩
    obtain ⟨wb, hwb⟩ : ∃ wb, (w1.alloc (.cells X2 33)).alloc (.cells X1 33) = wb := ⟨_, rfl⟩
    have ha1 : ∀ X : Array Value, Below w1.heap.size w1 (w1.alloc (.cells X 33)) := fun X => (Below.refl _ _).alloc (Nat.le_refl _) _
    have ha2 : ∀ X Y : Array Value, Below w1.heap.size w1 ((w1.alloc (.cells X 33)).alloc (.cells Y 33)) := fun X Y => below_trans (ha1 X) ((Below.refl _ _).alloc (Nat.le_refl _) _)
    have HBA : Hid (Below w1.heap.size w1 wa) := by rw [← hwa]; exact ha2 _ _
    have HBB : Hid (Below w1.heap.size w1 wb) := by rw [← hwb]; exact ha2 _ _
    have hsz : ∀ X : Array Value, (w1.alloc (.cells X 33)).heap.size = w1.heap.size + 1 := fun X => by simp
    have HAA : Hid (Ans wa w1.heap.size (w1.heap.size + 2) (some ⟨w1.heap.size, 0, none⟩) M M (List.replicate M z0) (some ⟨w1.heap.size + 1, 0, none⟩) R R (List.replicate R z0)) := by
      have h1 := (HO1.out w1 w1.heap.size (Nat.le_refl _)).below ((Below.refl _ _).alloc (Nat.le_refl _) (.cells X2 33))
      have h2 := HO2.out (w1.alloc (.cells X1 33)) w1.heap.size (by rw [hsz]; omega)
      rw [hsz] at h2
      rw [hwa] at h1 h2
      exact ⟨List.length_replicate, List.length_replicate, h1, h2, (fun i e e2 => by have e := Option.some.inj e; have e2 := Option.some.inj e2; simp only at e e2; omega), (fun i e => by have e := Option.some.inj e; simp only at e; omega), (fun i e => by have e := Option.some.inj e; simp only at e; omega)⟩
    have HAB : Hid (Ans wb w1.heap.size (w1.heap.size + 2) (some ⟨w1.heap.size + 1, 0, none⟩) M M (List.replicate M z0) (some ⟨w1.heap.size, 0, none⟩) R R (List.replicate R z0)) := by
      have h1 := (HO2.out w1 w1.heap.size (Nat.le_refl _)).below ((Below.refl _ _).alloc (Nat.le_refl _) (.cells X1 33))
      have h2 := HO1.out (w1.alloc (.cells X2 33)) w1.heap.size (by rw [hsz]; omega)
      rw [hsz] at h2
      rw [hwb] at h1 h2
      exact ⟨List.length_replicate, List.length_replicate, h2, h1, (fun i e e2 => by have e := Option.some.inj e; have e2 := Option.some.inj e2; simp only at e e2; omega), (fun i e => by have e := Option.some.inj e; simp only at e; omega), (fun i e => by have e := Option.some.inj e; simp only at e; omega)⟩
    have HSA : Hid (wa.heap.size = w1.heap.size + 2 ∧ wb.heap.size = w1.heap.size + 2) := ⟨by rw [← hwa]; simp, by rw [← hwb]; simp⟩
    have HCA := hide (HC1.out.below HBA.out)
    have HCB := hide (HC1.out.below HBB.out)
    have p0 := HCA.out.c0
    have p1 := HCA.out.c1
    have p2 := HCA.out.c2
    have p3 := HCA.out.c3
    have f0 := HCA.out.fz 0
    have f1 := HCA.out.fz 1
    have f2 := HCA.out.fz 2
    have f3 := HCA.out.fz 3
    have q0 := HCB.out.c0
    have q1 := HCB.out.c1
    have q2 := HCB.out.c2
    have q3 := HCB.out.c3
    have h0 := HCB.out.fz 0
    have h1 := HCB.out.fz 1
    have h2 := HCB.out.fz 2
    have h3 := HCB.out.fz 3
    have HGG : Hid (g < w1.heap.size) := HC1.out.lt
    clear ha1 ha2 hsz
    go_enter Try.func5, Try.ntmps5
    go_wp2_with fail
    go_region
    · go_wp2_with fail
      refine bodyPost_ret (bc_ret2 rfl _ _ g t _ _ false rfl (BC.dr (HCA.out.set4 t (.slice (some ⟨w1.heap.size, 0, none⟩) M M) (.slice (some ⟨w1.heap.size + 1, 0, none⟩) R R) false))) rfl ?_
      obtain ⟨h5, h6⟩ := new_end t _ _ false HG.out HGG.out HAA.out HSA.out.1 HB1.out HBA.out
      exact ⟨_, _, _, _, _, _, rfl, h5, h6⟩
    · go_wp2_with fail
      refine bodyPost_ret (bc_ret2 rfl _ _ g t _ _ false rfl (BC.dr (HCB.out.set4 t (.slice (some ⟨w1.heap.size + 1, 0, none⟩) M M) (.slice (some ⟨w1.heap.size, 0, none⟩) R R) false))) rfl ?_
      obtain ⟨h5, h6⟩ := new_end t _ _ false HG.out HGG.out HAB.out HSA.out.2 HB1.out HBB.out
      exact ⟨_, _, _, _, _, _, rfl, h5, h6⟩
  · rw [hz, if_neg (by simp), if_neg (by simp)]
    have hb : m < 0 ∨ (¬ m < 0 ∧ 256 < m) ∨ (¬ m < 0 ∧ ¬ 256 < m ∧ r < 1) ∨ (¬ m < 0 ∧ ¬ 256 < m ∧ ¬ r < 1 ∧ 65535 < r) ∨ (¬ m < 0 ∧ ¬ 256 < m ∧ ¬ r < 1 ∧ ¬ 65535 < r ∧ t < 1) ∨ (¬ m < 0 ∧ ¬ 256 < m ∧ ¬ r < 1 ∧ ¬ 65535 < r ∧ ¬ t < 1 ∧ 16 < t) := by
      have h : ¬ ((0 ≤ m ∧ m ≤ 256) ∧ (1 ≤ r ∧ r ≤ 65535) ∧ 1 ≤ t ∧ t ≤ 16) := fun h => by
        rw [wi_t h.1.1 h.1.2, wi_t h.2.1.1 h.2.1.2, wi_t h.2.2.1 h.2.2.2] at hz
        cases hz
      omega
    clear hz
    have HBZ : Hid (Below w.heap.size w (set4 w1 g 0 (.slice none 0 0) (.slice none 0 0) false)) := HB1.out.grown (grown_set4 w1 g 0 _ _ false) HB1.out.size (fun i e => by cases e; have := HG.out; omega)
    go_enter Try.func5, Try.ntmps5
    rcases hb with h1 | ⟨h1, h2⟩ | ⟨h1, h2, h3⟩ | ⟨h1, h2, h3, h4⟩ | ⟨h1, h2, h3, h4, h5⟩ | ⟨h1, h2, h3, h4, h5, h6⟩
    all_goals
      go_wp2_with fail
      refine bodyPost_ret (bc_ret2 rfl _ _ g 0 _ _ false rfl (HC1.out.set4 0 (.slice none 0 0) (.slice none 0 0) false)) rfl ?_
      exact ⟨none, 0, 0, none, 0, 0, rfl, ans_nil _ _ _, by first | exact HBZ.out | (have h := HBZ.out; rw [HG.out] at h; exact h)⟩
end Go.Proofs.Ytgpfabblmoffiaa.Lg
