/-
  LedgerNews: the walk.
-/
import Derived.Test.YtgpfabblmoffiaaLgNr
namespace Go.Proofs.Ytgpfabblmoffiaa.ledgerNews
open Go.ChangeShapes Go.WideShapes Go.ChangeAt Go.RowKit
open Go.Proofs.Ytgpfabblmoffiaa.Base Go.Proofs.Ytgpfabblmoffiaa.Rf Go.Proofs.Ytgpfabblmoffiaa.Lg
set_option linter.unusedVariables false
theorem newB_len (m r t : Int) : (newB m r t).m.length ≤ 1000000000 ∧ (newB m r t).r.length ≤ 1000000000 := by
  unfold newB newOk
  rcases Bool.eq_false_or_eq_true (wi m 0 256 && (wi r 1 65535 && wi t 1 16)) with hz | hz
  · rw [if_pos hz]
    simp only [Bool.and_eq_true, wi_iff] at hz
    simp only [List.length_replicate]
    omega
  · rw [if_neg (by rw [hz]; simp)]
    simp [nob]
set_option maxHeartbeats 4000000 in
set_option maxRecDepth 100000 in
theorem walk (m r t : Int) (w : World) (_ : (Lit.int .i64 m).wf = true) (_ : (Lit.int .i64 r).wf = true) (_ : (Lit.int .i64 t).wf = true) : Calls Try.prog 3 #[.int .i64 m, .int .i64 r, .int .i64 t] w fun e w' => e = .returned (.bool true) ∧ Below w.heap.size w w' := by
  have HNB := hide (newB_len m r t)
  have HN := hide (fun W => new_any m r t W)
  have HRN := hide (fun W => refNew_any m r t W)
  generalize newB m r t = b at HNB HN HRN
  generalize newE m r t = E at HN HRN
  have hee : (E == E) = true := by simp
  go_enter Try.func3, Try.ntmps3
  go_wp2_with fail
  refine (HN.out _).mono ?_
  rintro e w1 ⟨a1, n1, c1, a2, n2, c2, rfl, hA1, hb1⟩
  have HL1 : Hid (n1 ≤ 1000000000 ∧ n2 ≤ 1000000000) := by have h1 := hA1.l1; have h2 := hA1.l2; have := HNB.out; exact ⟨by omega, by omega⟩
  obtain ⟨w2, hw2⟩ : ∃ w2, w1.alloc (.cells #[.int .i64 b.t, .slice a1 n1 c1, .slice a2 n2 c2, .bool b.f] 24) = w2 := ⟨_, rfl⟩
  have HB12 : Hid (Below w1.heap.size w1 w2) := by rw [← hw2]; exact (Below.refl _ _).alloc (Nat.le_refl _) _
  have HC2 : Hid (BC w2 w1.heap.size b.t (.slice a1 n1 c1) (.slice a2 n2 c2) b.f) := by rw [← hw2]; exact bc_new _ _ _ _ _
  have HB2 := hide (below_trans hb1 HB12.out)
  have HA2 := hide (hA1.below HB12.out)
  have HS2 : Hid (w.heap.size ≤ w1.heap.size ∧ w1.heap.size ≤ w2.heap.size) := ⟨hb1.size, HB12.out.size⟩
  clear hA1 hb1
  obtain ⟨g, hg⟩ : ∃ g, w1.heap.size = g := ⟨_, rfl⟩
  rw [hg] at HC2
  go_wp2_with fail
  refine (HN.out _).mono ?_
  clear hw2
  rintro e w3 ⟨a3, n3, c3, a4, n4, c4, rfl, hA3, hb3⟩
  have HL3 : Hid (n3 ≤ 1000000000 ∧ n4 ≤ 1000000000 ∧ b.m.length = n3 ∧ b.r.length = n4) := by have h1 := hA3.l1; have h2 := hA3.l2; have := HNB.out; exact ⟨by omega, by omega, h1, h2⟩
  obtain ⟨w4, hw4⟩ : ∃ w4, w3.alloc (.cells #[.int .i64 b.t, .slice a3 n3 c3, .slice a4 n4 c4, .bool b.f] 24) = w4 := ⟨_, rfl⟩
  have HB34 : Hid (Below w3.heap.size w3 w4) := by rw [← hw4]; exact (Below.refl _ _).alloc (Nat.le_refl _) _
  have HC4 : Hid (BC w4 w3.heap.size b.t (.slice a3 n3 c3) (.slice a4 n4 c4) b.f) := by rw [← hw4]; exact bc_new _ _ _ _ _
  have HB24 := hide (below_trans hb3 HB34.out)
  have HB4 := hide (below_trans HB2.out HB24.out)
  have HA4 := hide (hA3.below HB34.out)
  have HA24 := hide (HA2.out.below HB24.out)
  have HC24 := hide (HC2.out.below HB24.out)
  have HS4 : Hid (w2.heap.size ≤ w3.heap.size ∧ w3.heap.size ≤ w4.heap.size) := ⟨hb3.size, HB34.out.size⟩
  clear hA3 hb3
  obtain ⟨q, hq⟩ : ∃ q, w3.heap.size = q := ⟨_, rfl⟩
  rw [hq] at HC4
  go_wp2_with fail
  refine (HRN.out _).mono ?_
  clear hw4
  rintro e w5 ⟨a5, n5, c5, a6, n6, c6, rfl, hA5, hb5⟩
  obtain rfl : n3 = n5 := by have := hA5.l1; have := HL3.out; omega
  obtain rfl : n4 = n6 := by have := hA5.l2; have := HL3.out; omega
  obtain ⟨w6, hw6⟩ : ∃ w6, w5.alloc (.cells #[.int .i64 b.t, .slice a5 n3 c5, .slice a6 n4 c6, .bool b.f] 24) = w6 := ⟨_, rfl⟩
  have HB56 : Hid (Below w5.heap.size w5 w6) := by rw [← hw6]; exact (Below.refl _ _).alloc (Nat.le_refl _) _
  have HC6 : Hid (BC w6 w5.heap.size b.t (.slice a5 n3 c5) (.slice a6 n4 c6) b.f) := by rw [← hw6]; exact bc_new _ _ _ _ _
  have HB46 := hide (below_trans hb5 HB56.out)
  have HB6 := hide (below_trans HB4.out HB46.out)
  have HA6 := hide (hA5.below HB56.out)
  have HA46 := hide (HA4.out.below HB46.out)
  have HA26 := hide (HA24.out.below HB46.out)
  have HC46 := hide (HC4.out.below HB46.out)
  have HC26 := hide (HC24.out.below HB46.out)
  have HS6 : Hid (w4.heap.size ≤ w5.heap.size ∧ w5.heap.size ≤ w6.heap.size) := ⟨hb5.size, HB56.out.size⟩
  clear hA5 hb5
  obtain ⟨r', hr⟩ : ∃ r', w5.heap.size = r' := ⟨_, rfl⟩
  rw [hr] at HC6
  have x0 := HC26.out.c0
  have x1 := HC26.out.c1
  have x2 := HC26.out.c2
  have x3 := HC26.out.c3
  have y0 := HC46.out.c0
  have y1 := HC46.out.c1
  have y2 := HC46.out.c2
  have y3 := HC46.out.c3
  have v0 := HC6.out.c0
  have v1 := HC6.out.c1
  have v2 := HC6.out.c2
  have v3 := HC6.out.c3
  have HAP := hide (apart_any b.t b.t b.f b.f a1 a2 a3 a4 a5 a6 n1 n2 c1 c2 n3 n4 c3 c4 c5 c6 w.heap.size w2.heap.size w4.heap.size w5.heap.size b.m b.r b.m b.r w6 (HA26.out.mono (Nat.le_refl _) HS2.out.2) (HA46.out.mono (Nat.le_refl _) HS4.out.2) HA6.out (by have := HS2.out; omega) (by have := HS4.out; omega) (by have := HS6.out; omega) HL1.out.1 HL1.out.2 HL3.out.1 HL3.out.2.1)
  go_wp2_with (refine HAP.out.mono ?_; clear hw6 x0 x1 x2 x3 y0 y1 y2 y3 v0 v1 v2 v3; rintro e w7 ⟨rfl, hb7⟩; have HB7 := hide (HB6.out.trans hb7); clear hb7)
  go_ret
  exact ⟨rfl, HB7.out⟩
end Go.Proofs.Ytgpfabblmoffiaa.ledgerNews
