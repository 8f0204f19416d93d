/-
  The document's own: a copied book, a book with another state of a task, one with a task charged.
-/
import Derived.Test.YtgpfabblmoffiaaDoorLgR3
namespace Go.Proofs.YtgpfabblmoffiaaDoor.Lg
open Go.ChangeShapes Go.WideShapes Go.ChangeAt Go.RowKit
open Go.Proofs.YtgpfabblmoffiaaDoor.Base Go.Proofs.YtgpfabblmoffiaaDoor.Rf
set_option linter.unusedVariables false
set_option maxHeartbeats 4000000 in
set_option maxRecDepth 100000 in
theorem copied_any (b : Bk) (a1 a2 : Option Addr) (n1 c1 n2 c2 : Nat) (w : World) (hi : Inn w b a1 n1 c1 a2 n2 c2) (hn1 : n1 ≤ 1000000000) (hn2 : n2 ≤ 1000000000) :
    Calls Tryd.prog 69 #[.agg #[.int .i64 b.t, .slice a1 n1 c1, .slice a2 n2 c2, .bool b.f]] w fun e w' => ∃ a3 c3 a4 c4, e = .returned (.agg #[.int .i64 b.t, .slice a3 n1 c3, .slice a4 n2 c4, .bool b.f]) ∧ Ans w' w.heap.size w'.heap.size a3 n1 c3 b.m a4 n2 c4 b.r ∧ Below w.heap.size w w' := by
  obtain ⟨w1, hw1⟩ : ∃ w1, w.alloc (.cells #[.int .i64 b.t, .slice a1 n1 c1, .slice a2 n2 c2, .bool b.f] 26) = w1 := ⟨_, rfl⟩
  have HB1 : Hid (Below w.heap.size w w1) := by rw [← hw1]; exact (Below.refl _ _).alloc (Nat.le_refl _) _
  have hC1 : BC w1 w.heap.size b.t (.slice a1 n1 c1) (.slice a2 n2 c2) b.f := by rw [← hw1]; exact bc_new _ _ _ _ _
  obtain ⟨w2, hw2⟩ : ∃ w2, w1.alloc (.cells #[.int .i64 0, .slice none 0 0, .slice none 0 0, .bool false] 26) = w2 := ⟨_, rfl⟩
  have hb2 : Below w1.heap.size w1 w2 := by rw [← hw2]; exact (Below.refl _ _).alloc (Nat.le_refl _) _
  have hC2 : BC w2 w1.heap.size 0 (.slice none 0 0) (.slice none 0 0) false := by rw [← hw2]; exact bc_new _ _ _ _ _
  obtain ⟨w3, hw3⟩ : ∃ w3, w2.alloc (.cells #[.int .i64 b.t, .slice a1 n1 c1, .slice a2 n2 c2, .bool b.f] 26) = w3 := ⟨_, rfl⟩
  have hb3 : Below w2.heap.size w2 w3 := by rw [← hw3]; exact (Below.refl _ _).alloc (Nat.le_refl _) _
  have hC3 : BC w3 w2.heap.size b.t (.slice a1 n1 c1) (.slice a2 n2 c2) b.f := by rw [← hw3]; exact bc_new _ _ _ _ _
  obtain ⟨w4, hw4⟩ : ∃ w4, w3.alloc (.cells #[] 43) = w4 := ⟨_, rfl⟩
  have hb4 : Below w3.heap.size w3 w4 := by rw [← hw4]; exact (Below.refl _ _).alloc (Nat.le_refl _) _
  have HO4 : Hid (OwnF w4 w3.heap.size 43 3 (.slice (some ⟨w3.heap.size, 0, none⟩) 0 0) 0 (tf [])) := by rw [← hw4]; exact ownt_empty w3 _ (Nat.le_refl _)
  have HB3 : Hid (Below w.heap.size w w3) := below_trans HB1.out (below_trans hb2 hb3)
  have HB4 : Hid (Below w.heap.size w w4) := below_trans HB3.out hb4
  have HC12 := hide (hC1.below hb2)
  have HC14 := hide (((hC1.below hb2).below hb3).below hb4)
  have HC24 := hide ((hC2.below hb3).below hb4)
  have HC34 := hide (hC3.below hb4)
  have HLT : Hid (w.heap.size < w1.heap.size ∧ w1.heap.size < w2.heap.size ∧ w2.heap.size < w3.heap.size ∧ w3.heap.size ≤ w4.heap.size) := ⟨hC1.lt, hC2.lt, hC3.lt, hb4.size⟩
  have HIN := hide hi
  clear hC1 hC2 hC3 hb2 hb3 hb4 hi
  obtain ⟨g, hg⟩ : ∃ g, w.heap.size = g := ⟨_, rfl⟩
  obtain ⟨q, hq⟩ : ∃ q, w1.heap.size = q := ⟨_, rfl⟩
  obtain ⟨r, hr⟩ : ∃ r, w2.heap.size = r := ⟨_, rfl⟩
  rw [hg] at HC12 HC14
  rw [hq] at HC24
  rw [hr] at HC34
  have HGQ : Hid (w.heap.size = g ∧ g < q ∧ q < r ∧ r < w3.heap.size ∧ w3.heap.size ≤ w4.heap.size) := by
    obtain ⟨l1, l2, l3, l4⟩ := HLT.out
    exact ⟨hg, by omega, by omega, by omega, l4⟩
  have u0 := HC12.out.c0
  have u1 := HC12.out.c1
  have u2 := HC12.out.c2
  have u3 := HC12.out.c3
  have y1 := HC14.out.c1
  have e1 := HC34.out.c1
  have ez := HC34.out.fz 1
  have HRD1 := hide (HIN.out.r1.below HB4.out)
  have hz1 := HIN.out.z1
  have HZ1 := hide hz1
  clear hz1
  have HL1 := hide HIN.out.r1.1
  have HL2 := hide HIN.out.r2.1
  go_enter Tryd.func69, Tryd.ntmps69
  go_wp2_with (first
    | (at_builtin; refine joinG w4 rfl _ _ rfl Tryd.underlying24 infoT rfl (by omega) (by omega) w3.heap.size (.slice (some ⟨w3.heap.size, 0, none⟩) 0 0) 0 (tf []) (tf b.m) rfl HO4.out a1 n1 c1 rfl HZ1.out HRD1.out.2.2 (tf_len b.m) (fun k _ => tf_one b.m k) (by omega) (by have := HGQ.out; omega) ?_
       intro v5 w5 ho5 hg5
       have HO5 : Hid (OwnF w5 w3.heap.size 43 3 v5 n1 (tf b.m)) := hide (by have h := ho5; rw [Nat.zero_add] at h; exact h.congr (fun k _ => by unfold thenF; rw [if_neg (by omega), Nat.sub_zero]))
       have HK5 : Hid (Kp (fun i => i = w3.heap.size) w4 w5) := hide ((Kp.of_grown hg5).mono (fun i e _ => (Option.some.inj e).symm))
       obtain ⟨a3, c3, e5, -, -, -⟩ := OwnF.shape HO5.out
       subst e5
       clear ho5 hg5 hw1 hw2 hw3 hw4 hg hq hr u0 u1 u2 u3 y1 e1 ez
       have HB5 : Hid (Below w.heap.size w w5) := hide (HK5.out.below HB4.out (fun i e => by have := HGQ.out; omega) HB4.out.size)
       have HC15 := hide (HC14.out.kp HK5.out (by have := HGQ.out; omega))
       have HC25 := hide (HC24.out.kp HK5.out (by have := HGQ.out; omega))
       have HC35 := hide (HC34.out.kp HK5.out (by have := HGQ.out; omega))
       have e1 := HC35.out.c1
       have ez := HC35.out.fz 1
       obtain ⟨w6, hw6⟩ : ∃ w6, w5.setCell ⟨r, 1, none⟩ (.slice a3 n1 c3) = w6 := ⟨_, rfl⟩
       have HK6 : Hid (Kp (fun i => i = r) w5 w6) := hide (by rw [← hw6]; exact kp_cell w5 r 1 _)
       have HC36 : Hid (BC w6 r b.t (.slice a3 n1 c3) (.slice a2 n2 c2) b.f) := hide (by rw [← hw6]; exact HC35.out.set1 _)
       have HC16 := hide (HC15.out.kp HK6.out (by have := HGQ.out; omega))
       have HC26 := hide (HC25.out.kp HK6.out (by have := HGQ.out; omega))
       have HO6 := hide (OwnF.kp HO5.out HK6.out (fun i e e2 => by have h1 := (OwnF.lt HO5.out i e).1; have h2 : i = r := e2; have h3 := HGQ.out; omega))
       have HB6 : Hid (Below w.heap.size w w6) := hide (HK6.out.below HB5.out (fun i e => by have := HGQ.out; omega) HB5.out.size)
       have HW6 : Hid (w4.heap.size ≤ w6.heap.size) := hide (Nat.le_trans HK5.out.size HK6.out.size)
       obtain ⟨w7, hw7⟩ : ∃ w7, w6.alloc (.cells #[] 43) = w7 := ⟨_, rfl⟩
       have HB67 : Hid (Below w6.heap.size w6 w7) := hide (by rw [← hw7]; exact (Below.refl _ _).alloc (Nat.le_refl _) _)
       have HO7 : Hid (OwnF w7 w6.heap.size 43 3 (.slice (some ⟨w6.heap.size, 0, none⟩) 0 0) 0 (tf [])) := hide (by rw [← hw7]; exact ownt_empty w6 _ (Nat.le_refl _))
       have y2 := (HC16.out.below HB67.out).c2
       have HRD2 := hide (HIN.out.r2.below (below_trans HB6.out HB67.out))
       have HZ2 : Hid (a2 = none → n2 = 0 ∧ c2 = 0) := HIN.out.z2
       clear HO4)
    | (at_builtin; refine joinG w7 rfl _ _ rfl Tryd.underlying24 infoT rfl (by omega) (by omega) w6.heap.size (.slice (some ⟨w6.heap.size, 0, none⟩) 0 0) 0 (tf []) (tf b.r) rfl HO7.out a2 n2 c2 rfl HZ2.out HRD2.out.2.2 (tf_len b.r) (fun k _ => tf_one b.r k) (by omega) (by have := HB67.out.size; omega) ?_
       intro v8 w8 ho8 hg8
       have HO8 : Hid (OwnF w8 w6.heap.size 43 3 v8 n2 (tf b.r)) := hide (by have h := ho8; rw [Nat.zero_add] at h; exact h.congr (fun k _ => by unfold thenF; rw [if_neg (by omega), Nat.sub_zero]))
       have HK8 : Hid (Kp (fun i => i = w6.heap.size) w7 w8) := hide ((Kp.of_grown hg8).mono (fun i e _ => (Option.some.inj e).symm))
       obtain ⟨a4, c4, e8, -, -, -⟩ := OwnF.shape HO8.out
       subst e8
       clear ho8 hg8 hw6 hw7 e1 ez y2
       have HK68 : Hid (Kp (fun _ => False) w6 w8) := hide ((Kp.of_below HB67.out).trans HK8.out (fun i e hi => by have h2 : i = w6.heap.size := e; omega))
       have HB8 : Hid (Below w.heap.size w w8) := hide (HK68.out.below HB6.out (fun i e => e.elim) HB6.out.size)
       have HC28 := hide (HC26.out.kp HK68.out (fun e => e))
       have HC38 := hide (HC36.out.kp HK68.out (fun e => e))
       have HO58 := hide (OwnF.kp HO6.out HK68.out (fun i e e2 => e2))
       have e2 := HC38.out.c2
       have ez := HC38.out.fz 2
       obtain ⟨w9, hw9⟩ : ∃ w9, w8.setCell ⟨r, 2, none⟩ (.slice a4 n2 c4) = w9 := ⟨_, rfl⟩
       have HK9 : Hid (Kp (fun i => i = r) w8 w9) := hide (by rw [← hw9]; exact kp_cell w8 r 2 _)
       have HC39 : Hid (BC w9 r b.t (.slice a3 n1 c3) (.slice a4 n2 c4) b.f) := hide (by rw [← hw9]; exact HC38.out.set2 _)
       have HC29 := hide (HC28.out.kp HK9.out (by have := HGQ.out; omega))
       have HO59 := hide (OwnF.kp HO58.out HK9.out (fun i e e2 => by have h1 := (OwnF.lt HO5.out i e).1; have h2 : i = r := e2; have h3 := HGQ.out; omega))
       have HO89 := hide (OwnF.kp HO8.out HK9.out (fun i e e2 => by have h1 := (OwnF.lt HO8.out i e).1; have h2 : i = r := e2; have h3 := HGQ.out; have h4 := HW6.out; omega))
       have HB9 : Hid (Below w.heap.size w w9) := hide (HK9.out.below HB8.out (fun i e => by have := HGQ.out; omega) HB8.out.size)
       have v0 := HC39.out.c0
       have v1 := HC39.out.c1
       have v2 := HC39.out.c2
       have v3 := HC39.out.c3
       have r0 := HC29.out.c0
       have r1 := HC29.out.c1
       have r2 := HC29.out.c2
       have r3 := HC29.out.c3
       have f0 := HC29.out.fz 0
       have f1 := HC29.out.fz 1
       have f2 := HC29.out.fz 2
       have f3 := HC29.out.fz 3))
  have hk := kp_four w9 q b.t (.slice a3 n1 c3) (.slice a4 n2 c4) b.f
  have hgq := HGQ.out
  have hw6 := HW6.out
  refine bodyPost_ret (bc_ret rfl _ _ q b.t _ _ b.f rfl (HC29.out.set4 b.t (.slice a3 n1 c3) (.slice a4 n2 c4) b.f)) rfl ?_
  have o1 := (OwnF.kp HO59.out hk (fun i e e2 => by have h1 := (OwnF.lt HO5.out i e).1; have h2 : i = q := e2; omega)).mono HB3.out.size
  have o2 := (OwnF.kp HO89.out hk (fun i e e2 => by have h1 := (OwnF.lt HO8.out i e).1; have h2 : i = q := e2; omega)).mono HB6.out.size
  have hne : ∀ i, (Value.slice a3 n1 c3).ownBlock = some i → (Value.slice a4 n2 c4).ownBlock = some i → False := fun i e e2 => by
    have h1 := (OwnF.lt HO6.out i e).2
    have h2 := (OwnF.lt HO8.out i e2).1
    omega
  have hl1 := HL1.out
  have hl2 := HL2.out
  exact ⟨_, _, _, _, rfl, ⟨hl1, hl2, by unfold OwnT; rw [hl1]; exact o1, by unfold OwnT; rw [hl2]; exact o2, hne, fun i e => (OwnF.lt o1 i e).2, fun i e => (OwnF.lt o2 i e).2⟩, hk.below HB9.out (fun i e => by omega) HB9.out.size⟩
end Go.Proofs.YtgpfabblmoffiaaDoor.Lg
