/-
  The document's own: a book with another state of a task; one with a task charged.
-/
import Derived.Test.YtgpfabblmoffiaaDoorLgR4
namespace Go.Proofs.YtgpfabblmoffiaaDoor.Lg
open Go.ChangeShapes Go.WideShapes Go.ChangeAt Go.RowKit
open Go.Proofs.YtgpfabblmoffiaaDoor.Base Go.Proofs.YtgpfabblmoffiaaDoor.Rf
set_option linter.unusedVariables false
theorem kp_three (w : World) (g o : Nat) (x : TS) : Kp (fun j => j = g) w (set3 w g o x) := (Kp.of_grown (grown_set3 w g o x)).mono (fun j e _ => (Option.some.inj e).symm)
set_option maxHeartbeats 4000000 in
set_option maxRecDepth 100000 in
theorem with_any (b : Bk) (K i : Int) (x : TS) (a1 a2 : Option Addr) (n1 c1 n2 c2 : Nat) (w : World) (hi : Inn w b a1 n1 c1 a2 n2 c2) (hth : thr b K i = true) (hn1 : n1 ≤ 1000000000) (hn2 : n2 ≤ 1000000000) :
    Calls Tryd.prog 55 #[.agg #[.int .i64 b.t, .slice a1 n1 c1, .slice a2 n2 c2, .bool b.f], .agg #[.int .i64 K, .int .i64 i], .agg #[.int .i64 x.s, .int .i64 x.a, .int .i64 x.c]] w fun e w' => ∃ a3 c3 a4 c4, e = .returned (.agg #[.int .i64 b.t, .slice a3 n1 c3, .slice a4 n2 c4, .bool b.f]) ∧ Ans w' w.heap.size w'.heap.size a3 n1 c3 (put b K i x b.f).m a4 n2 c4 (put b K i x b.f).r ∧ Below w.heap.size w w' := by
  obtain ⟨w1, w2, g, q, hw1, hw2, hg, hq, HC, HI, HB, HGQ0⟩ := box_bt b.t (.slice a1 n1 c1) (.slice a2 n2 c2) b.f K i w
  obtain ⟨w3, hw3⟩ : ∃ w3, w2.alloc (.cells #[.int .i64 x.s, .int .i64 x.a, .int .i64 x.c] 43) = w3 := ⟨_, rfl⟩
  have hb3 : Below w2.heap.size w2 w3 := by rw [← hw3]; exact (Below.refl _ _).alloc (Nat.le_refl _) _
  have hT3 : TC w3 w2.heap.size x := by rw [← hw3]; exact tc_new w2 x
  obtain ⟨w4, hw4⟩ : ∃ w4, w3.alloc (.cells #[.int .i64 0, .slice none 0 0, .slice none 0 0, .bool false] 26) = w4 := ⟨_, rfl⟩
  have hb4 : Below w3.heap.size w3 w4 := by rw [← hw4]; exact (Below.refl _ _).alloc (Nat.le_refl _) _
  have hR4 : BC w4 w3.heap.size 0 (.slice none 0 0) (.slice none 0 0) false := by rw [← hw4]; exact bc_new _ _ _ _ _
  have HB4 : Hid (Below w.heap.size w w4) := below_trans HB.out (below_trans hb3 hb4)
  have HC4 := hide ((HC.out.below hb3).below hb4)
  have HI4 := hide ((HI.out.below hb3).below hb4)
  have HT4 := hide (hT3.below hb4)
  have HR4 := hide hR4
  have HLT : Hid (q < w2.heap.size ∧ w2.heap.size < w3.heap.size ∧ w3.heap.size < w4.heap.size) := ⟨HGQ0.out.2, hT3.lt, hR4.lt⟩
  clear hT3 hR4 hb3 hb4
  obtain ⟨p, hp⟩ : ∃ p, w2.heap.size = p := ⟨_, rfl⟩
  obtain ⟨r, hr⟩ : ∃ r, w3.heap.size = r := ⟨_, rfl⟩
  rw [hp] at HT4
  rw [hr] at HR4
  have HGQ : Hid (w.heap.size = g ∧ g < q ∧ q < p ∧ p < r ∧ r < w4.heap.size) := by
    obtain ⟨l1, l2, l3⟩ := HLT.out
    exact ⟨hg, HGQ0.out.1, by omega, by omega, by omega⟩
  have HCP := hide (copied_any b a1 a2 n1 c1 n2 c2 w4 (hi.below HB4.out) hn1 hn2)
  obtain ⟨h0i, hlt, hkk⟩ := thr_kind hth
  obtain ⟨k, rfl⟩ : ∃ k : Nat, i = (k : Int) := ⟨i.toNat, by omega⟩
  rw [Int.toNat_natCast] at hlt
  have HKK := hide hkk
  have HL1 := hide hi.r1.1
  have HL2 := hide hi.r2.1
  clear hkk hi
  have x0 := HC4.out.c0
  have x1 := HC4.out.c1
  have x2 := HC4.out.c2
  have x3 := HC4.out.c3
  go_enter Tryd.func55, Tryd.ntmps55
  go_wp2_with fail
  refine HCP.out.mono ?_
  clear hw1 hw2 hw3 hw4 hg hq hp hr x0 x1 x2 x3
  rintro e w5 ⟨a3, c3, a4, c4, rfl, hA5, hb5⟩
  obtain ⟨w6, hw6⟩ : ∃ w6, w5.alloc (.cells #[.int .i64 b.t, .slice a3 n1 c3, .slice a4 n2 c4, .bool b.f] 26) = w6 := ⟨_, rfl⟩
  have hb6 : Below w5.heap.size w5 w6 := by rw [← hw6]; exact (Below.refl _ _).alloc (Nat.le_refl _) _
  have HS6 : Hid (BC w6 w5.heap.size b.t (.slice a3 n1 c3) (.slice a4 n2 c4) b.f) := by rw [← hw6]; exact bc_new _ _ _ _ _
  have HB46 := hide (below_trans hb5 hb6)
  have HA6 := hide (hA5.below hb6)
  have HI6 := hide (HI4.out.below HB46.out)
  have HT6 := hide (HT4.out.below HB46.out)
  have HR6 := hide (HR4.out.below HB46.out)
  have HL5 : Hid (w4.heap.size ≤ w5.heap.size) := hb5.size
  clear hA5 hb5 hb6
  obtain ⟨s, hs⟩ : ∃ s, w5.heap.size = s := ⟨_, rfl⟩
  rw [hs] at HS6
  have HSS := hide hs
  obtain ⟨gc, N, cc, hlv, hN, hTF, hend⟩ := lists_end (k := k) HKK.out HL1.out HL2.out HA6.out.o1 HA6.out.o2 HA6.out.ne hlt
  have HTF := hide hTF
  have HEND := hide hend
  have hgcs : gc < s := by
    have h1 := HA6.out.e1
    have h2 := HA6.out.e2
    rcases HKK.out with ⟨rfl, -⟩ | ⟨rfl, -⟩
    · have e : Value.slice a3 n1 c3 = .slice (some ⟨gc, 0, none⟩) N cc := hlv
      have := h1 gc (by rw [e]; rfl); omega
    · have e : Value.slice a4 n2 c4 = .slice (some ⟨gc, 0, none⟩) N cc := hlv
      have := h2 gc (by rw [e]; rfl); omega
  have HGC : Hid (w4.heap.size ≤ gc ∧ gc < s) := ⟨HTF.out.lt.1, hgcs⟩
  have hkN2 : k < N := by omega
  have hkN : (k : Int) < (N : Int) := by omega
  clear hTF hend hgcs hN
  obtain ⟨p0, p1, p2⟩ := HTF.out.at k hkN2
  have f0 := HTF.out.fz (k * 3)
  have f1 := HTF.out.fz (k * 3 + 1)
  have f2 := HTF.out.fz (k * 3 + 2)
  obtain ⟨w7, hw7⟩ : ∃ w7, ((w6.setCell ⟨gc, k * 3, none⟩ (.int .i64 x.s)).setCell ⟨gc, k * 3 + 1, none⟩ (.int .i64 x.a)).setCell ⟨gc, k * 3 + 2, none⟩ (.int .i64 x.c) = w7 := ⟨_, rfl⟩
  have hw7' : set3 w6 gc (k * 3) x = w7 := hw7
  have HK7 : Hid (Kp (fun j => j = gc) w6 w7) := by rw [← hw7']; exact kp_three w6 gc (k * 3) x
  have HT7 : Hid (TF w7 w4.heap.size gc N cc (setT (fun j => (lst b K).getD j z0) k x)) := by rw [← hw7']; exact HTF.out.set k x hkN2
  have HS7 := hide (HS6.out.kp HK7.out (by have := HGC.out; omega))
  have HR7 := hide (HR6.out.kp HK7.out (by have := HGC.out; have := HGQ.out; omega))
  clear hw7'
  have q0 := HI6.out.c0
  have q1 := HI6.out.c1
  have t0 := HT6.out.c0
  have t1 := HT6.out.c1
  have t2 := HT6.out.c2
  have v0 := HS7.out.c0
  have v1 := HS7.out.c1
  have v2 := HS7.out.c2
  have v3 := HS7.out.c3
  have r0 := HR7.out.c0
  have r1 := HR7.out.c1
  have r2 := HR7.out.c2
  have r3 := HR7.out.c3
  have rz0 := HR7.out.fz 0
  have rz1 := HR7.out.fz 1
  have rz2 := HR7.out.fz 2
  have rz3 := HR7.out.fz 3
  rcases HKK.out with ⟨rfl, -⟩ | ⟨rfl, -⟩
  · have e : Value.slice a3 n1 c3 = .slice (some ⟨gc, 0, none⟩) N cc := hlv
    simp only [Value.slice.injEq] at e
    obtain ⟨rfl, rfl, rfl⟩ := e
    clear hlv
    have s1 := HS6.out.c1
    go_wp2_with fail
    have hk8 := kp_four w7 r b.t (.slice (some ⟨gc, 0, none⟩) n1 c3) (.slice a4 n2 c4) b.f
    have hgq := HGQ.out
    have hgc := HGC.out
    have hl5 := HL5.out
    refine bodyPost_ret (bc_ret rfl _ _ r b.t _ _ b.f rfl (HR7.out.set4 b.t (.slice (some ⟨gc, 0, none⟩) n1 c3) (.slice a4 n2 c4) b.f)) rfl ?_
    have hE := HEND.out (set4 w7 r b.t (.slice (some ⟨gc, 0, none⟩) n1 c3) (.slice a4 n2 c4) b.f) x b.f (HT7.out.kp hk8 (by omega)) ((HK7.out.mono (fun i e _ => .inl e)).trans hk8 (fun i e _ => .inr (by omega)))
    refine ⟨_, _, _, _, rfl, ans_mono hE HB4.out.size (Nat.le_refl _), hk8.below (HK7.out.below (below_trans HB4.out HB46.out) (fun i e => by omega) (by have := HB4.out.size; have := HB46.out.size; omega)) (fun i e => by omega) (by have := HB4.out.size; have := HB46.out.size; have := HK7.out.size; omega)⟩
  · have e : Value.slice a4 n2 c4 = .slice (some ⟨gc, 0, none⟩) N cc := hlv
    simp only [Value.slice.injEq] at e
    obtain ⟨rfl, rfl, rfl⟩ := e
    clear hlv
    have s2 := HS6.out.c2
    go_wp2_with fail
    have hk8 := kp_four w7 r b.t (.slice a3 n1 c3) (.slice (some ⟨gc, 0, none⟩) n2 c4) b.f
    have hgq := HGQ.out
    have hgc := HGC.out
    have hl5 := HL5.out
    refine bodyPost_ret (bc_ret rfl _ _ r b.t _ _ b.f rfl (HR7.out.set4 b.t (.slice a3 n1 c3) (.slice (some ⟨gc, 0, none⟩) n2 c4) b.f)) rfl ?_
    have hE := HEND.out (set4 w7 r b.t (.slice a3 n1 c3) (.slice (some ⟨gc, 0, none⟩) n2 c4) b.f) x b.f (HT7.out.kp hk8 (by omega)) ((HK7.out.mono (fun i e _ => .inl e)).trans hk8 (fun i e _ => .inr (by omega)))
    refine ⟨_, _, _, _, rfl, ans_mono hE HB4.out.size (Nat.le_refl _), hk8.below (HK7.out.below (below_trans HB4.out HB46.out) (fun i e => by omega) (by have := HB4.out.size; have := HB46.out.size; omega)) (fun i e => by omega) (by have := HB4.out.size; have := HB46.out.size; have := HK7.out.size; omega)⟩
end Go.Proofs.YtgpfabblmoffiaaDoor.Lg
