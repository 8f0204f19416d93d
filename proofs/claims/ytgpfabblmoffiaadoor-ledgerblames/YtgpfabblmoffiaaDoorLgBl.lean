/-
  Blame: the program's answer.
-/
import Derived.Test.YtgpfabblmoffiaaDoorLgBlM
namespace Go.Proofs.YtgpfabblmoffiaaDoor.Lg
open Go.ChangeShapes Go.WideShapes Go.ChangeAt Go.RowKit
open Go.Proofs.YtgpfabblmoffiaaDoor.Base Go.Proofs.YtgpfabblmoffiaaDoor.Rf
set_option linter.unusedVariables false
theorem Ans.inn {w : World} {B E : Nat} {b : Bk} {a1 : Option Addr} {n1 c1 : Nat} {a2 : Option Addr} {n2 c2 : Nat} (h : Ans w B E a1 n1 c1 b.m a2 n2 c2 b.r) (hn1 : n1 ≤ 1000000000) (hn2 : n2 ≤ 1000000000) : Inn w b a1 n1 c1 a2 n2 c2 :=
  ⟨h.r1 hn1, h.r2 hn2, fun e => by obtain ⟨a', c', e2, -, h3, -⟩ := OwnT.shape h.o1; cases e2; have := h3 e; have := h.l1; omega, fun e => by obtain ⟨a', c', e2, -, h3, -⟩ := OwnT.shape h.o2; cases e2; have := h3 e; have := h.l2; omega⟩
theorem pair_cells {w : World} {q : Nat} {K i : Int} (h : w.heap[q]? = some (.cells #[.int .i64 K, .int .i64 i] 37)) : w.cell? ⟨q, 0, none⟩ = some (.int .i64 K) ∧ w.cell? ⟨q, 1, none⟩ = some (.int .i64 i) := ⟨by rw [cell_of_row _ _ _ _ _ _ h]; rfl, by rw [cell_of_row _ _ _ _ _ _ h]; rfl⟩
set_option maxHeartbeats 1000000 in
set_option maxRecDepth 100000 in
theorem blame_any (b : Bk) (i j n : Int) (a1 a2 : Option Addr) (n1 c1 n2 c2 : Nat) (w : World) (ht : Tab w) (hi : Inn w b a1 n1 c1 a2 n2 c2) :
    Calls Tryd.prog 31 #[.agg #[.int .i64 b.t, .slice a1 n1 c1, .slice a2 n2 c2, .bool b.f], .int .i64 i, .int .i64 j, .int .i64 n] w fun e w' => ∃ a3 n3 c3 a4 n4 c4, e = .returned (.tuple #[.agg #[.int .i64 (blmB b i j n).t, .slice a3 n3 c3, .slice a4 n4 c4, .bool (blmB b i j n).f], .bool (blmC b i j n), .int .i64 (blmE b i j n)]) ∧ Ans w' w.heap.size w'.heap.size a3 n3 c3 (blmB b i j n).m a4 n4 c4 (blmB b i j n).r ∧ Below w.heap.size w w' := by
  obtain ⟨w1, hw1⟩ : ∃ w1, w.alloc (.cells #[.int .i64 b.t, .slice a1 n1 c1, .slice a2 n2 c2, .bool b.f] 26) = w1 := ⟨_, rfl⟩
  have hb1 : Below w.heap.size w w1 := by rw [← hw1]; exact (Below.refl _ _).alloc (Nat.le_refl _) _
  have hC1 : BC w1 w.heap.size b.t (.slice a1 n1 c1) (.slice a2 n2 c2) b.f := by rw [← hw1]; exact bc_new _ _ _ _ _
  obtain ⟨w2, hw2⟩ : ∃ w2, w1.alloc (.cells #[.int .i64 0, .slice none 0 0, .slice none 0 0, .bool false] 26) = w2 := ⟨_, rfl⟩
  have hb2 : Below w1.heap.size w1 w2 := by rw [← hw2]; exact (Below.refl _ _).alloc (Nat.le_refl _) _
  have hR2 : BC w2 w1.heap.size 0 (.slice none 0 0) (.slice none 0 0) false := by rw [← hw2]; exact bc_new _ _ _ _ _
  obtain ⟨w3, hw3⟩ : ∃ w3, w2.alloc (.cells #[.int .i64 1, .int .i64 i] 37) = w3 := ⟨_, rfl⟩
  have hb3 : Below w2.heap.size w2 w3 := by rw [← hw3]; exact (Below.refl _ _).alloc (Nat.le_refl _) _
  have hP3 : w3.heap[w2.heap.size]? = some (.cells #[.int .i64 1, .int .i64 i] 37) := by rw [← hw3]; exact heap_alloc_new _ _
  obtain ⟨w4, hw4⟩ : ∃ w4, w3.alloc (.cells #[.int .i64 0, .int .i64 j] 37) = w4 := ⟨_, rfl⟩
  have hb4 : Below w3.heap.size w3 w4 := by rw [← hw4]; exact (Below.refl _ _).alloc (Nat.le_refl _) _
  have hQ4 : w4.heap[w3.heap.size]? = some (.cells #[.int .i64 0, .int .i64 j] 37) := by rw [← hw4]; exact heap_alloc_new _ _
  obtain ⟨w5, hw5⟩ : ∃ w5, w4.alloc (.cells #[.int .i64 1, .int .i64 i, .int .i64 0, .int .i64 j] 37) = w5 := ⟨_, rfl⟩
  have hb5 : Below w4.heap.size w4 w5 := by rw [← hw5]; exact (Below.refl _ _).alloc (Nat.le_refl _) _
  have hY5 : w5.heap[w4.heap.size]? = some (.cells #[.int .i64 1, .int .i64 i, .int .i64 0, .int .i64 j] 37) := by rw [← hw5]; exact heap_alloc_new _ _
  have hp3 : w2.heap.size < w3.heap.size := (Array.getElem?_eq_some_iff.1 hP3).1
  have hq4 : w3.heap.size < w4.heap.size := (Array.getElem?_eq_some_iff.1 hQ4).1
  have HB4 : Hid (Below w.heap.size w w4) := below_trans hb1 (below_trans hb2 (below_trans hb3 hb4))
  have HB5 : Hid (Below w.heap.size w w5) := below_trans HB4.out hb5
  have HC4 := hide (((hC1.below hb2).below hb3).below hb4)
  have HC5 := hide (HC4.out.below hb5)
  have HR5 := hide (((hR2.below hb3).below hb4).below hb5)
  have HP4 : Hid (w4.heap[w2.heap.size]? = some (.cells #[.int .i64 1, .int .i64 i] 37)) := (hb4.block _ hp3).trans hP3
  have HP5 : Hid (w5.heap[w2.heap.size]? = some (.cells #[.int .i64 1, .int .i64 i] 37)) := (hb5.block _ (Nat.lt_of_lt_of_le hp3 hb4.size)).trans HP4.out
  have HQ4 := hide hQ4
  have HQ5 : Hid (w5.heap[w3.heap.size]? = some (.cells #[.int .i64 0, .int .i64 j] 37)) := (hb5.block _ hq4).trans hQ4
  have HTL : Hid (TL w5 w4.heap.size 2 (fun k => if k = 0 then (1, i) else (0, j))) := ⟨(Array.getElem?_eq_some_iff.1 hY5).1, fun k hk => by
    rcases (show k = 0 ∨ k = 1 by omega) with rfl | rfl
    · exact ⟨by rw [cell_of_row _ _ _ _ _ _ hY5]; rfl, by rw [cell_of_row _ _ _ _ _ _ hY5]; rfl⟩
    · exact ⟨by rw [cell_of_row _ _ _ _ _ _ hY5]; rfl, by rw [cell_of_row _ _ _ _ _ _ hY5]; rfl⟩⟩
  have HLT : Hid (w.heap.size < w1.heap.size ∧ w1.heap.size < w2.heap.size ∧ w2.heap.size < w3.heap.size ∧ w3.heap.size < w4.heap.size ∧ w4.heap.size < w5.heap.size) := ⟨hC1.lt, hR2.lt, hp3, hq4, (Array.getElem?_eq_some_iff.1 hY5).1⟩
  have HTA := hide ht
  have HIN := hide hi
  clear hC1 hR2 hP3 hQ4 hY5 hb1 hb2 hb3 hb4 hb5 hp3 hq4 ht hi
  have HRF := hide (refuse_any b a1 a2 n1 c1 n2 c2 w4.heap.size 2 2 (fun k => if k = 0 then (1, i) else (0, j)) w5 (HTA.out.below HB5.out) (HIN.out.r1.below HB5.out) (HIN.out.r2.below HB5.out) HTL.out (by omega))
  obtain ⟨g, hg⟩ : ∃ g, w.heap.size = g := ⟨_, rfl⟩
  obtain ⟨r, hr⟩ : ∃ r, w1.heap.size = r := ⟨_, rfl⟩
  obtain ⟨p, hp⟩ : ∃ p, w2.heap.size = p := ⟨_, rfl⟩
  obtain ⟨q, hq⟩ : ∃ q, w3.heap.size = q := ⟨_, rfl⟩
  obtain ⟨y, hy⟩ : ∃ y, w4.heap.size = y := ⟨_, rfl⟩
  rw [hg] at HC4 HC5
  rw [hr] at HR5
  rw [hp] at HP4 HP5
  rw [hq] at HQ4 HQ5
  rw [hy] at HRF
  have HGQ : Hid (w.heap.size = g ∧ g < r ∧ r < p ∧ p < q ∧ q < y ∧ y < w5.heap.size) := by
    obtain ⟨l1, l2, l3, l4, l5⟩ := HLT.out
    exact ⟨hg, by omega, by omega, by omega, by omega, by omega⟩
  have x0 := HC4.out.c0
  have x1 := HC4.out.c1
  have x2 := HC4.out.c2
  have x3 := HC4.out.c3
  obtain ⟨p0, p1⟩ := pair_cells HP4.out
  obtain ⟨q0, q1⟩ := pair_cells HQ4.out
  have HE : Hid (∀ W, Below w5.heap.size w5 W → Below w.heap.size w (set4 W r 0 (.slice none 0 0) (.slice none 0 0) false)) := fun W hW => (kp_four W r 0 (.slice none 0 0) (.slice none 0 0) false).below (below_trans HB5.out hW) (fun i e => by have h1 : i = r := e; have := HGQ.out; omega) (by have := HB5.out.size; have := hW.size; omega)
  go_enter Tryd.func31, Tryd.ntmps31
  go_wp2_with fail
  refine HRF.out.mono ?_
  clear hw1 hw2 hw3 hw4 hw5 hg hr hp hq hy x0 x1 x2 x3 p0 p1 q0 q1
  rintro e w6 ⟨rfl, hb6⟩
  have HB6 := hide hb6
  have HBW6 := hide (below_trans HB5.out hb6)
  have HC6 := hide (HC5.out.below hb6)
  have HR6 := hide (HR5.out.below hb6)
  have HP6 : Hid (w6.heap[p]? = some (.cells #[.int .i64 1, .int .i64 i] 37)) := (hb6.block p (by have := HGQ.out; omega)).trans HP5.out
  have HQ6 : Hid (w6.heap[q]? = some (.cells #[.int .i64 0, .int .i64 j] 37)) := (hb6.block q (by have := HGQ.out; omega)).trans HQ5.out
  clear hb6
  rcases Bool.eq_false_or_eq_true (chk b) with hc | hc
  · rcases Bool.eq_false_or_eq_true (thr b 1 i && thr b 0 j) with hth | hth
    · rw [refN_ok hc (by rw [thrN_two]; exact hth)]
      have hok := chk_ok hc
      have HOK := hide hok
      obtain ⟨ht1, ht0⟩ : thr b 1 i = true ∧ thr b 0 j = true := by rwa [Bool.and_eq_true] at hth
      have HT1 := hide ht1
      have HT0 := hide ht0
      have hg1 := good_small (tsk_good hok ht1) hok.t2
      have hg0 := good_small (tsk_good hok ht0) hok.t2
      have HG1 := hide hg1
      have HG0 := hide hg0
      have HCO := hide hc
      have HTH := hide hth
      obtain ⟨h0j, hltj, -⟩ := thr_kind ht0
      have hlst : lst b 0 = b.m := by unfold lst; rw [if_pos rfl]
      rw [hlst] at hltj
      obtain ⟨k, rfl⟩ : ∃ k : Nat, j = (k : Int) := ⟨j.toNat, by omega⟩
      rw [Int.toNat_natCast] at hltj
      have hkn : k < n1 := by rw [← HIN.out.r1.1]; exact hltj
      have hki : (k : Int) < (n1 : Int) := by omega
      have hxx : b.m.getD k z0 = tsk b 0 (k : Int) := by unfold tsk; rw [hlst, Int.toNat_natCast]
      have HAT := hide (fun W (hW : Below w.heap.size w W) => (HIN.out.r1.below hW).at k hkn)
      rw [hxx] at HAT
      clear hxx hlst hltj hc hth hok ht1 ht0 hg1 hg0 h0j
      obtain ⟨bb, oo, he, hbl, e0, e1, e2⟩ := HAT.out w6 HBW6.out
      obtain ⟨w7, hw7⟩ : ∃ w7, w6.alloc (.cells #[.int .i64 (tsk b 0 (k : Int)).s, .int .i64 (tsk b 0 (k : Int)).a, .int .i64 (tsk b 0 (k : Int)).c] 43) = w7 := ⟨_, rfl⟩
      have hb7 : Below w6.heap.size w6 w7 := by rw [← hw7]; exact (Below.refl _ _).alloc (Nat.le_refl _) _
      have hS7 : TC w7 w6.heap.size (tsk b 0 (k : Int)) := by rw [← hw7]; exact tc_new _ _
      obtain ⟨s, hs⟩ : ∃ s, w6.heap.size = s := ⟨_, rfl⟩
      rw [hs] at hS7
      have HS7 := hide hS7
      have HSZ : Hid (w6.heap.size = s ∧ s < w7.heap.size ∧ w5.heap.size ≤ s) := ⟨hs, hS7.lt, by rw [← hs]; exact HB6.out.size⟩
      have HBW7 := hide (below_trans HBW6.out hb7)
      have HB57 := hide (below_trans HB6.out hb7)
      have HC7 := hide (HC6.out.below hb7)
      have HR7 := hide (HR6.out.below hb7)
      have HP7 : Hid (w7.heap[p]? = some (.cells #[.int .i64 1, .int .i64 i] 37)) := (hb7.block p (Array.getElem?_eq_some_iff.1 HP6.out).1).trans HP6.out
      have HQ7 : Hid (w7.heap[q]? = some (.cells #[.int .i64 0, .int .i64 (k : Int)] 37)) := (hb7.block q (Array.getElem?_eq_some_iff.1 HQ6.out).1).trans HQ6.out
      clear hS7 hb7
      have x1 := HC6.out.c1
      rw [he] at x1
      have HEA := hide he
      clear he hbl
      have y0 := HC7.out.c0
      have y1 := HC7.out.c1
      have y2 := HC7.out.c2
      have y3 := HC7.out.c3
      have s1 := HS7.out.c1
      obtain ⟨p0, p1⟩ := pair_cells HP7.out
      have r0 := HR7.out.c0
      have r1 := HR7.out.c1
      have r2 := HR7.out.c2
      have r3 := HR7.out.c3
      have rz0 := HR7.out.fz 0
      have rz1 := HR7.out.fz 1
      have rz2 := HR7.out.fz 2
      have rz3 := HR7.out.fz 3
      have hin := HIN.out.below HBW7.out
      rcases Bool.eq_false_or_eq_true (wi n 1 (tsk b 0 (k : Int)).a) with hwi | hwi
      · have hna := wi_iff.1 hwi
        have HNA : Hid (¬ (n < 1 ∨ (tsk b 0 (k : Int)).a < n)) := by show ¬ _; omega
        clear hna
        by_cases hfs : b.f = false ∧ (tsk b 1 i).s = 1
        · obtain ⟨hf, hs1⟩ := hfs
          have hh := hld_ok HOK.out hf HT1.out hs1
          have HH := hide hh
          have hlt := tsk_below HOK.out hf HT1.out
          have hDf : decide ((tsk b 1 i).c = b.t) = false := decide_eq_false (by omega)
          have hpe : put b 1 i ⟨aft (3 : Nat) 1, (tsk b 1 i).a, (tsk b 1 i).c⟩ false = hld b i := by unfold hld; rw [hf]; rfl
          have hcg := changed_ok b 1 i 3 a1 a2 n1 c1 n2 c2 59 #[] (fun _ => False) (fun _ => True) (fun _ => True) (tsk b 1 i) w7 (HTA.out.below HBW7.out) hin.r1 hin.r2 HOK.out HT1.out (by omega) hf (by rw [hs1]; decide) hin.z1 hin.z2 (enterC Tryd.func59 (by kernel_rfl) (by kernel_rfl)) (acts_wait _) (fun _ _ => trivial) (fun _ _ _ _ _ _ => trivial) (fun _ h => h.elim) rfl
          rw [hs1, hDf] at hcg
          have HPE := hide hpe
          have HCG := hide hcg
          have HEE := hide (blmE_ok HCO.out HTH.out HNA.out (by rintro (h | h); rw [hf] at h; cases h; exact h hs1))
          have hl1 : n1 ≤ 1000000000 := by rw [← HIN.out.r1.1]; have := HOK.out.m; omega
          have hl2 : n2 ≤ 1000000000 := by rw [← HIN.out.r2.1]; have := HOK.out.r2; omega
          have HLN : Hid (n1 ≤ 1000000000 ∧ n2 ≤ 1000000000) := ⟨hl1, hl2⟩
          have HTE : Hid (tsk (hld b i) 0 (k : Int) = tsk b 0 (k : Int) ∧ thr (hld b i) 0 (k : Int) = true) := ⟨by simp [tsk, lst, hld, put], by have h := HT0.out; simpa [thr, lst, hld, put] using h⟩
          clear hf hs1 hh hlt hDf hpe hcg hin hl1 hl2
          go_wp2_with (go_at_call 58; refine (isWithin_any _ _ _ _).mono ?_; rw [hwi]; clear hwi; rintro e w' ⟨rfl, h⟩; obtain rfl := h.symm)
          refine HCG.out.mono ?_
          clear hw7 hs e0 e1 e2 x1 y0 y1 y2 y3 s1 p0 p1 r0 r1 r2 r3 rz0 rz1 rz2 rz3
          rintro e w8 ⟨a3, c3, a4, c4, rfl, hA8, hK8, -⟩
          rw [HPE.out] at hA8
          have hb8 : Below w7.heap.size w7 w8 := hK8.below (Below.refl _ _) (fun i e => e.elim) (Nat.le_refl _)
          have HA8 := hide hA8
          have HBW8 := hide (below_trans HBW7.out hb8)
          have HB78 := hide hb8
          have HC8 := hide (HC7.out.below hb8)
          have HR8 := hide (HR7.out.below hb8)
          have HS8 := hide (HS7.out.below hb8)
          have HQ8 : Hid (w8.heap[q]? = some (.cells #[.int .i64 0, .int .i64 (k : Int)] 37)) := (hb8.block q (Array.getElem?_eq_some_iff.1 HQ7.out).1).trans HQ7.out
          clear hA8 hK8 hb8
          have y0 := HC8.out.c0
          have y1 := HC8.out.c1
          have y2 := HC8.out.c2
          have y3 := HC8.out.c3
          have yz0 := HC8.out.fz 0
          have yz1 := HC8.out.fz 1
          have yz2 := HC8.out.fz 2
          have yz3 := HC8.out.fz 3
          obtain ⟨w9, hw9⟩ : ∃ w9, (((w8.setCell ⟨g, 0, none⟩ (.int .i64 b.t)).setCell ⟨g, 1, none⟩ (.slice a3 n1 c3)).setCell ⟨g, 2, none⟩ (.slice a4 n2 c4)).setCell ⟨g, 3, none⟩ (.bool false) = w9 := ⟨_, rfl⟩
          have HW9 : Hid (set4 w8 g b.t (.slice a3 n1 c3) (.slice a4 n2 c4) false = w9) := hw9
          have hk9 := kp_four w8 g b.t (.slice a3 n1 c3) (.slice a4 n2 c4) false
          rw [HW9.out] at hk9
          have HGG : Hid (g < w7.heap.size ∧ q < w7.heap.size ∧ s < w7.heap.size ∧ r < w7.heap.size ∧ s ≠ g ∧ q ≠ g ∧ r ≠ g ∧ s ≠ r) := by have h1 := HGQ.out; have h2 := HSZ.out; show _ ∧ _; refine ⟨?_, ?_, ?_, ?_, ?_, ?_, ?_, ?_⟩ <;> omega
          have HC9 : Hid (BC w9 g b.t (.slice a3 n1 c3) (.slice a4 n2 c4) false) := by rw [← HW9.out]; exact HC8.out.set4 _ _ _ _
          have HR9 := hide (HR8.out.kp hk9 (by have := HGG.out; omega))
          have HS9 := hide (HS8.out.kp hk9 (by have := HGG.out; omega))
          have HQ9 : Hid (w9.heap[q]? = some (.cells #[.int .i64 0, .int .i64 (k : Int)] 37)) := (hk9.block q (Array.getElem?_eq_some_iff.1 HQ8.out).1 (by have := HGG.out; omega)).trans HQ8.out
          have HA9 := hide (HA8.out.kp hk9 (fun i e => .inl (by have h1 : i = g := e; have := HGG.out; omega)))
          have HBW9 : Hid (Below w.heap.size w w9) := hk9.below HBW8.out (fun i e => by have h1 : i = g := e; have := HGQ.out; omega) HBW8.out.size
          have HL9 : Hid (w7.heap.size ≤ w8.heap.size ∧ w8.heap.size ≤ w9.heap.size) := ⟨HB78.out.size, hk9.size⟩
          clear hk9
          have y0' := HC9.out.c0
          have y1' := HC9.out.c1
          have y2' := HC9.out.c2
          have y3' := HC9.out.c3
          have s0 := HS9.out.c0
          have s1 := HS9.out.c1
          have s2 := HS9.out.c2
          have r0 := HR9.out.c0
          have r1 := HR9.out.c1
          have r2 := HR9.out.c2
          have r3 := HR9.out.c3
          have rz0 := HR9.out.fz 0
          have rz1 := HR9.out.fz 1
          have rz2 := HR9.out.fz 2
          have rz3 := HR9.out.fz 3
          have HEND : Hid (∀ W, Below w9.heap.size w9 W → blmC b i (k : Int) n = false → (∃ d3 n3 e3 d4 n4 e4, Ending.returned (.tuple #[.agg #[.int .i64 b.t, .slice a3 n1 c3, .slice a4 n2 c4, .bool false], .bool false, .int .i64 0]) = Ending.returned (.tuple #[.agg #[.int .i64 (blmB b i (k : Int) n).t, .slice d3 n3 e3, .slice d4 n4 e4, .bool (blmB b i (k : Int) n).f], .bool (blmC b i (k : Int) n), .int .i64 (blmE b i (k : Int) n)]) ∧ Ans (set4 W r b.t (.slice a3 n1 c3) (.slice a4 n2 c4) false) w.heap.size (set4 W r b.t (.slice a3 n1 c3) (.slice a4 n2 c4) false).heap.size d3 n3 e3 (blmB b i (k : Int) n).m d4 n4 e4 (blmB b i (k : Int) n).r ∧ Below w.heap.size w (set4 W r b.t (.slice a3 n1 c3) (.slice a4 n2 c4) false))) := fun W hW hc => by
            have hB : blmB b i (k : Int) n = hld b i := by unfold blmB; rw [if_pos HEE.out, if_neg (by rw [hc]; simp)]
            have hk := kp_four W r b.t (.slice a3 n1 c3) (.slice a4 n2 c4) false
            have hgg := HGG.out
            rw [hB, hc, HEE.out, HH.out.2.1, HH.out.2.2.1]
            exact ⟨_, _, _, _, _, _, rfl, ans_mono ((HA9.out.below hW).kp hk (fun i e => .inl (by have h1 : i = r := e; omega))) HBW7.out.size (by have := HL9.out; have := hW.size; exact Nat.le_trans (by omega) hk.size), hk.below (below_trans HBW9.out hW) (fun i e => by have h1 : i = r := e; have := HGQ.out; omega) (by have := HBW9.out.size; have := hW.size; omega)⟩
          by_cases hna : n = (tsk b 0 (k : Int)).a
          · have HNE := hide hna
            have hnb : (n != (tsk b 0 (k : Int)).a) = false := by simpa using hna
            have hg0 := HG0.out
            have HAL := hide (isAllowed_any 4 (tsk b 0 (k : Int)) w9 (HTA.out.below HBW9.out) (by omega) ⟨hg0.1, hg0.2.1⟩)
            by_cases h3 : (tsk b 0 (k : Int)).s = 3
            · have halb : (aft (4 : Nat) (tsk b 0 (k : Int)).s != -1) = true := by rw [h3]; decide
              rw [halb] at HAL
              have HS3 := hide h3
              clear hna h3 halb hg0
              have HBC : Hid (blmC b i (k : Int) n = true) := by show _ = _; unfold blmC; exact decide_eq_true ⟨HEE.out, HS3.out, HNE.out⟩
              have HPE2 : Hid (put (hld b i) 0 (k : Int) ⟨aft (4 : Nat) 3, (tsk b 0 (k : Int)).a, (tsk b 0 (k : Int)).c + 1⟩ (decide ((tsk b 0 (k : Int)).c + 1 = b.t)) = chg (hld b i) 0 (k : Int)) := by show _ = _; unfold chg; rw [HTE.out.1, HH.out.2.2.1]; rfl
              have HBB : Hid (blmB b i (k : Int) n = chg (hld b i) 0 (k : Int) ∧ (chg (hld b i) 0 (k : Int)).t = b.t ∧ (chg (hld b i) 0 (k : Int)).f = decide ((tsk b 0 (k : Int)).c + 1 = b.t)) := ⟨by unfold blmB; rw [if_pos HEE.out, if_pos HBC.out], by rw [← HPE2.out]; rfl, by rw [← HPE2.out]; rfl⟩
              go_wp2_with (go_at_call 37; refine HAL.out.mono ?_; clear hw9 s0 s1 s2 y0 y1 y2 y3 yz0 yz1 yz2 yz3 y0' y1' y2' y3' r0 r1 r2 r3 rz0 rz1 rz2 rz3; rintro e w10 ⟨rfl, hb10⟩; have HB10 := hide hb10; have HC10 := hide (HC9.out.below hb10); have HR10 := hide (HR9.out.below hb10); have HA10 := hide (HA9.out.below hb10); have HQ10 : Hid (w10.heap[q]? = some (.cells #[.int .i64 0, .int .i64 (k : Int)] 37)) := hide ((hb10.block q (Array.getElem?_eq_some_iff.1 HQ9.out).1).trans HQ9.out); clear hb10; have y0 := HC10.out.c0; have y1 := HC10.out.c1; have y2 := HC10.out.c2; have y3 := HC10.out.c3; obtain ⟨q0, q1⟩ := pair_cells HQ10.out)
              have HBW10 := hide (below_trans HBW9.out HB10.out)
              have hin2 := Ans.inn (b := hld b i) HA10.out HLN.out.1 HLN.out.2
              have hg0 := HG0.out
              have hcg2 := changed_ok (hld b i) 0 (k : Int) 4 a3 a4 n1 c3 n2 c4 60 #[] (fun _ => False) (fun _ => True) (fun _ => True) ⟨(tsk (hld b i) 0 (k : Int)).s, (tsk (hld b i) 0 (k : Int)).a, (tsk (hld b i) 0 (k : Int)).c + 1⟩ w10 (HTA.out.below HBW10.out) hin2.r1 hin2.r2 HH.out.1 HTE.out.2 (by omega) HH.out.2.1 (by rw [HTE.out.1, HS3.out]; decide) hin2.z1 hin2.z2 (enterC Tryd.func60 (by kernel_rfl) (by kernel_rfl)) (acts_redo _ (by rw [HTE.out.1]; omega) (by rw [HTE.out.1]; omega)) (fun _ _ => trivial) (fun _ _ _ _ _ _ => trivial) (fun _ h => h.elim) rfl
              rw [HTE.out.1, HS3.out, HH.out.2.1, HH.out.2.2.1] at hcg2
              have HCG2 := hide hcg2
              clear hcg2 hin2 hg0
              refine HCG2.out.mono ?_
              clear y0 y1 y2 y3 q0 q1
              rintro e w11 ⟨a5, c5, a6, c6, rfl, hA11, hK11, -⟩
              rw [HPE2.out] at hA11
              have hb11 : Below w10.heap.size w10 w11 := hK11.below (Below.refl _ _) (fun i e => e.elim) (Nat.le_refl _)
              have HA11 := hide hA11
              have HB11 := hide hb11
              have HC11 := hide (HC10.out.below hb11)
              have HR11 := hide (HR10.out.below hb11)
              clear hA11 hK11 hb11
              obtain ⟨D, hD⟩ : ∃ D, decide ((tsk b 0 (k : Int)).c + 1 = b.t) = D := ⟨_, rfl⟩
              rw [hD] at HBB
              try rw [hD]
              clear hD
              have y0 := HC11.out.c0
              have y1 := HC11.out.c1
              have y2 := HC11.out.c2
              have y3 := HC11.out.c3
              have yz0 := HC11.out.fz 0
              have yz1 := HC11.out.fz 1
              have yz2 := HC11.out.fz 2
              have yz3 := HC11.out.fz 3
              obtain ⟨w12, hw12⟩ : ∃ w12, (((w11.setCell ⟨g, 0, none⟩ (.int .i64 b.t)).setCell ⟨g, 1, none⟩ (.slice a5 n1 c5)).setCell ⟨g, 2, none⟩ (.slice a6 n2 c6)).setCell ⟨g, 3, none⟩ (.bool D) = w12 := ⟨_, rfl⟩
              have HW12 : Hid (set4 w11 g b.t (.slice a5 n1 c5) (.slice a6 n2 c6) D = w12) := hw12
              have hk12 := kp_four w11 g b.t (.slice a5 n1 c5) (.slice a6 n2 c6) D
              rw [HW12.out] at hk12
              have HK12 := hide hk12
              have HC12 : Hid (BC w12 g b.t (.slice a5 n1 c5) (.slice a6 n2 c6) D) := by rw [← HW12.out]; exact HC11.out.set4 _ _ _ _
              have HR12 := hide (HR11.out.kp hk12 (by have := HGG.out; omega))
              clear hk12
              have u0 := HC12.out.c0
              have u1 := HC12.out.c1
              have u2 := HC12.out.c2
              have u3 := HC12.out.c3
              have r0 := HR12.out.c0
              have r1 := HR12.out.c1
              have r2 := HR12.out.c2
              have r3 := HR12.out.c3
              have rz0 := HR12.out.fz 0
              have rz1 := HR12.out.fz 1
              have rz2 := HR12.out.fz 2
              have rz3 := HR12.out.fz 3
              go_wp2_with fail
              have hk := kp_four w12 r b.t (.slice a5 n1 c5) (.slice a6 n2 c6) D
              have hgg := HGG.out
              have hl9 := HL9.out
              have hgq := HGQ.out
              have hs10 := HB10.out.size
              have hs11 := HB11.out.size
              have hs12 := HK12.out.size
              have hw9s := HBW9.out.size
              refine bodyPost_ret (bc_ret3 rfl _ _ r b.t _ _ _ rfl (HR12.out.set4 b.t (.slice a5 n1 c5) (.slice a6 n2 c6) D)) rfl ?_
              have hA := (HA11.out.kp HK12.out (fun i e => .inl (by have h1 : i = g := e; omega))).kp hk (fun i e => .inl (by have h1 : i = r := e; omega))
              rw [HBB.out.1, HBB.out.2.1, HBB.out.2.2, HBC.out, HEE.out]
              exact ⟨_, _, _, _, _, _, rfl, ans_mono hA HBW10.out.size (Nat.le_trans hs12 hk.size), hk.below (HK12.out.below (below_trans HBW10.out HB11.out) (fun i e => by have h1 : i = g := e; omega) (by omega)) (fun i e => by have h1 : i = r := e; omega) (by omega)⟩
            · have halb : (aft (4 : Nat) (tsk b 0 (k : Int)).s != -1) = false := by
                have h4 := (aft4 ⟨hg0.1, hg0.2.1⟩).1
                by_cases h5 : aft (4 : Nat) (tsk b 0 (k : Int)).s = -1
                · rw [h5]; decide
                · exact absurd (h4.1 h5) h3
              rw [halb] at HAL
              have HBC : Hid (blmC b i (k : Int) n = false) := by show _ = _; unfold blmC; exact decide_eq_false (fun e => h3 e.2.1)
              clear hna h3 halb hg0
              go_wp2_with (refine HAL.out.mono ?_; clear hw9 s0 s1 s2 y0 y1 y2 y3 yz0 yz1 yz2 yz3 y0' y1' y2' y3' r0 r1 r2 r3 rz0 rz1 rz2 rz3; rintro e w10 ⟨rfl, hb10⟩; have HB10 := hide hb10; have HC10 := hide (HC9.out.below hb10); have HR10 := hide (HR9.out.below hb10); clear hb10; have y0 := HC10.out.c0; have y1 := HC10.out.c1; have y2 := HC10.out.c2; have y3 := HC10.out.c3; have r0 := HR10.out.c0; have r1 := HR10.out.c1; have r2 := HR10.out.c2; have r3 := HR10.out.c3; have rz0 := HR10.out.fz 0; have rz1 := HR10.out.fz 1; have rz2 := HR10.out.fz 2; have rz3 := HR10.out.fz 3)
              refine bodyPost_ret (bc_ret3 rfl _ _ r b.t _ _ _ rfl (HR10.out.set4 b.t (.slice a3 n1 c3) (.slice a4 n2 c4) false)) rfl ?_
              exact HEND.out w10 HB10.out HBC.out
          · have hnb : (n != (tsk b 0 (k : Int)).a) = true := by simpa using hna
            have HBC : Hid (blmC b i (k : Int) n = false) := by show _ = _; unfold blmC; exact decide_eq_false (fun e => hna e.2.2)
            clear hna
            go_wp2_with fail
            refine bodyPost_ret (bc_ret3 rfl _ _ r b.t _ _ _ rfl (HR9.out.set4 b.t (.slice a3 n1 c3) (.slice a4 n2 c4) false)) rfl ?_
            exact HEND.out w9 (Below.refl _ _) HBC.out
        · have hfs2 : b.f = true ∨ (tsk b 1 i).s ≠ 1 := by
            cases hbf : b.f with
            | true => exact .inl rfl
            | false => exact .inr (fun e => hfs ⟨hbf, e⟩)
          have hg1 := HG1.out
          have HCG := hide (changed_no b 1 i 3 a1 a2 n1 c1 n2 c2 59 #[] w7 (HTA.out.below HBW7.out) hin.r1 hin.r2 HOK.out HT1.out (by omega) (by
            cases hbf : b.f with
            | true => exact .inl rfl
            | false => exact .inr ⟨rfl, by
              rcases hfs2 with h | h
              · rw [hbf] at h; cases h
              · exact Classical.byContradiction (fun h2 => h ((aft3 ⟨hg1.1, hg1.2.1⟩).1.1 h2))⟩))
          have hee := blmE_state HCO.out HTH.out HNA.out hfs2
          have HEE := hide hee
          have HNN := hide (blm_no (b := b) (i := i) (j := (k : Int)) (n := n) (by rw [hee]; omega))
          clear hee hfs hfs2 hg1 hin
          go_wp2_with (go_at_call 58; refine (isWithin_any _ _ _ _).mono ?_; rw [hwi]; clear hwi; rintro e w' ⟨rfl, h⟩; obtain rfl := h.symm)
          refine HCG.out.mono ?_
          clear hw7 hs e0 e1 e2 x1 y0 y1 y2 y3 s1 p0 p1 r0 r1 r2 r3 rz0 rz1 rz2 rz3
          rintro e w8 ⟨rfl, hb8⟩
          have HB8 := hide (below_trans HB57.out hb8)
          have HC8 := hide (HC7.out.below hb8)
          have HR8 := hide (HR7.out.below hb8)
          clear hb8
          have y0 := HC8.out.c0
          have y1 := HC8.out.c1
          have y2 := HC8.out.c2
          have y3 := HC8.out.c3
          have yz0 := HC8.out.fz 0
          have yz1 := HC8.out.fz 1
          have yz2 := HC8.out.fz 2
          have yz3 := HC8.out.fz 3
          obtain ⟨w9, hw9⟩ : ∃ w9, (((w8.setCell ⟨g, 0, none⟩ (.int .i64 0)).setCell ⟨g, 1, none⟩ (.slice none 0 0)).setCell ⟨g, 2, none⟩ (.slice none 0 0)).setCell ⟨g, 3, none⟩ (.bool false) = w9 := ⟨_, rfl⟩
          have HW9 : Hid (set4 w8 g 0 (.slice none 0 0) (.slice none 0 0) false = w9) := hw9
          have hk9 := kp_four w8 g 0 (.slice none 0 0) (.slice none 0 0) false
          rw [HW9.out] at hk9
          have HR9 := hide (HR8.out.kp hk9 (by have := HGQ.out; omega))
          have HK9 := hide hk9
          clear hk9
          have r0 := HR9.out.c0
          have r1 := HR9.out.c1
          have r2 := HR9.out.c2
          have r3 := HR9.out.c3
          have rz0 := HR9.out.fz 0
          have rz1 := HR9.out.fz 1
          have rz2 := HR9.out.fz 2
          have rz3 := HR9.out.fz 3
          go_wp2_with fail
          have hk := kp_four w9 r 0 (.slice none 0 0) (.slice none 0 0) false
          have hgq := HGQ.out
          refine bodyPost_ret (bc_ret3 rfl _ _ r 0 _ _ false rfl (HR9.out.set4 0 (.slice none 0 0) (.slice none 0 0) false)) rfl ?_
          rw [HNN.out.1, HNN.out.2, HEE.out]
          exact ⟨none, 0, 0, none, 0, 0, rfl, ans_nil _ _ _, hk.below (HK9.out.below (below_trans HB5.out HB8.out) (fun i e => by have h1 : i = g := e; omega) (by have := HB5.out.size; have := HB8.out.size; omega)) (fun i e => by have h1 : i = r := e; omega) (by have := HB5.out.size; have := HB8.out.size; have := HK9.out.size; omega)⟩
      · have hee := blmE_arg HCO.out HTH.out (n := n) (by
          by_cases h : n < 1
          · exact .inl h
          · refine .inr ?_
            by_cases h2 : (tsk b 0 (k : Int)).a < n
            · exact h2
            · rw [wi_t (by omega) (by omega)] at hwi; cases hwi)
        have HEE := hide hee
        have HNN := hide (blm_no (b := b) (i := i) (j := (k : Int)) (n := n) (by rw [hee]; omega))
        clear hee hin
        go_wp2_with (go_at_call 58; refine (isWithin_any _ _ _ _).mono ?_; rw [hwi]; clear hwi; rintro e w' ⟨rfl, h⟩; obtain rfl := h.symm)
        refine bodyPost_ret (bc_ret3 rfl _ _ r 0 _ _ false rfl (HR7.out.set4 0 (.slice none 0 0) (.slice none 0 0) false)) rfl ?_
        rw [HNN.out.1, HNN.out.2, HEE.out]
        exact ⟨none, 0, 0, none, 0, 0, rfl, ans_nil _ _ _, HE.out _ HB57.out⟩
    · rw [refN_task hc (by rw [thrN_two]; exact hth)]
      have hee := blmE_task (n := n) hc hth
      have HEE := hide hee
      have HNN := hide (blm_no (b := b) (i := i) (j := j) (n := n) (by rw [hee]; omega))
      clear hee hc hth
      have r0 := HR6.out.c0
      have r1 := HR6.out.c1
      have r2 := HR6.out.c2
      have r3 := HR6.out.c3
      have rz0 := HR6.out.fz 0
      have rz1 := HR6.out.fz 1
      have rz2 := HR6.out.fz 2
      have rz3 := HR6.out.fz 3
      go_wp2_with fail
      refine bodyPost_ret (bc_ret3 rfl _ _ r 0 _ _ false rfl (HR6.out.set4 0 (.slice none 0 0) (.slice none 0 0) false)) rfl ?_
      rw [HNN.out.1, HNN.out.2, HEE.out]
      exact ⟨none, 0, 0, none, 0, 0, rfl, ans_nil _ _ _, HE.out _ HB6.out⟩
  · rw [refN_bad hc]
    have hee := blmE_book (i := i) (j := j) (n := n) hc
    have HEE := hide hee
    have HNN := hide (blm_no (b := b) (i := i) (j := j) (n := n) (by rw [hee]; omega))
    clear hee hc
    have r0 := HR6.out.c0
    have r1 := HR6.out.c1
    have r2 := HR6.out.c2
    have r3 := HR6.out.c3
    have rz0 := HR6.out.fz 0
    have rz1 := HR6.out.fz 1
    have rz2 := HR6.out.fz 2
    have rz3 := HR6.out.fz 3
    go_wp2_with fail
    refine bodyPost_ret (bc_ret3 rfl _ _ r 0 _ _ false rfl (HR6.out.set4 0 (.slice none 0 0) (.slice none 0 0) false)) rfl ?_
    rw [HNN.out.1, HNN.out.2, HEE.out]
    exact ⟨none, 0, 0, none, 0, 0, rfl, ans_nil _ _ _, HE.out _ HB6.out⟩
end Go.Proofs.YtgpfabblmoffiaaDoor.Lg
