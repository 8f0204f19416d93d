/-
  Books whose lists are turned round, in their own memory.
-/
import Derived.Test.YtgpfabblmoffiaaDoorLgI
import Derived.Test.YtgpfabblmoffiaaDoorLgP
namespace Go.Proofs.YtgpfabblmoffiaaDoor.Lg
open Go.ChangeShapes Go.WideShapes Go.ChangeAt Go.RowKit
open Go.Proofs.YtgpfabblmoffiaaDoor.Base Go.Proofs.YtgpfabblmoffiaaDoor.Rf
set_option linter.unusedVariables false
/-- The first i and the last i of n have changed places. -/
def bkF (F : Nat → TS) (n i : Nat) : Nat → TS := fun j => if j < n ∧ (j < i ∨ n ≤ i + j) then F (n - 1 - j) else F j
theorem bkF_zero (F : Nat → TS) (n : Nat) : bkF F n 0 = F := by
  funext j; unfold bkF; rw [if_neg (by omega)]
theorem bkF_next (F : Nat → TS) (n i k : Nat) (hk : k = n - 1 - i) (hik : i < k) : setT (setT (bkF F n i) i (F k)) k (F i) = bkF F n (i + 1) := by
  funext j
  unfold setT bkF
  by_cases e : j = k
  · rw [if_pos e, if_pos (show j < n ∧ (j < i + 1 ∨ n ≤ i + 1 + j) by omega)]
    congr 1
    omega
  · rw [if_neg e]
    by_cases e2 : j = i
    · rw [if_pos e2, if_pos (show j < n ∧ (j < i + 1 ∨ n ≤ i + 1 + j) by omega)]
      congr 1
      omega
    · rw [if_neg e2]
      by_cases h : j < n ∧ (j < i ∨ n ≤ i + j)
      · rw [if_pos h, if_pos (show j < n ∧ (j < i + 1 ∨ n ≤ i + 1 + j) by omega)]
      · rw [if_neg h, if_neg (show ¬ (j < n ∧ (j < i + 1 ∨ n ≤ i + 1 + j)) by omega)]
theorem bkF_mid (F : Nat → TS) (n i k : Nat) (hk : k = n - 1 - i) (hik : i < k) : bkF F n i i = F i ∧ bkF F n i k = F k := by
  unfold bkF
  exact ⟨by rw [if_neg (by omega)], by rw [if_neg (by omega)]⟩
/-- Turned round. -/
def rvF (F : Nat → TS) (n : Nat) : Nat → TS := fun j => if j < n then F (n - 1 - j) else F j
theorem bkF_end (F : Nat → TS) (n i : Nat) (h : n ≤ 2 * i + 1) : bkF F n i = rvF F n := by
  funext j
  unfold bkF rvF
  by_cases hj : j < n
  · rw [if_pos hj]
    by_cases q : j < n ∧ (j < i ∨ n ≤ i + j)
    · rw [if_pos q]
    · rw [if_neg q]
      congr 1
      omega
  · rw [if_neg hj, if_neg (by omega)]
theorem rev_get (L : List TS) (n k : Nat) (hl : L.length = n) (hk : k < n) : rvF (rmF L) n k = L.reverse.getD k z0 := by
  unfold rvF rmF
  rw [if_pos hk, if_pos (by omega), List.getD_eq_getElem?_getD, List.getD_eq_getElem?_getD, List.getElem?_reverse (by omega), hl]
theorem three_kp (w : World) (g o : Nat) (x : TS) : Kp (fun j => j = g) w (set3 w g o x) := (Kp.of_grown (grown_set3 w g o x)).mono (fun j e _ => (Option.some.inj e).symm)
set_option maxHeartbeats 8000000 in
set_option maxRecDepth 100000 in
theorem back_any (g n c N C B : Nat) (F : Nat → TS) (w : World) (hA : TF w B g N C F) (hn : n ≤ N) (hN : N ≤ 5864062014698) :
    Calls Tryd.prog 48 #[.slice (some ⟨g, 0, none⟩) n c] w fun e w' => e = .returned (.tuple #[]) ∧ TF w' B g N C (rvF F n) ∧ Kp (fun j => j = g) w w' := by
  have HA := hide hA
  clear hA
  have hwn : IntKind.i64.wrap ((n : Int) - 1) = (n : Int) - 1 := by rw [IntKind.wrap_i64]; omega
  go_enter Tryd.func48, Tryd.ntmps48
  go_wp2_with fail
  go_loopw [2, 3] (fun si sk wr => ∃ (i : Nat) (z : Int), i ≤ n ∧ 2 * i ≤ n + 1 ∧ .int .i64 (i : Int) = si ∧ .int .i64 z = sk ∧ Hid (z = (n : Int) - 1 - (i : Int)) ∧ Hid (TF wr B g N C (bkF F n i)) ∧ Hid (Kp (fun j => j = g) w wr)) (fun si _ _ => n - (intOf si).toNat)
  case atStart => exact ⟨0, (n : Int) - 1, by omega, by omega, rfl, rfl, (by show _ = _; omega), (by rw [bkF_zero]; exact HA), Kp.refl _ _⟩
  case round =>
    clear HA
    obtain ⟨i, z, hi, hi2, rfl, rfl, HZ, HA, HG⟩ := hrel
    by_cases hik : (i : Int) < z
    · obtain ⟨k, hk⟩ : ∃ k, n - 1 - i = k := ⟨_, rfl⟩
      obtain rfl : z = (k : Int) := by have := HZ.out; omega
      have hikn : i < k := by omega
      have hkn : k < n := by omega
      have HKK := hide hk.symm
      have hini : (i : Int) < (n : Int) := by omega
      have hkni : (k : Int) < (n : Int) := by omega
      have hwk : IntKind.i64.wrap ((k : Int) - 1) = (k : Int) - 1 := by rw [IntKind.wrap_i64]; omega
      obtain ⟨hm1, hm2⟩ := bkF_mid F n i k hk.symm hikn
      have HNX := hide (bkF_next F n i k hk.symm hikn)
      have HM1 := hide hm1
      have HM2 := hide hm2
      have ci := HA.out.at i (by omega)
      rw [hm1] at ci
      clear hm1 hm2 hk
      obtain ⟨x, hx⟩ : ∃ x, F i = x := ⟨_, rfl⟩
      obtain ⟨y, hy⟩ : ∃ y, F k = y := ⟨_, rfl⟩
      rw [hx] at ci HNX
      rw [hy] at HNX
      rw [hx] at HM1
      rw [hy] at HM2
      clear hx hy
      obtain ⟨w3, hw3⟩ : ∃ w3, wr.alloc (.cells #[.int .i64 x.s, .int .i64 x.a, .int .i64 x.c] 43) = w3 := ⟨_, rfl⟩
      have HB3 : Hid (Below wr.heap.size wr w3) := by rw [← hw3]; exact (Below.refl _ _).alloc (Nat.le_refl _) _
      have HR3 : Hid (TC w3 wr.heap.size x) := by rw [← hw3]; exact tc_new _ _
      have HNE : Hid (wr.heap.size ≠ g) := by have := HA.out.lt; show _ ≠ _; omega
      obtain ⟨g3, hg3⟩ : ∃ g3, wr.heap.size = g3 := ⟨_, rfl⟩
      rw [hg3] at HR3 HNE
      have HA3 := hide (HA.out.below HB3.out)
      have HG3 := hide (HG.out.add HB3.out)
      obtain ⟨p0, p1, p2⟩ := HA3.out.at k (by omega)
      rw [HM2.out] at p0 p1 p2
      obtain ⟨q0, q1, q2⟩ := ci
      obtain ⟨u0, u1, u2⟩ := HA3.out.at i (by omega)
      have z0' := HA3.out.fz (i * 3)
      have z1' := HA3.out.fz (i * 3 + 1)
      have z2' := HA3.out.fz (i * 3 + 2)
      obtain ⟨w4, hw4⟩ : ∃ w4, ((w3.setCell ⟨g, i * 3, none⟩ (.int .i64 y.s)).setCell ⟨g, i * 3 + 1, none⟩ (.int .i64 y.a)).setCell ⟨g, i * 3 + 2, none⟩ (.int .i64 y.c) = w4 := ⟨_, rfl⟩
      have hw4' : set3 w3 g (i * 3) y = w4 := hw4
      have HA4 : Hid (TF w4 B g N C (setT (bkF F n i) i y)) := by rw [← hw4']; exact HA3.out.set i y (by omega)
      have hk4 : Kp (fun j => j = g) w3 w4 := by rw [← hw4']; exact three_kp w3 g (i * 3) y
      have HG4 : Hid (Kp (fun j => j = g) w w4) := HG3.out.trans hk4 (fun _ e _ => e)
      have HR4 := hide (HR3.out.kp hk4 HNE.out)
      clear hw4' hk4
      have r0 := HR4.out.c0
      have r1 := HR4.out.c1
      have r2 := HR4.out.c2
      obtain ⟨s0, s1, s2⟩ := HA4.out.at k (by omega)
      have j0 := HA4.out.fz (k * 3)
      have j1 := HA4.out.fz (k * 3 + 1)
      have j2 := HA4.out.fz (k * 3 + 2)
      obtain ⟨w5, hw5⟩ : ∃ w5, ((w4.setCell ⟨g, k * 3, none⟩ (.int .i64 x.s)).setCell ⟨g, k * 3 + 1, none⟩ (.int .i64 x.a)).setCell ⟨g, k * 3 + 2, none⟩ (.int .i64 x.c) = w5 := ⟨_, rfl⟩
      have hw5' : set3 w4 g (k * 3) x = w5 := hw5
      have HA5 : Hid (TF w5 B g N C (bkF F n (i + 1))) := by rw [← hw5', ← HNX.out]; exact HA4.out.set k x (by omega)
      have HG5 : Hid (Kp (fun j => j = g) w w5) := by rw [← hw5']; exact HG4.out.trans (three_kp w4 g (k * 3) x) (fun _ e _ => e)
      clear hw5'
      go_wp2_with fail
      go_roundw
      case rel => exact ⟨i + 1, (k : Int) - 1, by omega, (by have := HKK.out; omega), by go_num, rfl, (by have := HZ.out; show _ = _; omega), HA5, HG5⟩
      case measure => simp [intOf]; omega
    · go_wp2_with fail
      go_end0
      exact ⟨rfl, (by rw [← bkF_end F n i (by have := HZ.out; omega)]; exact HA.out), HG.out⟩
/-- A roomy list turned round. -/
def Rv (w : World) (base g : Nat) (L : List TS) : Prop := TF w base g (L.length + 64) (L.length + 64) (rvF (rmF L) L.length)
theorem Rv.rdt {w : World} {base g n : Nat} {L : List TS} (h : Rv w base g L) (hl : L.length = n) (h2 : n ≤ 5864062014634) : RdT w (some ⟨g, 0, none⟩) n L.reverse := by
  subst hl
  exact TF.rdt h L.reverse _ (by simp) (by omega) (by omega) (fun k hk => rev_get L _ k rfl hk)
set_option maxHeartbeats 4000000 in
theorem turned_any (M R : List TS) (t : Int) (f : Bool) (g1 g2 n1 n2 B1 B2 : Nat) (w : World) (h1 : Rm w B1 g1 M) (h2 : Rm w B2 g2 R) (hne : g1 ≠ g2) (hl1 : M.length = n1) (hl2 : R.length = n2) (hn1 : n1 ≤ 5864062014634) (hn2 : n2 ≤ 5864062014634) :
    Calls Tryd.prog 25 #[.agg #[.int .i64 t, .slice (some ⟨g1, 0, none⟩) n1 (n1 + 64), .slice (some ⟨g2, 0, none⟩) n2 (n2 + 64), .bool f]] w fun e w' => e = .returned (.agg #[.int .i64 t, .slice (some ⟨g1, 0, none⟩) n1 (n1 + 64), .slice (some ⟨g2, 0, none⟩) n2 (n2 + 64), .bool f]) ∧ Rv w' B1 g1 M ∧ Rv w' B2 g2 R ∧ Kp (fun j => j = g1 ∨ j = g2) w w' := by
  subst hl1 hl2
  obtain ⟨w1, hw1⟩ : ∃ w1, w.alloc (.cells #[.int .i64 t, .slice (some ⟨g1, 0, none⟩) M.length (M.length + 64), .slice (some ⟨g2, 0, none⟩) R.length (R.length + 64), .bool f] 26) = w1 := ⟨_, rfl⟩
  have hb1 : Below w.heap.size w w1 := by rw [← hw1]; exact (Below.refl _ _).alloc (Nat.le_refl _) _
  have hC1 : BC w1 w.heap.size t (.slice (some ⟨g1, 0, none⟩) M.length (M.length + 64)) (.slice (some ⟨g2, 0, none⟩) R.length (R.length + 64)) f := by rw [← hw1]; exact bc_new _ _ _ _ _
  obtain ⟨w2, hw2⟩ : ∃ w2, w1.alloc (.cells #[.int .i64 0, .slice none 0 0, .slice none 0 0, .bool false] 26) = w2 := ⟨_, rfl⟩
  have hb2 : Below w1.heap.size w1 w2 := by rw [← hw2]; exact (Below.refl _ _).alloc (Nat.le_refl _) _
  have hC2 : BC w2 w1.heap.size 0 (.slice none 0 0) (.slice none 0 0) false := by rw [← hw2]; exact bc_new _ _ _ _ _
  have HB2 := hide (below_trans hb1 hb2)
  have HC1 := hide (hC1.below hb2)
  have HC2 := hide hC2
  have HT1 : Hid (TF w2 B1 g1 (M.length + 64) (M.length + 64) (rmF M)) := TF.below h1 HB2.out
  have HT2 : Hid (TF w2 B2 g2 (R.length + 64) (R.length + 64) (rmF R)) := TF.below h2 HB2.out
  have HLT : Hid (w.heap.size < w1.heap.size ∧ g1 < w.heap.size ∧ g2 < w.heap.size) := ⟨hC1.lt, (TF.lt h1).2, (TF.lt h2).2⟩
  have HNE := hide hne
  clear hC1 hC2 hb1 hb2 h1 h2 hne
  obtain ⟨g, hg⟩ : ∃ g, w.heap.size = g := ⟨_, rfl⟩
  obtain ⟨q, hq⟩ : ∃ q, w1.heap.size = q := ⟨_, rfl⟩
  rw [hg] at HC1
  rw [hq] at HC2
  have HGQ : Hid (w.heap.size = g ∧ g < q ∧ g1 < g ∧ g2 < g) := by have := HLT.out; exact ⟨hg, by omega, by omega, by omega⟩
  obtain ⟨m, hm⟩ : ∃ m, M.length = m := ⟨_, rfl⟩
  obtain ⟨n, hn⟩ : ∃ n, R.length = n := ⟨_, rfl⟩
  have HMM := hide hm
  have HNN := hide hn
  rw [hm] at HC1 HT1 hn1
  rw [hn] at HC1 HT2 hn2
  unfold Rv
  rw [hm, hn]
  rw [hm, hn] at hw1
  clear hm hn
  have x1 := HC1.out.c1
  have HBK1 := hide (back_any g1 m (m + 64) (m + 64) (m + 64) B1 _ w2 HT1.out (by omega) (by omega))
  go_enter Tryd.func25, Tryd.ntmps25
  go_wp2_with fail
  refine HBK1.out.mono ?_
  clear hw1 hw2 hg hq x1
  rintro e w3 ⟨rfl, hT3, hK3⟩
  have HT3 := hide hT3
  have HK3 := hide hK3
  have HC13 := hide (HC1.out.kp hK3 (by have := HGQ.out; omega))
  have HC23 := hide (HC2.out.kp hK3 (by have := HGQ.out; omega))
  have HT23 := hide (HT2.out.kp hK3 (fun e => HNE.out e.symm))
  clear hT3 hK3
  have x2 := HC13.out.c2
  have HBK2 := hide (back_any g2 n (n + 64) (n + 64) (n + 64) B2 _ w3 HT23.out (by omega) (by omega))
  go_wp2_with fail
  refine HBK2.out.mono ?_
  clear x2
  rintro e w4 ⟨rfl, hT4, hK4⟩
  have HT4 := hide hT4
  have HK4 := hide hK4
  have HC14 := hide (HC13.out.kp hK4 (by have := HGQ.out; omega))
  have HC24 := hide (HC23.out.kp hK4 (by have := HGQ.out; omega))
  have HT34 := hide (HT3.out.kp hK4 HNE.out)
  clear hT4 hK4
  have x0 := HC14.out.c0
  have x1 := HC14.out.c1
  have x2 := HC14.out.c2
  have x3 := HC14.out.c3
  have r0 := HC24.out.c0
  have r1 := HC24.out.c1
  have r2 := HC24.out.c2
  have r3 := HC24.out.c3
  have z0' := HC24.out.fz 0
  have z1' := HC24.out.fz 1
  have z2' := HC24.out.fz 2
  have z3' := HC24.out.fz 3
  go_wp2_with fail
  have hk := (Kp.of_grown (grown_set4 w4 q t (.slice (some ⟨g1, 0, none⟩) m (m + 64)) (.slice (some ⟨g2, 0, none⟩) n (n + 64)) f)).mono (S' := fun j => j = q) (fun j e _ => (Option.some.inj e).symm)
  refine bodyPost_ret (bc_ret rfl _ _ q t _ _ f rfl (HC24.out.set4 t (.slice (some ⟨g1, 0, none⟩) m (m + 64)) (.slice (some ⟨g2, 0, none⟩) n (n + 64)) f)) rfl ?_
  have hgq := HGQ.out
  exact ⟨rfl, HT34.out.kp hk (by omega), HT4.out.kp hk (by omega), (Kp.pre HB2.out ((HK3.out.mono (S' := fun j => j = g1 ∨ j = g2 ∨ j = q) (fun i e _ => .inl e)).trans HK4.out (fun i e _ => .inr (.inl e)) |>.trans hk (fun i e _ => .inr (.inr e)))).mono (fun i e hi => by rcases e with e | e | e; exact .inl e; exact .inr e; omega)⟩
end Go.Proofs.YtgpfabblmoffiaaDoor.Lg
