/-
  A list of entries turned round in its own memory.
-/
import Derived.Test.YtbmbhcjocgbbpabFaRow
import Derived.Test.YtbmbhcjocgbbpabBase2
namespace Go.Proofs.Ytbmbhcjocgbbpab.Fa
open Go.ChangeShapes Go.WideShapes Go.ChangeAt Go.RowKit
open Go.Proofs.Ytbmbhcjocgbbpab.Base
set_option linter.unusedVariables false
/-- The first i and the last i of n have changed places. -/
def bkF (F : Nat → Flt) (n i : Nat) : Nat → Flt := fun j => if j < n ∧ (j < i ∨ n ≤ i + j) then F (n - 1 - j) else F j
theorem bkF_zero (F : Nat → Flt) (n : Nat) : bkF F n 0 = F := by
  funext j; unfold bkF; rw [if_neg (by omega)]
theorem bkF_next (F : Nat → Flt) (n i k : Nat) (hk : k = n - 1 - i) (hik : i < k) : setF (setF (bkF F n i) i (F k)) k (F i) = bkF F n (i + 1) := by
  funext j
  unfold setF bkF
  by_cases e : j = k
  · rw [if_pos e, if_pos (show j < n ∧ (j < i + 1 ∨ n ≤ i + 1 + j) by omega)]
    congr 1
    omega
  · rw [if_neg e]
    by_cases e2 : j = i
    · rw [if_pos e2, if_pos (show j < n ∧ (j < i + 1 ∨ n ≤ i + 1 + j) by omega)]
      congr 1
      omega
    · rw [if_neg e2]
      by_cases h : j < n ∧ (j < i ∨ n ≤ i + j)
      · rw [if_pos h, if_pos (show j < n ∧ (j < i + 1 ∨ n ≤ i + 1 + j) by omega)]
      · rw [if_neg h, if_neg (show ¬ (j < n ∧ (j < i + 1 ∨ n ≤ i + 1 + j)) by omega)]
theorem bkF_mid (F : Nat → Flt) (n i k : Nat) (hk : k = n - 1 - i) (hik : i < k) : bkF F n i i = F i ∧ bkF F n i k = F k := by
  unfold bkF
  exact ⟨by rw [if_neg (by omega)], by rw [if_neg (by omega)]⟩
/-- Turned round. -/
def rvF (F : Nat → Flt) (n : Nat) : Nat → Flt := fun j => if j < n then F (n - 1 - j) else F j
theorem bkF_end (F : Nat → Flt) (n i : Nat) (h : n ≤ 2 * i + 1) : bkF F n i = rvF F n := by
  funext j
  unfold bkF rvF
  by_cases hj : j < n
  · rw [if_pos hj]
    by_cases q : j < n ∧ (j < i ∨ n ≤ i + j)
    · rw [if_pos q]
    · rw [if_neg q]
      congr 1
      omega
  · rw [if_neg hj, if_neg (by omega)]
theorem seg_rvF (rs ms : List Flt) : segF (rvF (fun j => (rs ++ ms).getD j f0) rs.length) (rs.length + ms.length) = rs.reverse ++ ms := by
  apply List.ext_getElem?
  intro j
  by_cases h : j < rs.length + ms.length
  · rw [segF_get _ _ _ h]
    unfold rvF
    by_cases q : j < rs.length
    · rw [if_pos q, List.getElem?_append_left (by simpa using q), List.getElem?_reverse q]
      show some ((rs ++ ms).getD (rs.length - 1 - j) f0) = _
      rw [List.getD_eq_getElem?_getD, List.getElem?_append_left (by omega), List.getElem?_eq_getElem (by omega)]; rfl
    · rw [if_neg q, List.getElem?_append_right (by simp; omega)]
      show some ((rs ++ ms).getD j f0) = _
      rw [List.getD_eq_getElem?_getD, List.getElem?_append_right (by omega), List.length_reverse, List.getElem?_eq_getElem (by omega)]; rfl
  · rw [List.getElem?_eq_none (by rw [length_segF]; omega), List.getElem?_eq_none (by simp; omega)]
set_option maxHeartbeats 8000000 in
set_option maxRecDepth 100000 in
theorem back_any (g n c N : Nat) (F : Nat → Flt) (w : World) (hA : FA w g N F) (hS : Shp8 w g (N * 8)) (hn : n ≤ N) (hN : N ≤ 2199023255552) :
    Calls Try.prog 16 #[.slice (some ⟨g, 0, none⟩) n c] w fun e w' => e = .returned (.slice (some ⟨g, 0, none⟩) n c) ∧ FA w' g N (rvF F n) ∧ Shp8 w' g (N * 8) ∧ w.grownBy w' (some g) := by
  have HA := hide hA
  have HS := hide hS
  clear hA hS
  have hwn : IntKind.i64.wrap ((n : Int) - 1) = (n : Int) - 1 := by rw [IntKind.wrap_i64]; omega
  go_enter Try.func16, Try.ntmps16
  go_wp2_with fail
  go_loopw [3, 4] (fun si sk wr => ∃ (i : Nat) (z : Int), i ≤ n ∧ 2 * i ≤ n + 1 ∧ .int .i64 (i : Int) = si ∧ .int .i64 z = sk ∧ Hid (z = (n : Int) - 1 - (i : Int)) ∧ Hid (FA wr g N (bkF F n i)) ∧ Hid (w.grownBy wr (some g)) ∧ Hid (Shp8 wr g (N * 8))) (fun si _ _ => n - (intOf si).toNat)
  case atStart => exact ⟨0, (n : Int) - 1, by omega, by omega, rfl, rfl, (by show _ = _; omega), (by rw [bkF_zero]; exact HA), World.grownBy.refl _ _, HS⟩
  case round =>
    clear HA HS
    obtain ⟨i, z, hi, hi2, rfl, rfl, HZ, HA, HG, HS⟩ := hrel
    by_cases hik : (i : Int) < z
    · obtain ⟨k, hk⟩ : ∃ k, n - 1 - i = k := ⟨_, rfl⟩
      obtain rfl : z = (k : Int) := by have := HZ.out; omega
      have hikn : i < k := by omega
      have hkn : k < n := by omega
      have HKK := hide hk.symm
      have hini : (i : Int) < (n : Int) := by omega
      have hkni : (k : Int) < (n : Int) := by omega
      have hwk : IntKind.i64.wrap ((k : Int) - 1) = (k : Int) - 1 := by rw [IntKind.wrap_i64]; omega
      obtain ⟨hm1, hm2⟩ := bkF_mid F n i k hk.symm hikn
      have ci := HA.out.at8 i (by omega)
      have ck := HA.out.at8 k (by omega)
      rw [hm1] at ci
      rw [hm2] at ck
      have HNX := hide (bkF_next F n i k hk.symm hikn)
      clear hm1 hm2 hk
      generalize hx : F i = x at ci HNX
      generalize hy : F k = y at ck HNX
      clear hx hy
      obtain ⟨g3, hg3⟩ : ∃ g3, wr.heap.size = g3 := ⟨_, rfl⟩
      obtain ⟨w3, hw3⟩ : ∃ w3, wr.alloc (.cells #[.int .i64 x.k, .int .i64 x.j, .int .i64 x.t, .int .i64 x.a, .int .i64 x.m, .int .i64 x.r, .int .i64 x.p, .int .u32 (x.q.toNat : Int)] 39) = w3 := ⟨_, rfl⟩
      have HB3 : Hid (Below wr.heap.size wr w3) := by rw [← hw3]; exact (Below.refl _ _).alloc (Nat.le_refl _) _
      have HR3 : Hid (FB w3 g3 x) := by rw [← hw3, ← hg3]; exact heap_alloc_new _ _
      have HNE : Hid (g3 ≠ g) := by have := HA.out.lt; show g3 ≠ g; omega
      have HA3 := hide (HA.out.below HB3.out HA.out.lt)
      have HS3 := hide (HS.out.grown (below_grown HB3.out) (by simp))
      have HG3 : Hid (w.grownBy w3 (some g)) := grown_new HG.out (below_grown HB3.out) (fun j e => by cases e)
      obtain ⟨p0, p1, p2, p3, p4, p5, p6, p7⟩ := ck.same (w' := w3) (fun o => HB3.out.cell (p := ⟨g, o, none⟩) HA.out.lt)
      obtain ⟨q0, q1, q2, q3, q4, q5, q6, q7⟩ := ci
      obtain ⟨u0, u1, u2, u3, u4, u5, u6, u7⟩ := HA3.out.at8 i (by omega)
      have z0 := HA3.out.frozen (i * 8)
      have z1 := HA3.out.frozen (i * 8 + 1)
      have z2 := HA3.out.frozen (i * 8 + 2)
      have z3 := HA3.out.frozen (i * 8 + 3)
      have z4 := HA3.out.frozen (i * 8 + 4)
      have z5 := HA3.out.frozen (i * 8 + 5)
      have z6 := HA3.out.frozen (i * 8 + 6)
      have z7 := HA3.out.frozen (i * 8 + 7)
      obtain ⟨w4, hw4⟩ : ∃ w4, ((((((((w3.setCell ⟨g, i * 8, none⟩ (.int .i64 y.k)).setCell ⟨g, i * 8 + 1, none⟩ (.int .i64 y.j)).setCell ⟨g, i * 8 + 2, none⟩ (.int .i64 y.t)).setCell ⟨g, i * 8 + 3, none⟩ (.int .i64 y.a)).setCell ⟨g, i * 8 + 4, none⟩ (.int .i64 y.m)).setCell ⟨g, i * 8 + 5, none⟩ (.int .i64 y.r)).setCell ⟨g, i * 8 + 6, none⟩ (.int .i64 y.p)).setCell ⟨g, i * 8 + 7, none⟩ (.int .u32 (y.q.toNat : Int))) = w4 := ⟨_, rfl⟩
      have hw4' : set8 w3 g (i * 8) y = w4 := hw4
      have HA4 : Hid (FA w4 g N (setF (bkF F n i) i y)) := by rw [← hw4']; exact HA3.out.set i (by omega) y
      have hg4 : w3.grownBy w4 (some g) := by rw [← hw4']; exact grown_set8 (World.grownBy.refl _ _) _ _
      have HG4 : Hid (w.grownBy w4 (some g)) := grown_trans HG3.out hg4
      have HS4 : Hid (Shp8 w4 g (N * 8)) := by rw [← hw4']; exact HS3.out.set _ _
      have HR4 := hide (HR3.out.grown hg4 (fun e => HNE.out (Option.some.inj e).symm))
      clear hw4' hg4 ck
      obtain ⟨r0, r1, r2, r3, r4, r5, r6, r7⟩ := HR4.out.cells
      obtain ⟨s0, s1, s2, s3, s4, s5, s6, s7⟩ := HA4.out.at8 k (by omega)
      have j0 := HA4.out.frozen (k * 8)
      have j1 := HA4.out.frozen (k * 8 + 1)
      have j2 := HA4.out.frozen (k * 8 + 2)
      have j3 := HA4.out.frozen (k * 8 + 3)
      have j4 := HA4.out.frozen (k * 8 + 4)
      have j5 := HA4.out.frozen (k * 8 + 5)
      have j6 := HA4.out.frozen (k * 8 + 6)
      have j7 := HA4.out.frozen (k * 8 + 7)
      obtain ⟨w5, hw5⟩ : ∃ w5, ((((((((w4.setCell ⟨g, k * 8, none⟩ (.int .i64 x.k)).setCell ⟨g, k * 8 + 1, none⟩ (.int .i64 x.j)).setCell ⟨g, k * 8 + 2, none⟩ (.int .i64 x.t)).setCell ⟨g, k * 8 + 3, none⟩ (.int .i64 x.a)).setCell ⟨g, k * 8 + 4, none⟩ (.int .i64 x.m)).setCell ⟨g, k * 8 + 5, none⟩ (.int .i64 x.r)).setCell ⟨g, k * 8 + 6, none⟩ (.int .i64 x.p)).setCell ⟨g, k * 8 + 7, none⟩ (.int .u32 (x.q.toNat : Int))) = w5 := ⟨_, rfl⟩
      have hw5' : set8 w4 g (k * 8) x = w5 := hw5
      have HA5 : Hid (FA w5 g N (bkF F n (i + 1))) := by rw [← hw5', ← HNX.out]; exact HA4.out.set k (by omega) x
      have HG5 : Hid (w.grownBy w5 (some g)) := by rw [← hw5']; exact grown_set8 HG4.out _ _
      have HS5 : Hid (Shp8 w5 g (N * 8)) := by rw [← hw5']; exact HS4.out.set _ _
      clear hw5'
      go_wp2_with fail
      go_roundw
      case rel => exact ⟨i + 1, (k : Int) - 1, by omega, (by have := HKK.out; omega), by go_num, rfl, (by have := HZ.out; show _ = _; omega), HA5, HG5, HS5⟩
      case measure => simp [intOf]; omega
    · go_wp2_with fail
      go_ret
      exact ⟨rfl, (by rw [← bkF_end F n i (by have := HZ.out; omega)]; exact HA.out), HS.out, HG.out⟩
end Go.Proofs.Ytbmbhcjocgbbpab.Fa
