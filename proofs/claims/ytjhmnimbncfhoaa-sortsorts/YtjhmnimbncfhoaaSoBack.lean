/-
  A list turned round in its own memory.
-/
import Derived.Test.YtjhmnimbncfhoaaSoRoom
namespace Go.Proofs.Ytjhmnimbncfhoaa.So
open Go.ChangeShapes Go.WideShapes Go.ChangeAt Go.RowKit
open Go.Proofs.Ytjhmnimbncfhoaa.Base
set_option linter.unusedVariables false
/-- The first i and the last i of n have changed places. -/
def bkF (F : Nat → Rec) (n i : Nat) : Nat → Rec := fun j => if j < n ∧ (j < i ∨ n ≤ i + j) then F (n - 1 - j) else F j
theorem bkF_zero (F : Nat → Rec) (n : Nat) : bkF F n 0 = F := by
  funext j; unfold bkF; rw [if_neg (by omega)]
theorem bkF_next (F : Nat → Rec) (n i k : Nat) (hk : k = n - 1 - i) (hik : i < k) : setR (setR (bkF F n i) i (F k)) k (F i) = bkF F n (i + 1) := by
  funext j
  unfold setR bkF
  by_cases e : j = k
  · rw [if_pos e, if_pos (show j < n ∧ (j < i + 1 ∨ n ≤ i + 1 + j) by omega)]
    congr 1
    omega
  · rw [if_neg e]
    by_cases e2 : j = i
    · rw [if_pos e2, if_pos (show j < n ∧ (j < i + 1 ∨ n ≤ i + 1 + j) by omega)]
      congr 1
      omega
    · rw [if_neg e2]
      by_cases h : j < n ∧ (j < i ∨ n ≤ i + j)
      · rw [if_pos h, if_pos (show j < n ∧ (j < i + 1 ∨ n ≤ i + 1 + j) by omega)]
      · rw [if_neg h, if_neg (show ¬ (j < n ∧ (j < i + 1 ∨ n ≤ i + 1 + j)) by omega)]
theorem bkF_mid (F : Nat → Rec) (n i k : Nat) (hk : k = n - 1 - i) (hik : i < k) : bkF F n i i = F i ∧ bkF F n i k = F k := by
  unfold bkF
  exact ⟨by rw [if_neg (by omega)], by rw [if_neg (by omega)]⟩
/-- Turned round. -/
def rvF (F : Nat → Rec) (n : Nat) : Nat → Rec := fun j => if j < n then F (n - 1 - j) else F j
theorem bkF_end (F : Nat → Rec) (n i : Nat) (h : n ≤ 2 * i + 1) : bkF F n i = rvF F n := by
  funext j
  unfold bkF rvF
  by_cases hj : j < n
  · rw [if_pos hj]
    by_cases q : j < n ∧ (j < i ∨ n ≤ i + j)
    · rw [if_pos q]
    · rw [if_neg q]
      congr 1
      omega
  · rw [if_neg hj, if_neg (by omega)]
theorem seg_rvF (F : Nat → Rec) (n : Nat) : seg (rvF F n) 0 n = (seg F 0 n).reverse := by
  apply List.ext_getElem?
  intro j
  by_cases h : j < n
  · rw [seg_get _ _ _ _ (by omega), List.getElem?_reverse (by rw [length_seg]; omega), length_seg, seg_get _ _ _ _ (by omega), Nat.zero_add, Nat.zero_add]
    unfold rvF
    rw [if_pos h, show n - 0 - 1 - j = n - 1 - j by omega]
  · rw [List.getElem?_eq_none (by rw [length_seg]; omega), List.getElem?_eq_none (by rw [List.length_reverse, length_seg]; omega)]
set_option maxHeartbeats 4000000 in
set_option maxRecDepth 100000 in
theorem back_any (g n c N : Nat) (F : Nat → Rec) (w : World) (hA : RA w g N F) (hn : n ≤ N) (hN : N ≤ 140737488355328) :
    Calls Try.prog 19 #[.slice (some ⟨g, 0, none⟩) n c] w fun e w' => e = .returned (.slice (some ⟨g, 0, none⟩) n c) ∧ RA w' g N (rvF F n) ∧ w.grownBy w' (some g) ∧ Shp w w' g := by
  have HA := hide hA
  clear hA
  have hwn : IntKind.i64.wrap ((n : Int) - 1) = (n : Int) - 1 := by rw [IntKind.wrap_i64]; omega
  go_enter Try.func19, Try.ntmps19
  go_wp2_with fail
  go_loopw [3, 4] (fun si sk wr => ∃ (i : Nat) (z : Int), i ≤ n ∧ 2 * i ≤ n + 1 ∧ .int .i64 (i : Int) = si ∧ .int .i64 z = sk ∧ Hid (z = (n : Int) - 1 - (i : Int)) ∧ Hid (RA wr g N (bkF F n i)) ∧ Hid (w.grownBy wr (some g)) ∧ Hid (Shp w wr g)) (fun si _ _ => n - (intOf si).toNat)
  case atStart => exact ⟨0, (n : Int) - 1, by omega, by omega, rfl, rfl, (by show _ = _; omega), (by rw [bkF_zero]; exact HA), World.grownBy.refl _ _, Shp.refl _ _⟩
  case round =>
    clear HA
    obtain ⟨i, z, hi, hi2, rfl, rfl, HZ, HA, HG, HS⟩ := hrel
    by_cases hik : (i : Int) < z
    · obtain ⟨k, hk⟩ : ∃ k, n - 1 - i = k := ⟨_, rfl⟩
      obtain rfl : z = (k : Int) := by have := HZ.out; omega
      have hikn : i < k := by omega
      have hkn : k < n := by omega
      have HKK := hide hk.symm
      have hini : (i : Int) < (n : Int) := by omega
      have hkni : (k : Int) < (n : Int) := by omega
      have hwk : IntKind.i64.wrap ((k : Int) - 1) = (k : Int) - 1 := by rw [IntKind.wrap_i64]; omega
      obtain ⟨hm1, hm2⟩ := bkF_mid F n i k hk.symm hikn
      obtain ⟨c0, c1, c2⟩ := HA.out.cells i (by omega)
      obtain ⟨d0, d1, d2⟩ := HA.out.cells k (by omega)
      rw [hm1] at c0 c1 c2
      rw [hm2] at d0 d1 d2
      have HNX := hide (bkF_next F n i k hk.symm hikn)
      clear hm1 hm2 hk
      generalize hx : F i = x at c0 c1 c2 HNX
      generalize hy : F k = y at d0 d1 d2 HNX
      clear hx hy
      obtain ⟨g3, hg3⟩ : ∃ g3, wr.heap.size = g3 := ⟨_, rfl⟩
      obtain ⟨w3, hw3⟩ : ∃ w3, wr.alloc (.cells #[.int .i64 x.p, .string x.k, .string x.v] 23) = w3 := ⟨_, rfl⟩
      have HB3 : Hid (Below wr.heap.size wr w3) := by rw [← hw3]; exact (Below.refl _ _).alloc (Nat.le_refl _) _
      have HR3 : Hid (RB w3 g3 x) := by rw [← hw3, ← hg3]; exact heap_alloc_new _ _
      have HNE : Hid (g3 ≠ g) := by have := HA.out.lt; show g3 ≠ g; omega
      have HA3 := hide (HA.out.below HB3.out HA.out.lt)
      have HG3 := hide (grown_below HG.out HB3.out)
      have HS3 := hide (HS.out.same (HB3.out.block g HA.out.lt))
      have p0 := (HB3.out.cell (p := ⟨g, k * 3, none⟩) HA.out.lt).trans d0
      have p1 := (HB3.out.cell (p := ⟨g, k * 3 + 1, none⟩) HA.out.lt).trans d1
      have p2 := (HB3.out.cell (p := ⟨g, k * 3 + 2, none⟩) HA.out.lt).trans d2
      have q0 := (HB3.out.cell (p := ⟨g, i * 3, none⟩) HA.out.lt).trans c0
      have q1 := (HB3.out.cell (p := ⟨g, i * 3 + 1, none⟩) HA.out.lt).trans c1
      have q2 := (HB3.out.cell (p := ⟨g, i * 3 + 2, none⟩) HA.out.lt).trans c2
      have f0 := HA3.out.frozen (i * 3)
      have f1 := HA3.out.frozen (i * 3 + 1)
      have f2 := HA3.out.frozen (i * 3 + 2)
      obtain ⟨w4, hw4⟩ : ∃ w4, ((w3.setCell ⟨g, i * 3, none⟩ (.int .i64 y.p)).setCell ⟨g, i * 3 + 1, none⟩ (.string y.k)).setCell ⟨g, i * 3 + 2, none⟩ (.string y.v) = w4 := ⟨_, rfl⟩
      have HA4 : Hid (RA w4 g N (setR (bkF F n i) i y)) := by rw [← hw4]; exact HA3.out.set i (by omega) y
      have HG4 : Hid (w.grownBy w4 (some g)) := by rw [← hw4]; exact grown_rec HG3.out i _ _ _
      have HS4 : Hid (Shp w w4 g) := by rw [← hw4]; exact ((HS3.out.set _ _).set _ _).set _ _
      have HR4 : Hid (RB w4 g3 x) := by rw [← hw4]; exact rb_far (rb_far (rb_far HR3.out HNE.out) HNE.out) HNE.out
      obtain ⟨r0, r1, r2⟩ := HR4.out.cells
      obtain ⟨s0, s1, s2⟩ := HA4.out.cells k (by omega)
      have j0 := HA4.out.frozen (k * 3)
      have j1 := HA4.out.frozen (k * 3 + 1)
      have j2 := HA4.out.frozen (k * 3 + 2)
      obtain ⟨w5, hw5⟩ : ∃ w5, ((w4.setCell ⟨g, k * 3, none⟩ (.int .i64 x.p)).setCell ⟨g, k * 3 + 1, none⟩ (.string x.k)).setCell ⟨g, k * 3 + 2, none⟩ (.string x.v) = w5 := ⟨_, rfl⟩
      have HA5 : Hid (RA w5 g N (bkF F n (i + 1))) := by rw [← hw5, ← HNX.out]; exact HA4.out.set k (by omega) x
      have HG5 : Hid (w.grownBy w5 (some g)) := by rw [← hw5]; exact grown_rec HG4.out k _ _ _
      have HS5 : Hid (Shp w w5 g) := by rw [← hw5]; exact ((HS4.out.set _ _).set _ _).set _ _
      go_wp2_with fail
      go_roundw
      case rel => exact ⟨i + 1, (k : Int) - 1, by omega, (by have := HKK.out; omega), by go_num, rfl, (by have := HZ.out; show _ = _; omega), HA5, HG5, HS5⟩
      case measure => simp [intOf]; omega
    · go_wp2_with fail
      go_ret
      exact ⟨rfl, (by rw [← bkF_end F n i (by have := HZ.out; omega)]; exact HA.out), HG.out, HS.out⟩
end Go.Proofs.Ytjhmnimbncfhoaa.So
