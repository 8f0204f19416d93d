/-
  Bytes as entries: the document's Decode.
-/
import Derived.Test.YtbmbhcjocgbbpabFaRView
import Derived.Test.YtbmbhcjocgbbpabFaREnc
import Derived.Test.YtbmbhcjocgbbpabFaRSame
import Derived.Test.YtbmbhcjocgbbpabFaDec
namespace Go.Proofs.Ytbmbhcjocgbbpab.Fa
open Go.ChangeShapes Go.WideShapes Go.ChangeAt Go.RowKit
open Go.Proofs.Ytbmbhcjocgbbpab.Base Go.Proofs.Ytbmbhcjocgbbpab.Nums Go.Proofs.Ytbmbhcjocgbbpab.Curs
set_option linter.unusedVariables false
theorem fb_at8 {w : World} {g : Nat} {f : Flt} (h : FB w g f) : At8 w g 0 f := h.cells
theorem numV_le (L : List (BitVec 8)) : (numV L).1 ≤ 9223372036854775807 := by
  unfold numV
  split
  · exact Nat.zero_le _
  · split
    · exact get_fst L
    · exact Nat.zero_le _
theorem wordV_lt (L : List (BitVec 8)) (m : Nat) : (wordV L m).1 < 256 ^ m := by
  have h1 := wordFrom_lt (L.take m) 0
  have h2 := Nat.pow_le_pow_right (n := 256) (by omega) (show (L.take m).length ≤ m by rw [List.length_take]; omega)
  simp only [Nat.pow_zero, Nat.zero_add] at h1
  show wordFrom 0 (L.take m) < _
  omega
set_option maxHeartbeats 16000000 in
set_option maxRecDepth 100000 in
theorem refDecode_any (a : Option Addr) (n c : Nat) (bs : List (BitVec 8)) (w : World) (hr : Rd w a n bs) (hn : n ≤ c) (hc : c ≤ 9223372036854775807) :
    Calls Try.prog 11 #[.slice a n c] w fun e w' => Dec (decS bs) e w' w.heap.size ∧ Below w.heap.size w w' := by
  have HR := hide hr
  have HNB := hide hr.2.1
  obtain ⟨g, hg⟩ : ∃ g, w.heap.size = g := ⟨_, rfl⟩
  obtain ⟨w1, hw1⟩ : ∃ w1, w.alloc (.cells #[.slice a n c, .int .i64 0] 53) = w1 := ⟨_, rfl⟩
  have HB1 : Hid (Below w.heap.size w w1) := by show Below _ _ _; rw [← hw1]; exact ba (b0 _) _
  have HAB : Hid (0 < n → ∀ ad, a = some ad → ad.block < w.heap.size) := by
    intro h0 ad e
    obtain ⟨b1, o1, e1, h1, _⟩ := HR.out.2.2 h0
    rw [e1] at e
    cases e
    exact h1
  have HV1 : Hid (Vw w1 g a n c bs 0) := ⟨by rw [← hw1, ← hg]; exact heap_alloc_new _ _, HR.out.below HB1.out, hn, hc, fun h0 ad e => by have := HAB.out h0 ad e; omega⟩
  have HGG : Hid (w.heap.size ≤ g) := by show _ ≤ _; omega
  clear hr
  go_enter Try.func11, Try.ntmps11
  go_wp2_with fail
  refine (number_any g a n c bs 0 0 w1 HV1.out (by omega) (by omega)).mono ?_
  rintro e w2 ⟨rfl, ⟨q0, hv2, hd2, hq2⟩, hg2⟩
  have HNL := numV_le bs
  rw [List.drop_zero] at hd2 ⊢
  obtain ⟨N, hN⟩ : ∃ N, (numV bs).1 = N := ⟨_, rfl⟩
  obtain ⟨L0, hL0⟩ : ∃ L0, (numV bs).2 = L0 := ⟨_, rfl⟩
  rw [hN] at HNL ⊢
  rw [hL0] at hd2
  have HN0 := hide hN
  have HL0 := hide hL0
  have HV2 := hide hv2
  have HD2 := hide hd2
  have HQ2 : Hid (q0 ≤ bs.length + (15 * 0 + 0)) := by show _ ≤ _; omega
  have HB2 : Hid (Below w.heap.size w w2) := grown_below HB1.out hg2 HGG.out
  clear hN hL0 hv2 hd2 hq2 hg2
  go_wp2_with fail
  go_loopw [6, 7] (fun sl si wr => ∃ (i : Nat) (v : Value) (p : Nat), i ≤ N ∧ i ≤ 257 ∧ v = sl ∧ .int .i64 (i : Int) = si ∧ Hid (OwnL wr w.heap.size v (stepsV i L0).1) ∧ Hid (∀ b, v.ownBlock = some b → b ≠ g) ∧ Hid (bs.drop p = (stepsV i L0).2) ∧ Hid (p ≤ bs.length + (15 * i + 0)) ∧ Hid (Vw wr g a n c bs p) ∧ Hid (Below w.heap.size w wr)) (fun _ si _ => 257 - (intOf si).toNat)
  case atStart => exact ⟨0, _, q0, by omega, by omega, rfl, rfl, ownl_none _ _, (fun b e => by cases e), HD2.out, HQ2.out, HV2.out, HB2.out⟩
  case round =>
    clear HV2 HD2 HQ2 HB2 HV1 HB1
    rename World => V0
    obtain ⟨i, v, p0, hiN, hi7, rfl, rfl, HO, HVG, HPE, HP0, HVW, HB⟩ := hrel
    by_cases hin : i < N ∧ i ≤ 256
    · obtain ⟨hin1, hin2⟩ := hin
      have hii : (i : Int) < (N : Int) := by omega
      have hi6 : (i : Int) ≤ 256 := by omega
      have HVA : Hid (∀ b, v.ownBlock = some b → 0 < n → ∀ ad, a = some ad → b = ad.block → False) := by
        intro b e h0 ad e1 e2
        have := HAB.out h0 ad e1
        have := (HO.out.blk b e).1
        omega
      obtain ⟨fb, hfb⟩ : ∃ fb, V0.heap.size = fb := ⟨_, rfl⟩
      obtain ⟨w0, hw0⟩ : ∃ w0, V0.alloc (.cells #[.int .i64 0, .int .i64 0, .int .i64 0, .int .i64 0, .int .i64 0, .int .i64 0, .int .i64 0, .int .u32 0] 39) = w0 := ⟨_, rfl⟩
      have HB0 : Hid (Below V0.heap.size V0 w0) := by show Below _ _ _; rw [← hw0]; exact ba (b0 _) _
      have HFz : Hid (FB w0 fb ⟨0, 0, 0, 0, 0, 0, 0, 0#32⟩) := by show FB _ _ _; rw [← hw0, ← hfb]; exact heap_alloc_new _ _
      obtain ⟨s0, s1, s2, s3, s4, s5, s6, s7⟩ := HFz.out.cells
      have s7 : w0.cell? ⟨fb, 7, none⟩ = some (.int .u32 0) := s7
      simp only at s0 s1 s2 s3 s4 s5 s6
      have f0 := HFz.out.fz 0
      have f1 := HFz.out.fz 1
      have f2 := HFz.out.fz 2
      have f3 := HFz.out.fz 3
      have f4 := HFz.out.fz 4
      have f5 := HFz.out.fz 5
      have f6 := HFz.out.fz 6
      have f7 := HFz.out.fz 7
      obtain ⟨wz, hwz⟩ : ∃ wz, ((((((((w0.setCell ⟨fb, 0, none⟩ (.int .i64 0)).setCell ⟨fb, 1, none⟩ (.int .i64 0)).setCell ⟨fb, 2, none⟩ (.int .i64 0)).setCell ⟨fb, 3, none⟩ (.int .i64 0)).setCell ⟨fb, 4, none⟩ (.int .i64 0)).setCell ⟨fb, 5, none⟩ (.int .i64 0)).setCell ⟨fb, 6, none⟩ (.int .i64 0)).setCell ⟨fb, 7, none⟩ (.int .u32 0)) = wz := ⟨_, rfl⟩
      have HF0 : Hid (FB wz fb ⟨0, 0, 0, 0, 0, 0, 0, 0#32⟩) := by show FB _ _ _; rw [← hwz]; exact fb_copy (f' := ⟨0, 0, 0, 0, 0, 0, 0, 0#32⟩) HFz.out
      have hgz : w0.grownBy wz (some fb) := by
        rw [← hwz]
        exact grown_cell (grown_cell (grown_cell (grown_cell (grown_cell (grown_cell (grown_cell (grown_cell (World.grownBy.refl _ _) _ _) _ _) _ _) _ _) _ _) _ _) _ _) _ _
      have HFB : Hid (fb ≠ g ∧ w.heap.size ≤ fb ∧ (0 < n → ∀ ad, a = some ad → ad.block ≠ fb) ∧ ∀ b, v.ownBlock = some b → b ≠ fb) := by
        refine ⟨?_, ?_, ?_, ?_⟩
        · have := HVW.out.row.lt; omega
        · have := HB.out.size; omega
        · intro h0 ad e
          obtain ⟨b1, o1, e1, h1, _⟩ := HVW.out.rd.2.2 h0
          rw [e1] at e
          cases e
          show b1 ≠ fb
          omega
        · intro b e
          have := (HO.out.blk b e).2
          omega
      have HV0 := hide ((HVW.out.below HB0.out).grown hgz HFB.out.1 HFB.out.2.2.1)
      have HO0 := hide ((HO.out.below HB0.out).kept hgz (fun b e e2 => HFB.out.2.2.2 b e (Option.some.inj e2).symm))
      have HG0 : Hid (Below w.heap.size w wz) := grown_below (below_trans HB.out HB0.out) hgz HFB.out.2.1
      clear HVW HO HB hgz
      have B1 := wordV_lt (bs.drop p0) 1
      obtain ⟨X1, hX1⟩ : ∃ X, (wordV (bs.drop p0) 1).1 = X := ⟨_, rfl⟩
      rw [hX1] at B1
      go_wp2_with fail
      refine (word_any g a n c bs p0 (15 * i + 0) 1 _ HV0.out HP0.out (by omega) (by omega)).mono ?_
      rintro e a0 ⟨rfl, hv, hg⟩
      obtain ⟨p1, hp1⟩ : ∃ q, p0 + 1 = q := ⟨_, rfl⟩
      rw [hp1] at hv
      have HP1 : Hid (p1 ≤ bs.length + (15 * i + 1)) := by have := HP0.out; show _ ≤ _; omega
      have HS1 : Hid (wordV (bs.drop p0) 1 = (X1, bs.drop p1)) := by show _ = _; rw [← hX1, ← hp1, ← List.drop_drop]; rfl
      rw [hX1]
      clear hX1 hp1
      have z1 : IntKind.i64.wrap (X1 : Int) = (X1 : Int) := by rw [IntKind.wrap_i64]; omega
      have y1 : wrap64 (X1 : Int) = (X1 : Int) := by unfold wrap64; omega
      clear B1
      have HFx := hide (HF0.out.grown hg (fun e => HFB.out.1 (Option.some.inj e).symm))
      obtain ⟨t0, t1, t2, t3, t4, t5, t6, t7⟩ := HFx.out.cells
      have tz := HFx.out.fz 0
      obtain ⟨w1, hw1⟩ : ∃ w1, a0.setCell ⟨fb, 0, none⟩ (.int .i64 (X1 : Int)) = w1 := ⟨_, rfl⟩
      have HF1 : Hid (FB w1 fb ⟨(X1 : Int), 0, 0, 0, 0, 0, 0, 0#32⟩) := by show FB _ _ _; rw [← hw1]; exact HFx.out.s0 _
      have hgs : a0.grownBy w1 (some fb) := by rw [← hw1]; exact grown_cell (World.grownBy.refl _ _) _ _
      have HV1 := hide (hv.grown hgs HFB.out.1 HFB.out.2.2.1)
      have HO1 := hide ((HO0.out.kept hg (fun b e e2 => HVG.out b e (Option.some.inj e2).symm)).kept hgs (fun b e e2 => HFB.out.2.2.2 b e (Option.some.inj e2).symm))
      have HG1 : Hid (Below w.heap.size w w1) := grown_below (grown_below HG0.out hg HGG.out) hgs HFB.out.2.1
      simp only at t0 t1 t2 t3 t4 t5 t6 t7
      clear hg hv hgs
      have B2 := wordV_lt (bs.drop p1) 1
      obtain ⟨X2, hX2⟩ : ∃ X, (wordV (bs.drop p1) 1).1 = X := ⟨_, rfl⟩
      rw [hX2] at B2
      go_wp2_with fail
      refine (word_any g a n c bs p1 (15 * i + 1) 1 _ HV1.out HP1.out (by omega) (by omega)).mono ?_
      rintro e a1 ⟨rfl, hv, hg⟩
      obtain ⟨p2, hp2⟩ : ∃ q, p1 + 1 = q := ⟨_, rfl⟩
      rw [hp2] at hv
      have HP2 : Hid (p2 ≤ bs.length + (15 * i + 2)) := by have := HP1.out; show _ ≤ _; omega
      have HS2 : Hid (wordV (bs.drop p1) 1 = (X2, bs.drop p2)) := by show _ = _; rw [← hX2, ← hp2, ← List.drop_drop]; rfl
      rw [hX2]
      clear hX2 hp2
      have z2 : IntKind.i64.wrap (X2 : Int) = (X2 : Int) := by rw [IntKind.wrap_i64]; omega
      have y2 : wrap64 (X2 : Int) = (X2 : Int) := by unfold wrap64; omega
      clear B2
      have HFx := hide (HF1.out.grown hg (fun e => HFB.out.1 (Option.some.inj e).symm))
      obtain ⟨t0, t1, t2, t3, t4, t5, t6, t7⟩ := HFx.out.cells
      have tz := HFx.out.fz 1
      obtain ⟨w2, hw2⟩ : ∃ w1, a1.setCell ⟨fb, 1, none⟩ (.int .i64 (X2 : Int)) = w1 := ⟨_, rfl⟩
      have HF2 : Hid (FB w2 fb ⟨(X1 : Int), (X2 : Int), 0, 0, 0, 0, 0, 0#32⟩) := by show FB _ _ _; rw [← hw2]; exact HFx.out.s1 _
      have hgs : a1.grownBy w2 (some fb) := by rw [← hw2]; exact grown_cell (World.grownBy.refl _ _) _ _
      have HV2 := hide (hv.grown hgs HFB.out.1 HFB.out.2.2.1)
      have HO2 := hide ((HO1.out.kept hg (fun b e e2 => HVG.out b e (Option.some.inj e2).symm)).kept hgs (fun b e e2 => HFB.out.2.2.2 b e (Option.some.inj e2).symm))
      have HG2 : Hid (Below w.heap.size w w2) := grown_below (grown_below HG1.out hg HGG.out) hgs HFB.out.2.1
      simp only at t0 t1 t2 t3 t4 t5 t6 t7
      clear hg hv hgs
      clear HF1 HV1 HO1 HG1 HFx
      have B3 := numV_le (bs.drop p2)
      obtain ⟨X3, hX3⟩ : ∃ X, (numV (bs.drop p2)).1 = X := ⟨_, rfl⟩
      rw [hX3] at B3
      go_wp2_with fail
      refine (number_any g a n c bs p2 (15 * i + 2) _ HV2.out HP2.out (by omega)).mono ?_
      rintro e a2 ⟨rfl, ⟨p3, hv, hd, hp⟩, hg⟩
      have HP3 : Hid (p3 ≤ bs.length + (15 * i + 2)) := hp
      have HS3 : Hid (numV (bs.drop p2) = (X3, bs.drop p3)) := by show _ = _; rw [hd, ← hX3]
      rw [hX3]
      clear hd hp hX3
      clear B3
      have HFx := hide (HF2.out.grown hg (fun e => HFB.out.1 (Option.some.inj e).symm))
      obtain ⟨t0, t1, t2, t3, t4, t5, t6, t7⟩ := HFx.out.cells
      have tz := HFx.out.fz 2
      obtain ⟨w3, hw3⟩ : ∃ w1, a2.setCell ⟨fb, 2, none⟩ (.int .i64 (X3 : Int)) = w1 := ⟨_, rfl⟩
      have HF3 : Hid (FB w3 fb ⟨(X1 : Int), (X2 : Int), (X3 : Int), 0, 0, 0, 0, 0#32⟩) := by show FB _ _ _; rw [← hw3]; exact HFx.out.s2 _
      have hgs : a2.grownBy w3 (some fb) := by rw [← hw3]; exact grown_cell (World.grownBy.refl _ _) _ _
      have HV3 := hide (hv.grown hgs HFB.out.1 HFB.out.2.2.1)
      have HO3 := hide ((HO2.out.kept hg (fun b e e2 => HVG.out b e (Option.some.inj e2).symm)).kept hgs (fun b e e2 => HFB.out.2.2.2 b e (Option.some.inj e2).symm))
      have HG3 : Hid (Below w.heap.size w w3) := grown_below (grown_below HG2.out hg HGG.out) hgs HFB.out.2.1
      simp only at t0 t1 t2 t3 t4 t5 t6 t7
      clear hg hv hgs
      clear HF2 HV2 HO2 HG2 HFx
      have B4 := numV_le (bs.drop p3)
      obtain ⟨X4, hX4⟩ : ∃ X, (numV (bs.drop p3)).1 = X := ⟨_, rfl⟩
      rw [hX4] at B4
      go_wp2_with fail
      refine (number_any g a n c bs p3 (15 * i + 2) _ HV3.out HP3.out (by omega)).mono ?_
      rintro e a3 ⟨rfl, ⟨p4, hv, hd, hp⟩, hg⟩
      have HP4 : Hid (p4 ≤ bs.length + (15 * i + 2)) := hp
      have HS4 : Hid (numV (bs.drop p3) = (X4, bs.drop p4)) := by show _ = _; rw [hd, ← hX4]
      rw [hX4]
      clear hd hp hX4
      clear B4
      have HFx := hide (HF3.out.grown hg (fun e => HFB.out.1 (Option.some.inj e).symm))
      obtain ⟨t0, t1, t2, t3, t4, t5, t6, t7⟩ := HFx.out.cells
      have tz := HFx.out.fz 3
      obtain ⟨w4, hw4⟩ : ∃ w1, a3.setCell ⟨fb, 3, none⟩ (.int .i64 (X4 : Int)) = w1 := ⟨_, rfl⟩
      have HF4 : Hid (FB w4 fb ⟨(X1 : Int), (X2 : Int), (X3 : Int), (X4 : Int), 0, 0, 0, 0#32⟩) := by show FB _ _ _; rw [← hw4]; exact HFx.out.s3 _
      have hgs : a3.grownBy w4 (some fb) := by rw [← hw4]; exact grown_cell (World.grownBy.refl _ _) _ _
      have HV4 := hide (hv.grown hgs HFB.out.1 HFB.out.2.2.1)
      have HO4 := hide ((HO3.out.kept hg (fun b e e2 => HVG.out b e (Option.some.inj e2).symm)).kept hgs (fun b e e2 => HFB.out.2.2.2 b e (Option.some.inj e2).symm))
      have HG4 : Hid (Below w.heap.size w w4) := grown_below (grown_below HG3.out hg HGG.out) hgs HFB.out.2.1
      simp only at t0 t1 t2 t3 t4 t5 t6 t7
      clear hg hv hgs
      clear HF3 HV3 HO3 HG3 HFx
      have B5 := wordV_lt (bs.drop p4) 1
      obtain ⟨X5, hX5⟩ : ∃ X, (wordV (bs.drop p4) 1).1 = X := ⟨_, rfl⟩
      rw [hX5] at B5
      go_wp2_with fail
      refine (word_any g a n c bs p4 (15 * i + 2) 1 _ HV4.out HP4.out (by omega) (by omega)).mono ?_
      rintro e a4 ⟨rfl, hv, hg⟩
      obtain ⟨p5, hp5⟩ : ∃ q, p4 + 1 = q := ⟨_, rfl⟩
      rw [hp5] at hv
      have HP5 : Hid (p5 ≤ bs.length + (15 * i + 3)) := by have := HP4.out; show _ ≤ _; omega
      have HS5 : Hid (wordV (bs.drop p4) 1 = (X5, bs.drop p5)) := by show _ = _; rw [← hX5, ← hp5, ← List.drop_drop]; rfl
      rw [hX5]
      clear hX5 hp5
      have z5 : IntKind.i64.wrap (X5 : Int) = (X5 : Int) := by rw [IntKind.wrap_i64]; omega
      have y5 : wrap64 (X5 : Int) = (X5 : Int) := by unfold wrap64; omega
      clear B5
      have HFx := hide (HF4.out.grown hg (fun e => HFB.out.1 (Option.some.inj e).symm))
      obtain ⟨t0, t1, t2, t3, t4, t5, t6, t7⟩ := HFx.out.cells
      have tz := HFx.out.fz 4
      obtain ⟨w5, hw5⟩ : ∃ w1, a4.setCell ⟨fb, 4, none⟩ (.int .i64 (X5 : Int)) = w1 := ⟨_, rfl⟩
      have HF5 : Hid (FB w5 fb ⟨(X1 : Int), (X2 : Int), (X3 : Int), (X4 : Int), (X5 : Int), 0, 0, 0#32⟩) := by show FB _ _ _; rw [← hw5]; exact HFx.out.s4 _
      have hgs : a4.grownBy w5 (some fb) := by rw [← hw5]; exact grown_cell (World.grownBy.refl _ _) _ _
      have HV5 := hide (hv.grown hgs HFB.out.1 HFB.out.2.2.1)
      have HO5 := hide ((HO4.out.kept hg (fun b e e2 => HVG.out b e (Option.some.inj e2).symm)).kept hgs (fun b e e2 => HFB.out.2.2.2 b e (Option.some.inj e2).symm))
      have HG5 : Hid (Below w.heap.size w w5) := grown_below (grown_below HG4.out hg HGG.out) hgs HFB.out.2.1
      simp only at t0 t1 t2 t3 t4 t5 t6 t7
      clear hg hv hgs
      clear HF4 HV4 HO4 HG4 HFx
      have B6 := numV_le (bs.drop p5)
      obtain ⟨X6, hX6⟩ : ∃ X, (numV (bs.drop p5)).1 = X := ⟨_, rfl⟩
      rw [hX6] at B6
      go_wp2_with fail
      refine (number_any g a n c bs p5 (15 * i + 3) _ HV5.out HP5.out (by omega)).mono ?_
      rintro e a5 ⟨rfl, ⟨p6, hv, hd, hp⟩, hg⟩
      have HP6 : Hid (p6 ≤ bs.length + (15 * i + 3)) := hp
      have HS6 : Hid (numV (bs.drop p5) = (X6, bs.drop p6)) := by show _ = _; rw [hd, ← hX6]
      rw [hX6]
      clear hd hp hX6
      clear B6
      have HFx := hide (HF5.out.grown hg (fun e => HFB.out.1 (Option.some.inj e).symm))
      obtain ⟨t0, t1, t2, t3, t4, t5, t6, t7⟩ := HFx.out.cells
      have tz := HFx.out.fz 5
      obtain ⟨w6, hw6⟩ : ∃ w1, a5.setCell ⟨fb, 5, none⟩ (.int .i64 (X6 : Int)) = w1 := ⟨_, rfl⟩
      have HF6 : Hid (FB w6 fb ⟨(X1 : Int), (X2 : Int), (X3 : Int), (X4 : Int), (X5 : Int), (X6 : Int), 0, 0#32⟩) := by show FB _ _ _; rw [← hw6]; exact HFx.out.s5 _
      have hgs : a5.grownBy w6 (some fb) := by rw [← hw6]; exact grown_cell (World.grownBy.refl _ _) _ _
      have HV6 := hide (hv.grown hgs HFB.out.1 HFB.out.2.2.1)
      have HO6 := hide ((HO5.out.kept hg (fun b e e2 => HVG.out b e (Option.some.inj e2).symm)).kept hgs (fun b e e2 => HFB.out.2.2.2 b e (Option.some.inj e2).symm))
      have HG6 : Hid (Below w.heap.size w w6) := grown_below (grown_below HG5.out hg HGG.out) hgs HFB.out.2.1
      simp only at t0 t1 t2 t3 t4 t5 t6 t7
      clear hg hv hgs
      clear HF5 HV5 HO5 HG5 HFx
      have B7 := wordV_lt (bs.drop p6) 8
      obtain ⟨X7, hX7⟩ : ∃ X, (wordV (bs.drop p6) 8).1 = X := ⟨_, rfl⟩
      rw [hX7] at B7
      go_wp2_with fail
      refine (word_any g a n c bs p6 (15 * i + 3) 8 _ HV6.out HP6.out (by omega) (by omega)).mono ?_
      rintro e a6 ⟨rfl, hv, hg⟩
      obtain ⟨p7, hp7⟩ : ∃ q, p6 + 8 = q := ⟨_, rfl⟩
      rw [hp7] at hv
      have HP7 : Hid (p7 ≤ bs.length + (15 * i + 11)) := by have := HP6.out; show _ ≤ _; omega
      have HS7 : Hid (wordV (bs.drop p6) 8 = (X7, bs.drop p7)) := by show _ = _; rw [← hX7, ← hp7, ← List.drop_drop]; rfl
      rw [hX7]
      clear hX7 hp7
      obtain ⟨P, hP⟩ : ∃ P, wrap64 (X7 : Int) = P := ⟨_, rfl⟩
      have z7 : IntKind.i64.wrap (X7 : Int) = P := by rw [← hP, IntKind.wrap_i64]; unfold wrap64; omega
      clear B7
      have HFx := hide (HF6.out.grown hg (fun e => HFB.out.1 (Option.some.inj e).symm))
      obtain ⟨t0, t1, t2, t3, t4, t5, t6, t7⟩ := HFx.out.cells
      have tz := HFx.out.fz 6
      obtain ⟨w7, hw7⟩ : ∃ w1, a6.setCell ⟨fb, 6, none⟩ (.int .i64 P) = w1 := ⟨_, rfl⟩
      have HF7 : Hid (FB w7 fb ⟨(X1 : Int), (X2 : Int), (X3 : Int), (X4 : Int), (X5 : Int), (X6 : Int), P, 0#32⟩) := by show FB _ _ _; rw [← hw7]; exact HFx.out.s6 _
      have hgs : a6.grownBy w7 (some fb) := by rw [← hw7]; exact grown_cell (World.grownBy.refl _ _) _ _
      have HV7 := hide (hv.grown hgs HFB.out.1 HFB.out.2.2.1)
      have HO7 := hide ((HO6.out.kept hg (fun b e e2 => HVG.out b e (Option.some.inj e2).symm)).kept hgs (fun b e e2 => HFB.out.2.2.2 b e (Option.some.inj e2).symm))
      have HG7 : Hid (Below w.heap.size w w7) := grown_below (grown_below HG6.out hg HGG.out) hgs HFB.out.2.1
      simp only at t0 t1 t2 t3 t4 t5 t6 t7
      clear hg hv hgs
      clear HF6 HV6 HO6 HG6 HFx
      have B8 := wordV_lt (bs.drop p7) 4
      obtain ⟨X8, hX8⟩ : ∃ X, (wordV (bs.drop p7) 4).1 = X := ⟨_, rfl⟩
      rw [hX8] at B8
      go_wp2_with fail
      refine (word_any g a n c bs p7 (15 * i + 11) 4 _ HV7.out HP7.out (by omega) (by omega)).mono ?_
      rintro e a7 ⟨rfl, hv, hg⟩
      obtain ⟨p8, hp8⟩ : ∃ q, p7 + 4 = q := ⟨_, rfl⟩
      rw [hp8] at hv
      have HP8 : Hid (p8 ≤ bs.length + (15 * i + 15)) := by have := HP7.out; show _ ≤ _; omega
      have HS8 : Hid (wordV (bs.drop p7) 4 = (X8, bs.drop p8)) := by show _ = _; rw [← hX8, ← hp8, ← List.drop_drop]; rfl
      rw [hX8]
      clear hX8 hp8
      obtain ⟨Q, hQ⟩ : ∃ Q, BitVec.ofNat 32 X8 = Q := ⟨_, rfl⟩
      have z8 : (X8 : Int) % 4294967296 = (Q.toNat : Int) := by rw [← hQ, BitVec.toNat_ofNat]; omega
      have y8 : IntKind.u32.wrap (X8 : Int) = (Q.toNat : Int) := by rw [← z8]; simp [IntKind.wrap, IntKind.bits, IntKind.signed]
      have HQQ := hide hQ
      clear hQ
      clear B8
      have HFx := hide (HF7.out.grown hg (fun e => HFB.out.1 (Option.some.inj e).symm))
      obtain ⟨t0, t1, t2, t3, t4, t5, t6, t7⟩ := HFx.out.cells
      have tz := HFx.out.fz 7
      have t7 : a7.cell? ⟨fb, 7, none⟩ = some (.int .u32 0) := t7
      obtain ⟨w8, hw8⟩ : ∃ w1, a7.setCell ⟨fb, 7, none⟩ (.int .u32 (Q.toNat : Int)) = w1 := ⟨_, rfl⟩
      have HF8 : Hid (FB w8 fb ⟨(X1 : Int), (X2 : Int), (X3 : Int), (X4 : Int), (X5 : Int), (X6 : Int), P, Q⟩) := by show FB _ _ _; rw [← hw8]; exact HFx.out.s7 _
      have hgs : a7.grownBy w8 (some fb) := by rw [← hw8]; exact grown_cell (World.grownBy.refl _ _) _ _
      have HV8 := hide (hv.grown hgs HFB.out.1 HFB.out.2.2.1)
      have HO8 := hide ((HO7.out.kept hg (fun b e e2 => HVG.out b e (Option.some.inj e2).symm)).kept hgs (fun b e e2 => HFB.out.2.2.2 b e (Option.some.inj e2).symm))
      have HG8 : Hid (Below w.heap.size w w8) := grown_below (grown_below HG7.out hg HGG.out) hgs HFB.out.2.1
      simp only at t0 t1 t2 t3 t4 t5 t6 t7
      clear hg hv hgs
      clear HF7 HV7 HO7 HG7 HFx
      clear t0 t1 t2 t3 t4 t5 t6 t7
      obtain ⟨t0, t1, t2, t3, t4, t5, t6, t7⟩ := HF8.out.cells
      simp only at t0 t1 t2 t3 t4 t5 t6 t7
      have HNX : Hid (nextV (bs.drop p0) = (⟨(X1 : Int), (X2 : Int), (X3 : Int), (X4 : Int), (X5 : Int), (X6 : Int), P, Q⟩, bs.drop p8)) := by
        show _ = _
        unfold nextV
        simp only [HS1.out, HS2.out, HS3.out, HS4.out, HS5.out, HS6.out, HS7.out, HS8.out, hP, HQQ.out]
      obtain ⟨g9, hg9⟩ : ∃ g9, w8.heap.size = g9 := ⟨_, rfl⟩
      obtain ⟨w9, hw9⟩ : ∃ w9, w8.alloc (.cells #[.int .i64 (X1 : Int), .int .i64 (X2 : Int), .int .i64 (X3 : Int), .int .i64 (X4 : Int), .int .i64 (X5 : Int), .int .i64 (X6 : Int), .int .i64 P, .int .u32 (Q.toNat : Int)] 39) = w9 := ⟨_, rfl⟩
      have HB9 : Hid (Below w8.heap.size w8 w9) := by show Below _ _ _; rw [← hw9]; exact ba (b0 _) _
      have HF9 : Hid (FB w9 g9 ⟨(X1 : Int), (X2 : Int), (X3 : Int), (X4 : Int), (X5 : Int), (X6 : Int), P, Q⟩) := by show FB _ _ _; rw [← hw9, ← hg9]; exact heap_alloc_new _ _
      have HV9 := hide (HV8.out.below HB9.out)
      have HO9 := hide (HO8.out.below HB9.out)
      have HG9 := hide (below_trans HG8.out HB9.out)
      go_wp2_with (at_builtin; refine pushFl _ rfl _ _ rfl w.heap.size v (stepsV i L0).1 rfl HO9.out g9 ⟨(X1 : Int), (X2 : Int), (X3 : Int), (X4 : Int), (X5 : Int), (X6 : Int), P, Q⟩ rfl (fb_at8 HF9.out) (by rw [stepsV_len]; omega) HG9.out.size ?_
                   intro g6 c6 w6 ho6 hg6 hv6
                   have HO6 := hide ho6
                   have HV6 := hide hv6
                   have HG6 := hide hg6
                   clear ho6 hg6 hv6)
      go_roundw
      case rel =>
        refine ⟨i + 1, _, p8, by omega, by omega, rfl, by go_num, ?_, ?_, ?_, ?_, ?_, ?_⟩
        · show OwnL _ _ _ _
          simp only [stepsV]
          rw [HPE.out.symm, HNX.out]
          exact HO6.out
        · intro b e
          rcases HV6.out with h | h
          · have e2 := Option.some.inj e
            simp only at e2
            subst e2
            exact HVG.out _ h
          · have e2 := Option.some.inj e
            simp only at e2
            have := HV9.out.row.lt
            omega
        · show _ = _
          simp only [stepsV]
          rw [HPE.out.symm, HNX.out]
        · exact HP8
        · refine ⟨HV9.out.row.grown HG6.out (fun e => HVG.out _ e rfl), rd_grown HV9.out.rd HG6.out (fun h0 ad e e2 => ?_), HV9.out.le, HV9.out.room, HV9.out.ne⟩
          exact HVA.out _ e2 h0 ad e rfl
        · exact HG9.out.grown HG6.out HG9.out.size (fun b e => (HO9.out.blk b e).1)
      case measure => simp [intOf]; omega
    · have hnd : ¬ ((i : Int) < (N : Int) ∧ (i : Int) ≤ 256) := by omega
      have hcase : (i : Int) < (N : Int) ∨ ¬ (i : Int) < (N : Int) := Classical.em _
      rcases hcase with hci | hci
      · have hi6 : ¬ (i : Int) ≤ 256 := by omega
        have HFIN : Hid (readV bs = (stepsV i L0).1) := by show _ = _; unfold readV; rw [HN0.out, HL0.out, show min N 257 = i by omega]
        have HDEC := hide (decS_readV bs)
        rw [HFIN.out] at HDEC
        generalize (stepsV i L0).1 = fs at HO HDEC
        obtain ⟨a3, c3, rfl, hc3, hn3⟩ := HO.out.shape
        have HRL := hide HO.out.rdl
        have HRB := hide HVW.out.rd
        by_cases hk : chk fs = 0
        · go_wp2_with fail
          refine (refEncode_ok a3 fs.length c3 fs _ HRL.out hk).mono ?_
          rintro e w1 ⟨v1, rfl, ho1, hb1⟩
          obtain ⟨a4, c4, rfl⟩ := ho1.shape
          have HR4 := hide (Got.rd ho1 (by have := enc_bound hk; omega))
          have HB1 := hide (below_trans HB.out hb1)
          have HO1 := hide (HO.out.below hb1)
          have HRB1 := hide (HRB.out.below hb1)
          clear ho1 hb1
          go_wp2_with fail
          refine (rsame_any a4 a (encL fs).length c4 n c (encL fs) bs _ HR4.out HRB1.out).mono ?_
          rintro e w2 ⟨rfl, hb2⟩
          have HB2 := hide (below_trans HB1.out hb2)
          have HO2 := hide (HO1.out.below hb2)
          clear hb2
          by_cases hq : encL fs = bs
          · have hd : decide (encL fs = bs) = true := decide_eq_true hq
            rw [hd]
            rw [if_pos ⟨hk, hq⟩] at HDEC
            go_wp2_with fail
            go_ret2
            rw [HDEC.out]
            exact ⟨⟨_, rfl, HO2.out⟩, HB2.out⟩
          · have hd : decide (encL fs = bs) = false := decide_eq_false hq
            rw [hd]
            rw [if_neg (fun e => hq e.2)] at HDEC
            go_wp2_with fail
            go_ret2
            rw [HDEC.out]
            exact ⟨rfl, HB2.out⟩
        · rw [if_neg (fun e => hk e.1)] at HDEC
          have hc0 : ((chk fs : Int) != 0) = true := by rw [bne_iff_ne]; omega
          go_wp2_with fail
          refine (refEncode_no a3 fs.length c3 fs _ HRL.out hk).mono ?_
          rintro e w1 ⟨rfl, hb1⟩
          have HB1 := hide (below_trans HB.out hb1)
          clear hb1
          go_wp2_with fail
          go_ret2
          rw [HDEC.out]
          exact ⟨rfl, HB1.out⟩
      ·
        have HFIN : Hid (readV bs = (stepsV i L0).1) := by show _ = _; unfold readV; rw [HN0.out, HL0.out, show min N 257 = i by omega]
        have HDEC := hide (decS_readV bs)
        rw [HFIN.out] at HDEC
        generalize (stepsV i L0).1 = fs at HO HDEC
        obtain ⟨a3, c3, rfl, hc3, hn3⟩ := HO.out.shape
        have HRL := hide HO.out.rdl
        have HRB := hide HVW.out.rd
        by_cases hk : chk fs = 0
        · go_wp2_with fail
          refine (refEncode_ok a3 fs.length c3 fs _ HRL.out hk).mono ?_
          rintro e w1 ⟨v1, rfl, ho1, hb1⟩
          obtain ⟨a4, c4, rfl⟩ := ho1.shape
          have HR4 := hide (Got.rd ho1 (by have := enc_bound hk; omega))
          have HB1 := hide (below_trans HB.out hb1)
          have HO1 := hide (HO.out.below hb1)
          have HRB1 := hide (HRB.out.below hb1)
          clear ho1 hb1
          go_wp2_with fail
          refine (rsame_any a4 a (encL fs).length c4 n c (encL fs) bs _ HR4.out HRB1.out).mono ?_
          rintro e w2 ⟨rfl, hb2⟩
          have HB2 := hide (below_trans HB1.out hb2)
          have HO2 := hide (HO1.out.below hb2)
          clear hb2
          by_cases hq : encL fs = bs
          · have hd : decide (encL fs = bs) = true := decide_eq_true hq
            rw [hd]
            rw [if_pos ⟨hk, hq⟩] at HDEC
            go_wp2_with fail
            go_ret2
            rw [HDEC.out]
            exact ⟨⟨_, rfl, HO2.out⟩, HB2.out⟩
          · have hd : decide (encL fs = bs) = false := decide_eq_false hq
            rw [hd]
            rw [if_neg (fun e => hq e.2)] at HDEC
            go_wp2_with fail
            go_ret2
            rw [HDEC.out]
            exact ⟨rfl, HB2.out⟩
        · rw [if_neg (fun e => hk e.1)] at HDEC
          have hc0 : ((chk fs : Int) != 0) = true := by rw [bne_iff_ne]; omega
          go_wp2_with fail
          refine (refEncode_no a3 fs.length c3 fs _ HRL.out hk).mono ?_
          rintro e w1 ⟨rfl, hb1⟩
          have HB1 := hide (below_trans HB.out hb1)
          clear hb1
          go_wp2_with fail
          go_ret2
          rw [HDEC.out]
          exact ⟨rfl, HB1.out⟩
end Go.Proofs.Ytbmbhcjocgbbpab.Fa
