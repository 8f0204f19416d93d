/-
  The walk of the statement HuffCosts.
-/
import Derived.Test.YtjgogkbhneohnaaHuffC3
import Derived.Test.YtjgogkbhneohnaaHuffK2
import Derived.Deep.RegionHeld
import Derived.Deep.DeepCutAuto
namespace Go.Proofs.Ytjgogkbhneohnaa.huffCosts
open Go.ChangeShapes Go.WideShapes Go.ChangeAt Go.RowKit
open Go.Proofs.Ytjgogkbhneohnaa.Base Go.Proofs.Ytjgogkbhneohnaa.Huff
set_option linter.unusedVariables false
theorem row_front {t : TypeId} {w : World} {g n : Nat} {xs ys : List Int} (h : RowI t w g (xs ++ ys)) (hn : xs.length = n) (hl : n ≤ 17592186044416) : RdI w (some ⟨g, 0, none⟩) n xs := by
  have := h.rd n (by rw [List.length_append]; omega) hl
  rwa [List.take_append_of_le_length (by omega), List.take_of_length_le (by omega)] at this
theorem cost_at (cs ls : List Int) (N E : Int) (h : costd cs ls = (N, E)) (a b : Option Addr) (la ca lb cb : Nat) (w : World) (hx : RdI w a la cs) (hy : RdI w b lb ls) :
    Calls Try.prog 45 #[.slice a la ca, .slice b lb cb] w fun e w' => e = .returned (.tuple #[.int .i64 N, .int .i64 E]) ∧ Below w.heap.size w w' := by
  have := cost_any a b la ca lb cb cs ls w hx hy
  rw [h] at this
  exact this
theorem ref_at (cs ls : List Int) (N E : Int) (h : costd cs ls = (N, E)) (a b : Option Addr) (la ca lb cb : Nat) (w : World) (hx : RdI w a la cs) (hy : RdI w b lb ls) :
    Calls Try.prog 46 #[.slice a la ca, .slice b lb cb] w fun e w' => e = .returned (.tuple #[.int .i64 N, .int .i64 E]) ∧ Below w.heap.size w w' := by
  have := refCost_any a b la ca lb cb cs ls w hx hy
  rw [h] at this
  exact this
set_option maxHeartbeats 2000000 in
set_option maxRecDepth 100000 in
theorem walk (a0 : Option Addr) (len0 cap0 : Nat) (b0 : List Int) (a1 : Option Addr) (len1 cap1 : Nat) (b1 : List Int) (w : World) (r0 : RdI w a0 len0 b0) (l0 : len0 ≤ cap0) (m0 : cap0 ≤ 17592186043904) (r1 : RdI w a1 len1 b1) (l1 : len1 ≤ cap1) (m1 : cap1 ≤ 17592186043904) :
    Calls Try.prog 8 #[.slice a0 len0 cap0, .slice a1 len1 cap1] w fun e w' => e = .returned (.bool true) ∧ Below w.heap.size w w' := by
  have HL0 := hide r0.1
  have HL1 := hide r1.1
  have R0 := hide r0
  have R1 := hide r1
  have h0i : (len0 : Int) ≤ 17592186043904 := by omega
  have h1i : (len1 : Int) ≤ 17592186043904 := by omega
  clear r0 r1
  obtain ⟨N, E, hNE⟩ : ∃ N E, costd b0 b1 = (N, E) := ⟨_, _, rfl⟩
  have HNE := hide hNE
  clear hNE
  have hn : (N != N) = false := by simp
  have he : (E != E) = false := by simp
  go_enter Try.func8, Try.ntmps8
  go_wp2_with fail
  refine (roomyCounts_any a0 len0 cap0 b0 w R0.out (by omega)).mono ?_
  rintro e w1 ⟨rfl, hrow1, hb1⟩
  have HX1 := hide hrow1
  have HB1 := hide hb1
  have R11 := hide (R1.out.below hb1)
  obtain ⟨gx, hgx⟩ : ∃ gx, w.heap.size = gx := ⟨_, rfl⟩
  rw [hgx] at HX1 ⊢
  have HGX : Hid (w.heap.size ≤ gx) := by rw [hgx]; exact Nat.le_refl _
  clear hrow1 hb1 hgx
  go_wp2_with fail
  refine (roomyInts_any a1 len1 cap1 b1 w1 R11.out (by omega)).mono ?_
  rintro e w2 ⟨rfl, hrow2, hb2⟩
  have HY2 := hide hrow2
  have HB2 := hide (below_trans HB1.out hb2)
  have HX2 := hide (HX1.out.below hb2)
  obtain ⟨gy, hgy⟩ : ∃ gy, w1.heap.size = gy := ⟨_, rfl⟩
  have HXY : Hid (gx < gy) := by rw [← hgy]; exact HX1.out.lt
  rw [hgy] at HY2 ⊢
  clear hrow2 hb2 hgy HB1 HX1 R11
  have hx4 : len0 ≤ len0 + 64 := by omega
  have hy4 : len1 ≤ len1 + 64 := by omega
  have C3 := hide (fun (wx : World) (hx : Below w2.heap.size w2 wx) => cost_at b0 b1 N E HNE.out (some ⟨gx, 0, none⟩) (some ⟨gy, 0, none⟩) len0 (len0 + 64) len1 (len1 + 64) wx (row_front (HX2.out.below hx) HL0.out (by omega)) (row_front (HY2.out.below hx) HL1.out (by omega)))
  go_wp2_with fail
  go_cut [7, 8] (fun n e wx => n = .int .i64 N ∧ e = .int .i64 E ∧ Hid (Below w2.heap.size w2 wx))
  case first =>
    go_region_held (fun _ => True) (trivial) (first
      | (go_at_call 45; refine (C3.out _ ?_).mono ?_; exact (Below.refl w2.heap.size w2).drew; rintro e w3 ⟨rfl, hb3'⟩; have hb3 := hide (below_trans ((Below.refl w2.heap.size w2).drew) hb3'); clear hb3'))
    all_goals (go_wp2_with fail; go_meet; exact ⟨rfl, rfl, hb3⟩)
  case rest =>
  obtain ⟨rfl, rfl, HB23⟩ := hcut
  obtain ⟨w3, hw3⟩ : ∃ w3, wc = w3 := ⟨_, rfl⟩
  subst hw3
  have hb3 := HB23.out
  have HB3 := hide (below_trans HB2.out hb3)
  clear HB23
  have HX3 := hide (HX2.out.below hb3)
  have HY3 := hide (HY2.out.below hb3)
  clear hb3 HB2 HX2 HY2
  go_wp2_with fail
  refine (ref_at b0 b1 N E HNE.out _ _ len0 _ len1 _ wc (R0.out.below HB3.out) (R1.out.below HB3.out)).mono ?_
  rintro e w4 ⟨rfl, hb4⟩
  have HB4 := hide (below_trans HB3.out hb4)
  have HX4 := hide (HX3.out.below hb4)
  have HY4 := hide (HY3.out.below hb4)
  clear hb4 HB3 HX3 HY3
  go_wp2_with fail
  refine (keptCounts_any gx len0 a0 cap0 b0 w4 HX4.out (R0.out.below HB4.out) (by omega)).mono ?_
  rintro e w5 ⟨rfl, hb5⟩
  have HB5 := hide (below_trans HB4.out hb5)
  have HX5 := hide (HX4.out.below hb5)
  have HY5 := hide (HY4.out.below hb5)
  clear hb5 HB4 HX4 HY4
  go_wp2_with fail
  refine (keptInts_any gy len1 a1 cap1 b1 w5 HY5.out (R1.out.below HB5.out) (by omega)).mono ?_
  rintro e w6 ⟨rfl, hb6⟩
  have HB6 := hide (below_trans HB5.out hb6)
  have HX6 := hide (HX5.out.below hb6)
  have HY6 := hide (HY5.out.below hb6)
  clear hb6 HB5 HX5 HY5
  obtain ⟨N2, E2, hNE2⟩ : ∃ N E, costd (bk b0) b1 = (N, E) := ⟨_, _, rfl⟩
  have HNE2 := hide hNE2
  obtain ⟨N3, E3, hNE3⟩ : ∃ N E, costd (bk b0) (bk b1) = (N, E) := ⟨_, _, rfl⟩
  have HNE3 := hide hNE3
  have hn2 : (N2 != N2) = false := by simp
  have he2 : (E2 != E2) = false := by simp
  have hn3 : (N3 == N3) = true := by simp
  have he3 : (E3 == E3) = true := by simp
  have HK0 : Hid ((bk b0).length = len0) := by show _ = _; rw [bk_len]; exact HL0.out
  have HK1 : Hid ((bk b1).length = len1) := by show _ = _; rw [bk_len]; exact HL1.out
  have HD6 := hide ((Below.refl w6.heap.size w6).drew)
  have C7 := hide (fun (wx : World) (hx : Below w6.heap.size w6 wx) => backCounts_any gx len0 (len0 + 64) b0 marksI wx (HX6.out.below hx) HL0.out (by omega))
  clear hNE2 hNE3 C3
  go_wp2_with fail
  go_cut [7, 8] (fun n e wx => n = .int .i64 N2 ∧ e = .int .i64 E2 ∧ Hid (Below w.heap.size w wx) ∧ Hid (RowI 2 wx gx (bk b0 ++ marksI)) ∧ Hid (RowI 3 wx gy (b1 ++ marksI)))
  case first =>
    go_region_held (fun _ => True) (trivial) (first
      | (go_at_call 48; refine (C7.out _ ?_).mono ?_; exact HD6.out; rintro e w7 ⟨rfl, hrow7, hg7⟩; have HX7 := hide hrow7; have HY7 := hide ((HY6.out.below HD6.out).grown hg7 (fun h => by have := HXY.out; have := Option.some.inj h; omega)); have HB7 := hide ((below_trans HB6.out HD6.out).grown hg7 (below_trans HB6.out HD6.out).size (fun i h => by have := HGX.out; have := Option.some.inj h; omega)); clear hrow7 hg7)
      | (go_at_call 45; refine (cost_at (bk b0) b1 N2 E2 HNE2.out _ _ len0 _ len1 _ _ (row_front HX7.out HK0.out (by omega)) (row_front HY7.out HL1.out (by omega))).mono ?_; rintro e w8 ⟨rfl, hb8⟩; have HB8 := hide (below_trans HB7.out hb8); have HX8 := hide (HX7.out.below hb8); have HY8 := hide (HY7.out.below hb8); clear hb8))
    all_goals (go_wp2_with fail; go_meet; exact ⟨rfl, rfl, HB8, HX8, HY8⟩)
  case rest =>
  clear HB6 HX6 HY6 C7 HD6
  obtain ⟨rfl, rfl, HB8, HX8, HY8⟩ := hcut
  obtain ⟨w8, hw8⟩ : ∃ w8, w8 = wc := ⟨_, rfl⟩
  rw [← hw8] at HB8 HX8 HY8 ⊢
  clear hw8
  go_wp2_with fail
  refine (roomyCounts_any a0 len0 cap0 b0 w8 (R0.out.below HB8.out) (by omega)).mono ?_
  rintro e w9 ⟨rfl, hrow9, hb9⟩
  have HR9 := hide hrow9
  have HB9 := hide (below_trans HB8.out hb9)
  have HX9 := hide (HX8.out.below hb9)
  have HY9 := hide (HY8.out.below hb9)
  obtain ⟨gr, hgr⟩ : ∃ gr, w8.heap.size = gr := ⟨_, rfl⟩
  have HRL : Hid (gx < gr ∧ gy < gr ∧ w.heap.size ≤ gr) := by rw [← hgr]; exact ⟨HX8.out.lt, HY8.out.lt, HB8.out.size⟩
  rw [hgr] at HR9 ⊢
  clear hrow9 hb9 hgr HB8 HX8 HY8
  go_wp2_with fail
  refine (backCounts_any gr len0 (len0 + 64) b0 marksI w9 HR9.out HL0.out (by omega)).mono ?_
  rintro e w10 ⟨rfl, hrow10, hg10⟩
  have HR10 := hide hrow10
  have HB10 := hide (HB9.out.grown hg10 HB9.out.size (fun i h => by have := HRL.out.2.2; have := Option.some.inj h; omega))
  have HX10 := hide (HX9.out.grown hg10 (fun h => by have := HRL.out.1; have := Option.some.inj h; omega))
  have HY10 := hide (HY9.out.grown hg10 (fun h => by have := HRL.out.2.1; have := Option.some.inj h; omega))
  clear hrow10 hg10 HB9 HX9 HY9 HR9
  go_wp2_with fail
  refine (ref_at (bk b0) b1 N2 E2 HNE2.out _ _ len0 _ len1 _ w10 (row_front HR10.out HK0.out (by omega)) (R1.out.below HB10.out)).mono ?_
  rintro e w11 ⟨rfl, hb11⟩
  have HB11 := hide (below_trans HB10.out hb11)
  have HX11 := hide (HX10.out.below hb11)
  have HY11 := hide (HY10.out.below hb11)
  have HD11 := hide ((Below.refl w11.heap.size w11).drew)
  have C11 := hide (fun (wx : World) (hx : Below w11.heap.size w11 wx) => backInts_any gy len1 (len1 + 64) b1 marksI wx (HY11.out.below hx) HL1.out (by omega))
  clear hb11 HB10 HX10 HY10 HR10
  go_wp2_with fail
  go_cut [7, 8] (fun n e wx => n = .int .i64 N3 ∧ e = .int .i64 E3 ∧ Hid (Below w.heap.size w wx))
  case first =>
    go_region_held (fun _ => True) (trivial) (first
      | (go_at_call 43; refine (C11.out _ ?_).mono ?_; exact HD11.out; rintro e w12 ⟨rfl, hrow12, hg12⟩; have HY12 := hide hrow12; have HX12 := hide ((HX11.out.below HD11.out).grown hg12 (fun h => by have := HXY.out; have := Option.some.inj h; omega)); have HB12 := hide ((below_trans HB11.out HD11.out).grown hg12 (below_trans HB11.out HD11.out).size (fun i h => by have := HGX.out; have := HXY.out; have := Option.some.inj h; omega)); clear hrow12 hg12)
      | (go_at_call 45; refine (cost_at (bk b0) (bk b1) N3 E3 HNE3.out _ _ len0 _ len1 _ _ (row_front HX12.out HK0.out (by omega)) (row_front HY12.out HK1.out (by omega))).mono ?_; rintro e w13 ⟨rfl, hb13⟩; have HB13 := hide (below_trans HB12.out hb13); clear hb13))
    all_goals (go_wp2_with fail; go_meet; exact ⟨rfl, rfl, HB13⟩)
  case rest =>
  clear HB11 HX11 HY11 C11 HD11
  obtain ⟨rfl, rfl, HB13⟩ := hcut
  obtain ⟨w13, hw13⟩ : ∃ w13, w13 = wc := ⟨_, rfl⟩
  rw [← hw13] at HB13 ⊢
  clear hw13
  go_wp2_with fail
  refine (roomyCounts_any a0 len0 cap0 b0 w13 (R0.out.below HB13.out) (by omega)).mono ?_
  rintro e w14 ⟨rfl, hrow14, hb14⟩
  have HR14 := hide hrow14
  have HB14 := hide (below_trans HB13.out hb14)
  obtain ⟨gp, hgp⟩ : ∃ gp, w13.heap.size = gp := ⟨_, rfl⟩
  have HPL : Hid (w.heap.size ≤ gp) := by rw [← hgp]; exact HB13.out.size
  rw [hgp] at HR14 ⊢
  clear hrow14 hb14 hgp HB13
  go_wp2_with fail
  refine (backCounts_any gp len0 (len0 + 64) b0 marksI w14 HR14.out HL0.out (by omega)).mono ?_
  rintro e w15 ⟨rfl, hrow15, hg15⟩
  have HR15 := hide hrow15
  have HB15 := hide (HB14.out.grown hg15 HB14.out.size (fun i h => by have := HPL.out; have := Option.some.inj h; omega))
  clear hrow15 hg15 HB14 HR14
  go_wp2_with fail
  refine (roomyInts_any a1 len1 cap1 b1 w15 (R1.out.below HB15.out) (by omega)).mono ?_
  rintro e w16 ⟨rfl, hrow16, hb16⟩
  have HS16 := hide hrow16
  have HB16 := hide (below_trans HB15.out hb16)
  have HR16 := hide (HR15.out.below hb16)
  obtain ⟨gq, hgq⟩ : ∃ gq, w15.heap.size = gq := ⟨_, rfl⟩
  have HQL : Hid (gp < gq ∧ w.heap.size ≤ gq) := by rw [← hgq]; exact ⟨HR15.out.lt, HB15.out.size⟩
  rw [hgq] at HS16 ⊢
  clear hrow16 hb16 hgq HB15 HR15
  go_wp2_with fail
  refine (backInts_any gq len1 (len1 + 64) b1 marksI w16 HS16.out HL1.out (by omega)).mono ?_
  rintro e w17 ⟨rfl, hrow17, hg17⟩
  have HS17 := hide hrow17
  have HB17 := hide (HB16.out.grown hg17 HB16.out.size (fun i h => by have := HQL.out.2; have := Option.some.inj h; omega))
  have HR17 := hide (HR16.out.grown hg17 (fun h => by have := HQL.out.1; have := Option.some.inj h; omega))
  clear hrow17 hg17 HB16 HR16 HS16
  go_wp2_with fail
  refine (ref_at (bk b0) (bk b1) N3 E3 HNE3.out _ _ len0 _ len1 _ w17 (row_front HR17.out HK0.out (by omega)) (row_front HS17.out HK1.out (by omega))).mono ?_
  rintro e w18 ⟨rfl, hb18⟩
  have HB18 := hide (below_trans HB17.out hb18)
  clear hb18
  go_wp2_with fail
  go_ret
  exact ⟨rfl, HB18.out⟩
end Go.Proofs.Ytjgogkbhneohnaa.huffCosts
