/-
  The walk of the statement PartsRange.
-/
import Derived.Test.YtdpihfmbkimgpaaPaRanged
namespace Go.Proofs.Ytdpihfmbkimgpaa.partsRange
open Go.ChangeShapes Go.WideShapes Go.ChangeAt Go.RowKit
open Go.Proofs.Ytdpihfmbkimgpaa.Base Go.Proofs.Ytdpihfmbkimgpaa.Pa
set_option linter.unusedVariables false
set_option maxHeartbeats 2000000 in
set_option maxRecDepth 100000 in
theorem walk0 (j : Jb) (n : Int) (a : Option Addr) (l c : Nat) (a1 : Option Addr) (len1 cap1 : Nat) (ss : List ByteArray) (a2 : Option Addr) (len2 cap2 : Nat) (ks : List ByteArray) (w : World) (r1 : RdS w a1 len1 ss) (m1 : len1 ≤ 8796093021952) (z1 : a1 = none → len1 = 0 ∧ cap1 = 0) (y1 : ∀ s ∈ ss, s.size ≤ 140737488351232) (r2 : RdS w a2 len2 ks) (y2 : ∀ s ∈ ks, s.size ≤ 140737488351232) :
    Calls Try.prog 4 #[j.val n a l c, .slice a1 len1 cap1, .slice a2 len2 cap2] w fun e w' => e = .returned (.bool true) ∧ Below w.heap.size w w' := by
  have HA := hide ((Below.refl w.heap.size w).alloc (Nat.le_refl _) (.cells #[.int .i64 j.k, .int .i64 n, .slice a l c, .bool j.cb, .int .i64 j.bu, .int .i64 j.fa, .int .i64 j.tr, .int .i64 j.b, .int .i64 j.r, .int .i64 j.t] 28))
  have HJ := hide (jc_new w j n (.slice a l c))
  have HL1 := hide r1.1
  have R2 := hide r2
  have H1 := hide (r1.below HA.out)
  have H2 := hide (r2.below HA.out)
  have HZ := hide z1
  have Y1 := hide y1
  have Y2 := hide y2
  have hl1 := r1.2.1
  clear r1 r2 z1 y1 y2
  unfold Jb.val
  go_enter Try.func4, Try.ntmps4
  go_wp2_with fail
  refine (roomy_any a1 len1 cap1 ss _ H1.out HZ.out m1).mono ?_
  rintro e w2 ⟨gx, cx, rfl, ho2, hb2⟩
  have HX2 := hide ho2
  have HGX := hide (World.ownsRow.lt ho2 gx rfl)
  have HJ2 := hide (HJ.out.below hb2)
  have HB2 := hide (below_trans HA.out hb2)
  have H12 := hide (H1.out.below hb2)
  have H22 := hide (H2.out.below hb2)
  have HSX : Hid (RdS w2 (some ⟨gx, 0, none⟩) len1 ss) := by
    have h1 := ho2.cut (fun s hs2 => by
      rcases List.mem_append.1 hs2 with h | h
      · have := Y1.out s h; omega
      · rw [List.mem_singleton] at h; rw [h]; decide) (by omega) len1 (by omega)
    rwa [take_mark ss markS len1 HL1.out] at h1
  have HWL : Hid (w.heap.size < (w.alloc (.cells #[.int .i64 j.k, .int .i64 n, .slice a l c, .bool j.cb, .int .i64 j.bu, .int .i64 j.fa, .int .i64 j.tr, .int .i64 j.b, .int .i64 j.r, .int .i64 j.t] 28)).heap.size) := HJ.out.lt
  clear ho2 hb2 HJ H1 H2
  obtain ⟨x0, x1, x2, x3, x4, x5, x6, x7, x8, x9⟩ := HJ2.out.cells
  go_wp2_with fail
  refine (ranged_any j n a l c (some ⟨gx, 0, none⟩) len1 cx a1 len1 cap1 a2 len2 cap2 ss ks w2 HSX.out H12.out H22.out Y2.out).mono ?_
  rintro e w3 ⟨rfl, hb3⟩
  have HX3 := hide (HX2.out.below hb3)
  have HJ3 := hide (HJ2.out.below hb3)
  have HB3 := hide (below_trans HB2.out hb3)
  have H13 := hide (H12.out.below hb3)
  have H23 := hide (H22.out.below hb3)
  clear hb3 x0 x1 x2 x3 x4 x5 x6 x7 x8 x9 HJ2 HB2 H12 H22 HSX HX2
  go_wp2_with fail
  refine (kept_any gx len1 cx _ len1 cap1 a1 ss w3 HX3.out H13.out Y1.out m1 HL1.out).mono ?_
  rintro e w4 ⟨rfl, hb4⟩
  have HX4 := hide (HX3.out.below hb4)
  have HJ4 := hide (HJ3.out.below hb4)
  have HB4 := hide (below_trans HB3.out hb4)
  have H24 := hide (H23.out.below hb4)
  clear hb4 HJ3 HB3 H13 H23 HX3
  go_wp2_with fail
  refine (turned_any gx len1 cx _ ss w4 HX4.out Y1.out m1 HL1.out).mono ?_
  rintro e w5 ⟨v5, rfl, ho5, hx5, hg5⟩
  obtain ⟨a5, c5, rfl⟩ := ho5.shape
  have HTL : Hid ((turn ss).length = len1) := hide ((turn_len ss).trans HL1.out)
  have HTS := hide (turn_size Y1.out)
  rw [HTL.out] at ho5 ⊢
  have HB5 := hide (HB4.out.grown hg5 HB4.out.size (fun q e => by have := Option.some.inj e; have := HGX.out.1; have := HWL.out; omega))
  have HJ5 : Hid (JC w5 w.heap.size j n (.slice a l c)) := hide ((hg5.block _ HJ4.out.lt (fun e => by have := Option.some.inj e; have := HGX.out.1; have := HWL.out; omega)).trans HJ4.out)
  have HR5 := hide (ho5.rds (by rw [HTL.out]; omega) (fun s hs => by have := HTS.out s hs; omega))
  have HSX5 : Hid (RdS w5 (some ⟨gx, 0, none⟩) len1 (turn ss)) := by
    have h1 := hx5.cut (fun s hs2 => by
      rcases List.mem_append.1 hs2 with h | h
      · have := HTS.out s h; omega
      · rw [List.mem_singleton] at h; rw [h]; decide) (by omega) len1 (by omega)
    rwa [take_mark (turn ss) markS len1 HTL.out] at h1
  obtain ⟨x0, x1, x2, x3, x4, x5, x6, x7, x8, x9⟩ := HJ5.out.cells
  clear ho5 hx5 hg5 HX4 HJ4 H24
  go_wp2_with fail
  refine (ranged_any j n a l c (some ⟨gx, 0, none⟩) len1 cx a5 len1 c5 a2 len2 cap2 (turn ss) ks w5 HSX5.out HR5.out (R2.out.below HB5.out) Y2.out).mono ?_
  rintro e w6 ⟨rfl, hb6⟩
  have HB6 := hide (below_trans HB5.out hb6)
  clear hb6 x0 x1 x2 x3 x4 x5 x6 x7 x8 x9
  go_wp2_with fail
  go_ret
  exact ⟨rfl, HB6.out⟩
theorem walk (j : Jb) (n : Int) (a : Option Addr) (l c : Nat) (a1 : Option Addr) (len1 cap1 : Nat) (ss : List ByteArray) (a2 : Option Addr) (len2 cap2 : Nat) (ks : List ByteArray) (w : World) (r1 : RdS w a1 len1 ss) (l1 : len1 ≤ cap1) (m1 : cap1 ≤ 8796093021952) (z1 : a1 = none → len1 = 0 ∧ cap1 = 0) (y1 : ∀ s ∈ ss, s.size ≤ 140737488351232) (r2 : RdS w a2 len2 ks) (l2 : len2 ≤ cap2) (m2 : cap2 ≤ 8796093021952) (z2 : a2 = none → len2 = 0 ∧ cap2 = 0) (y2 : ∀ s ∈ ks, s.size ≤ 140737488351232) :
    Calls Try.prog 4 #[j.val n a l c, .slice a1 len1 cap1, .slice a2 len2 cap2] w fun e w' => e = .returned (.bool true) ∧ Below w.heap.size w w' := walk0 j n a l c a1 len1 cap1 ss a2 len2 cap2 ks w r1 (by omega) z1 y1 r2 y2
end Go.Proofs.Ytdpihfmbkimgpaa.partsRange
