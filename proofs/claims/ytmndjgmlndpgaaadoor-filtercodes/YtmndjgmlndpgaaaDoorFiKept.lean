/-
  The same filters; a filter that was kept.
-/
import Derived.Test.YtmndjgmlndpgaaaDoorFiGiven
namespace Go.Proofs.YtmndjgmlndpgaaaDoor.Filt
open Go.ChangeShapes Go.WideShapes Go.ChangeAt Go.RowKit
open Go.Proofs.YtmndjgmlndpgaaaDoor.Base
set_option linter.unusedVariables false
theorem duo (A : Bool) (H : Int) (va : Value) (B : Bool) (G : Int) (vb : Value) (w : World) : ∃ w0 w1 ga gb, w.alloc (.cells #[.bool A, .int .i64 H, va] 24) = w0 ∧ w0.alloc (.cells #[.bool B, .int .i64 G, vb] 24) = w1 ∧
    w.heap.size = ga ∧ w0.heap.size = gb ∧ Hid (FB w1 ga A H va) ∧ Hid (FB w1 gb B G vb) ∧ Hid (Below w.heap.size w w1) := by
  obtain ⟨w0, e0⟩ : ∃ w0, w.alloc (.cells #[.bool A, .int .i64 H, va] 24) = w0 := ⟨_, rfl⟩
  obtain ⟨w1, e1⟩ : ∃ w1, w0.alloc (.cells #[.bool B, .int .i64 G, vb] 24) = w1 := ⟨_, rfl⟩
  have b0 : Below w.heap.size w w0 := by rw [← e0]; exact (Below.refl _ _).alloc (Nat.le_refl _) _
  have b1 : Below w0.heap.size w0 w1 := by rw [← e1]; exact (Below.refl _ _).alloc (Nat.le_refl _) _
  have F0 : FB w0 w.heap.size A H va := by rw [← e0]; exact FB.new _ _ _ _
  have F1 : FB w1 w0.heap.size B G vb := by rw [← e1]; exact FB.new _ _ _ _
  exact ⟨w0, w1, _, _, e0, e1, rfl, rfl, F0.below b1, F1, b0.trans (b1.mono b0.size)⟩
set_option maxHeartbeats 1000000 in
set_option maxRecDepth 100000 in
theorem alike_eq (A : Bool) (H : Int) (a b : Option Addr) (la ca lb cb : Nat) (xs : List (BitVec 8)) (w : World) (hx : Rd w a la xs) (hy : Rd w b lb xs) :
    Calls Tryd.prog 17 #[.agg #[.bool A, .int .i64 H, .slice a la ca], .agg #[.bool A, .int .i64 H, .slice b lb cb]] w fun e w' => e = .returned (.bool true) ∧ Below w.heap.size w w' := by
  obtain ⟨w0, w1, ga, gb, e0, e1, s0, s1, HA, HB, HBW⟩ := duo A H (.slice a la ca) A H (.slice b lb cb) w
  have a0 := HA.out.c0
  have a1 := HA.out.c1
  have a2 := HA.out.c2
  have b0 := HB.out.c0
  have b1 := HB.out.c1
  have b2 := HB.out.c2
  have HS := hide s0
  have HX := hide (hx.below HBW.out)
  have HY := hide (hy.below HBW.out)
  have q1 : (A == A) = true := by simp
  have q2 : (H == H) = true := by simp
  clear hx hy
  go_enter Tryd.func17, Tryd.ntmps17
  go_wp2_with fail
  refine (same_eq a b la ca lb cb xs w1 HX.out HY.out).mono ?_
  rintro e w2 ⟨rfl, hb⟩
  have HB2 : Hid (Below w.heap.size w w2) := HBW.out.trans (hb.mono HBW.out.size)
  clear hb
  go_wp2_with fail
  go_ret
  exact ⟨rfl, by first | exact HB2.out | (rw [← HS.out]; exact HB2.out)⟩
theorem fb_cells {w1 W : World} {ga gb : Nat} {A B : Bool} {H G : Int} {va vb : Value} (hA : FB w1 ga A H va) (hB : FB w1 gb B G vb) (hW : Below w1.heap.size w1 W) :
    W.cell? ⟨ga, 0, none⟩ = some (.bool A) ∧ W.cell? ⟨ga, 1, none⟩ = some (.int .i64 H) ∧ W.cell? ⟨ga, 2, none⟩ = some va ∧ W.cell? ⟨gb, 0, none⟩ = some (.bool B) ∧ W.cell? ⟨gb, 1, none⟩ = some (.int .i64 G) ∧ W.cell? ⟨gb, 2, none⟩ = some vb :=
  ⟨(hA.below hW).c0, (hA.below hW).c1, (hA.below hW).c2, (hB.below hW).c0, (hB.below hW).c1, (hB.below hW).c2⟩
set_option maxHeartbeats 1000000 in
set_option maxRecDepth 100000 in
theorem kept_any (A : Bool) (H : Int) (g len : Nat) (base : Nat) (b : Option Addr) (cb : Nat) (xs : List (BitVec 8)) (w : World) (ho : Own w base (.slice (some ⟨g, 0, none⟩) (len + 64) (len + 64)) (xs ++ marks8)) (hy : Rd w b len xs) (hl : len ≤ 140737488351232) :
    Calls Tryd.prog 16 #[.agg #[.bool A, .int .i64 H, .slice (some ⟨g, 0, none⟩) len (len + 64)], .agg #[.bool A, .int .i64 H, .slice b len cb]] w fun e w' => e = .returned (.bool true) ∧ Below w.heap.size w w' := by
  obtain ⟨w0, w1, ga, gb, e0, e1, s0, s1, HA, HB, HBW⟩ := duo A H (.slice (some ⟨g, 0, none⟩) len (len + 64)) A H (.slice b len cb) w
  have HL := hide hy.1
  have HZL : Hid ((xs ++ marks8).length = len + 64) := by show _ = _; rw [List.length_append, marks8_len, HL.out]
  have HO := hide (ho.below HBW.out)
  have HY := hide (hy.below HBW.out)
  have HS := hide s0
  have a0 := HA.out.c0
  have a1 := HA.out.c1
  have a2 := HA.out.c2
  have b0 := HB.out.c0
  have b1 := HB.out.c1
  have b2 := HB.out.c2
  have hx4 : len + 64 ≤ len + 64 := Nat.le_refl _
  have hx5 : (len : Int) + 64 ≤ (len : Int) + 64 := Int.le_refl _
  have hx6 : ((len + 64 : Nat) : Int) = (len : Int) + 64 := by omega
  have hli : (len : Int) ≤ 140737488351232 := by omega
  have hwr : IntKind.i64.wrap ((len : Int) + 64) = ((len + 64 : Nat) : Int) := by rw [IntKind.wrap_i64]; omega
  have HRF : Hid (∀ W, Below w1.heap.size w1 W → Rd W (some ⟨g, 0, none⟩) len xs) := fun W hW => by
    have h := ((HO.out.below hW).cut len (by omega)).rd (by rw [List.length_take, HZL.out]; omega)
    rw [List.take_append_of_le_length (by rw [HL.out]; exact Nat.le_refl _), List.take_of_length_le (by rw [HL.out]; exact Nat.le_refl _)] at h
    exact h
  have HCA : Hid (∀ W, Below w1.heap.size w1 W → Calls Tryd.prog 17 #[.agg #[.bool A, .int .i64 H, .slice (some ⟨g, 0, none⟩) len (len + 64)], .agg #[.bool A, .int .i64 H, .slice b len cb]] W fun e w' => e = .returned (.bool true) ∧ Below w1.heap.size w1 w') := fun W hW =>
    (alike_eq A H _ b len _ len cb xs W (HRF.out W hW) (HY.out.below hW)).mono fun e w' ⟨h1, h2⟩ => ⟨h1, hW.trans (h2.mono hW.size)⟩
  have HCR : Hid (∀ W, Below w1.heap.size w1 W → Calls Tryd.prog 8 #[.slice b len cb] W fun e w' => ∃ g, e = .returned (.slice (some ⟨g, 0, none⟩) (len + 64) (len + 64)) ∧ Own w' w1.heap.size (.slice (some ⟨g, 0, none⟩) (len + 64) (len + 64)) (xs ++ marks8) ∧ Below w1.heap.size w1 w') := fun W hW =>
    (roomy_any b len cb xs W (HY.out.below hW) hl).mono fun e w' ⟨g, h1, h2, h3, h4⟩ => ⟨g, h1, h3.mono hW.size, hW.trans (h4.mono hW.size)⟩
  have HCS : Hid (∀ W g2, Below w1.heap.size w1 W → Own W w1.heap.size (.slice (some ⟨g2, 0, none⟩) (len + 64) (len + 64)) (xs ++ marks8) → Calls Tryd.prog 15 #[.slice (some ⟨g, 0, none⟩) (len + 64) (len + 64), .slice (some ⟨g2, 0, none⟩) (len + 64) (len + 64)] W fun e w' => e = .returned (.bool true) ∧ Below w1.heap.size w1 w') := fun W g2 hW h2 =>
    (same_eq _ _ (len + 64) _ (len + 64) _ (xs ++ marks8) W ((HO.out.below hW).rd (by rw [HZL.out]; omega)) (h2.rd (by rw [HZL.out]; omega))).mono fun e w' ⟨h1, h2⟩ => ⟨h1, hW.trans (h2.mono hW.size)⟩
  clear hy ho
  go_enter Tryd.func16, Tryd.ntmps16
  go_wp2_with fail
  go_region_held (fun V => V.cell? ⟨ga, 0, none⟩ = some (.bool A) ∧ V.cell? ⟨ga, 1, none⟩ = some (.int .i64 H) ∧ V.cell? ⟨ga, 2, none⟩ = some (.slice (some ⟨g, 0, none⟩) len (len + 64)) ∧ V.cell? ⟨gb, 0, none⟩ = some (.bool A) ∧ V.cell? ⟨gb, 1, none⟩ = some (.int .i64 H) ∧ V.cell? ⟨gb, 2, none⟩ = some (.slice b len cb)) (first | go_keep | exact E8.out | exact E9.out | exact E10.out) (first
    | (go_at_call 17; refine (HCA.out _ ((Below.refl _ _).drew)).mono ?_; rintro e w6 ⟨rfl, hb6⟩; have HB6 := hide hb6; have E8 := hide (fb_cells HA.out HB.out hb6); clear hb6)
    | (go_at_call 8; refine (HCR.out _ HB6.out).mono ?_; rintro e w7 ⟨g2, rfl, ho7, hb7⟩; have HB7 := hide hb7; have HO7 := hide ho7; have E9 := hide (fb_cells HA.out HB.out hb7); clear hb7 ho7)
    | (go_at_call 15; refine (HCS.out _ _ HB7.out HO7.out).mono ?_; rintro e w8 ⟨rfl, hb8⟩; have HB8 := hide hb8; have E10 := hide (fb_cells HA.out HB.out hb8); clear hb8))
  all_goals
    go_wp2_with fail
    go_ret
    exact ⟨rfl, by first | exact HBW.out.trans (HB8.out.mono HBW.out.size) | (rw [← HS.out]; exact HBW.out.trans (HB8.out.mono HBW.out.size))⟩
end Go.Proofs.YtmndjgmlndpgaaaDoor.Filt
