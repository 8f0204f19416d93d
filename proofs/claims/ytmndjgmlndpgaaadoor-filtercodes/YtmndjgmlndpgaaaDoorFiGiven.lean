/-
  The statements' helpers: a filter as it is handed in, bytes of which the last is turned, the same filters, a filter that was kept.
-/
import Derived.Test.YtmndjgmlndpgaaaDoorFiRefJ
import Derived.Test.YtmndjgmlndpgaaaDoorFiRoom
import Derived.Test.YtmndjgmlndpgaaaDoorFiSame
namespace Go.Proofs.YtmndjgmlndpgaaaDoor.Filt
open Go.ChangeShapes Go.WideShapes Go.ChangeAt Go.RowKit
open Go.Proofs.YtmndjgmlndpgaaaDoor.Base
set_option linter.unusedVariables false
set_option maxHeartbeats 1000000 in
set_option maxRecDepth 100000 in
theorem given_any (A : Bool) (H : Int) (a : Option Addr) (len cap : Nat) (bs : List (BitVec 8)) (w : World) (hr : Rd w a len bs) (hl : len ≤ 140737488351232) :
    Calls Tryd.prog 4 #[.agg #[.bool A, .int .i64 H, .slice a len cap]] w fun e w' => ∃ g, e = .returned (.agg #[.bool A, .int .i64 H, .slice (some ⟨g, 0, none⟩) len (len + 64)]) ∧ w.heap.size ≤ g ∧ Own w' w.heap.size (.slice (some ⟨g, 0, none⟩) (len + 64) (len + 64)) (bs ++ marks8) ∧ Below w.heap.size w w' := by
  obtain ⟨w0, hw0⟩ : ∃ w0, w.alloc (.cells #[.bool A, .int .i64 H, .slice a len cap] 24) = w0 := ⟨_, rfl⟩
  obtain ⟨u0, hu0⟩ : ∃ u0, w0.alloc (.cells #[.bool false, .int .i64 0, .slice none 0 0] 24) = u0 := ⟨_, rfl⟩
  obtain ⟨w1, hw1⟩ : ∃ w1, u0.alloc (.cells #[.bool A, .int .i64 H, .slice a len cap] 24) = w1 := ⟨_, rfl⟩
  have b0 : Below w.heap.size w w0 := by rw [← hw0]; exact (Below.refl _ _).alloc (Nat.le_refl _) _
  have b1 : Below w0.heap.size w0 u0 := by rw [← hu0]; exact (Below.refl _ _).alloc (Nat.le_refl _) _
  have b2 : Below u0.heap.size u0 w1 := by rw [← hw1]; exact (Below.refl _ _).alloc (Nat.le_refl _) _
  have F0 : FB w0 w.heap.size A H (.slice a len cap) := by rw [← hw0]; exact FB.new _ _ _ _
  have F1 : FB u0 w0.heap.size false 0 (.slice none 0 0) := by rw [← hu0]; exact FB.new _ _ _ _
  have F2 : FB w1 u0.heap.size A H (.slice a len cap) := by rw [← hw1]; exact FB.new _ _ _ _
  obtain ⟨gp, s0⟩ : ∃ g, w.heap.size = g := ⟨_, rfl⟩
  obtain ⟨r, s1⟩ : ∃ g, w0.heap.size = g := ⟨_, rfl⟩
  obtain ⟨gg, s2⟩ : ∃ g, u0.heap.size = g := ⟨_, rfl⟩
  have HL1 : Hid (gp < r) := by rw [← s0, ← s1]; exact F0.lt
  have HL2 : Hid (r < gg) := by rw [← s1, ← s2]; exact F1.lt
  have f0 := F0.c0
  have f1 := F0.c1
  have f2 := F0.c2
  have FP0 := F0.below b1
  have d0 := FP0.c0
  have d1 := FP0.c1
  have d2 := FP0.c2
  have HP := hide (FP0.below b2)
  have HR := hide (F1.below b2)
  have HG := hide F2
  have HB : Hid (Below w.heap.size w w1) := (b0.trans (b1.mono b0.size)).trans (b2.mono (Nat.le_trans b0.size b1.size))
  rw [s0] at HP f0 f1 f2 d0 d1 d2
  rw [s1] at HR
  rw [s2] at HG
  have HX := hide (hr.below HB.out)
  have HS := hide s0
  have hx4 : len ≤ len + 64 := by omega
  have hx5 : (len : Int) ≤ (len : Int) + 64 := by omega
  have hli : (len : Int) ≤ 140737488351232 := by omega
  have p2 := HP.out.c2
  have q0 := HG.out.c0
  have q1 := HG.out.c1
  have q2 := HG.out.c2
  have qz := HG.out.fz 2
  have HRM : Hid (∀ W, Below w1.heap.size w1 W → Calls Tryd.prog 8 #[.slice a len cap] W fun e w' => ∃ g, e = .returned (.slice (some ⟨g, 0, none⟩) (len + 64) (len + 64)) ∧ w1.heap.size ≤ g ∧ Own w' w1.heap.size (.slice (some ⟨g, 0, none⟩) (len + 64) (len + 64)) (bs ++ marks8) ∧ Below w1.heap.size w1 w') := fun W hW =>
    (roomy_any a len cap bs W (HX.out.below hW) hl).mono fun e w' ⟨g, h1, h2, h3, h4⟩ => ⟨g, h1, Nat.le_trans hW.size h2, h3.mono hW.size, hW.trans (h4.mono hW.size)⟩
  clear hr F0 F1 F2 FP0 b0 b1 b2
  go_enter Tryd.func4, Tryd.ntmps4
  go_wp2_with fail
  go_region_held (fun V => V.cell? ⟨gp, 2, none⟩ = some (.slice a len cap)) (first | go_keep | exact E8.out | exact E9.out) (first
    | (go_at_call 8; refine (HRM.out _ ((Below.refl _ _).drew)).mono ?_; rintro e w6 ⟨g, rfl, hg6, ho6, hb6⟩; have HO6 := hide ho6; have HB6 := hide hb6; have HP6 := hide (HP.out.below hb6); have HR6 := hide (HR.out.below hb6); have HG6 := hide (HG.out.below hb6); have HGG := hide hg6; have E8 := hide HP6.out.c2; have y2 := HG6.out.c2; have yz := HG6.out.fz 2; have HG5 : Hid (w6.grownBy (w6.setCell ⟨gg, 2, none⟩ (.slice (some ⟨g, 0, none⟩) len (len + 64))) (some gg)) := grown_cell (World.grownBy.refl _ _) _ _; have E9 := hide ((HP6.out.grown HG5.out (by have := HL1.out; have := HL2.out; intro e; have := Option.some.inj e; omega)).c2); clear ho6 hb6 hg6))
  all_goals
    obtain ⟨w7, hw7⟩ : ∃ w7, w6.setCell ⟨gg, 2, none⟩ (.slice (some ⟨g, 0, none⟩) len (len + 64)) = w7 := ⟨_, rfl⟩
    have hF7 : FB w7 gg A H (.slice (some ⟨g, 0, none⟩) len (len + 64)) := by rw [← hw7]; exact HG6.out.set2 _
    rw [hw7] at HG5 ⊢
    have hR7 : FB w7 r false 0 (.slice none 0 0) := HR6.out.grown HG5.out (by have := HL2.out; intro e; have := Option.some.inj e; omega)
    have HGL := hide HG.out.lt
    have HO7 : Hid (Own w7 w1.heap.size (.slice (some ⟨g, 0, none⟩) (len + 64) (len + 64)) (bs ++ marks8)) := HO6.out.other HG5.out (by have := HGG.out; have := HGL.out; omega)
    have HB7 : Hid (Below w.heap.size w w7) := by rw [← hw7]; exact (HB.out.trans (HB6.out.mono HB.out.size)).setCell (by show _ ≤ gg; have := HL1.out; have := HL2.out; have := HS.out; omega) _
    have a0 := hF7.c0
    have a1 := hF7.c1
    have a2 := hF7.c2
    have b0 := hR7.c0
    have b1 := hR7.c1
    have b2 := hR7.c2
    have z0 := hR7.fz 0
    have z1 := hR7.fz 1
    have z2 := hR7.fz 2
    have HRE := hide (hR7.set3 A H (.slice (some ⟨g, 0, none⟩) len (len + 64)))
    have HG8 := hide (grown3 w7 r (.bool A) (.int .i64 H) (.slice (some ⟨g, 0, none⟩) len (len + 64)))
    have HBE := hide (below3 HB7.out (g := r) (by have := HL1.out; have := HS.out; omega) (.bool A) (.int .i64 H) (.slice (some ⟨g, 0, none⟩) len (len + 64)))
    clear hF7 hR7 hw7 y2 yz
    go_wp2_with fail
    refine bodyPost_ret (fb_ret rfl _ _ r A H (.slice (some ⟨g, 0, none⟩) len (len + 64)) rfl HRE.out) rfl ?_
    have HO9 := (HO7.out.other HG8.out (by have := HGG.out; have := HGL.out; have := HL2.out; omega)).mono HB.out.size
    have HBF := HBE.out
    have HGW : w.heap.size ≤ g := Nat.le_trans HB.out.size HGG.out
    exact ⟨g, rfl, HGW, HO9, HBF⟩
/-- Bytes of which the last is turned. -/
def turnL (xs : List (BitVec 8)) : List (BitVec 8) := xs.set (xs.length - 1) (xs.getD (xs.length - 1) 0 ^^^ 85)
theorem turnL_len (xs : List (BitVec 8)) : (turnL xs).length = xs.length := by simp [turnL]
set_option maxHeartbeats 1000000 in
set_option maxRecDepth 100000 in
theorem turned_any (g len base : Nat) (xs : List (BitVec 8)) (w : World) (hl : xs.length = len) (ho : Own w base (.slice (some ⟨g, 0, none⟩) (len + 64) (len + 64)) (xs ++ marks8)) (hm : len ≤ 140737488351232) :
    Calls Tryd.prog 18 #[.slice (some ⟨g, 0, none⟩) len (len + 64)] w fun e w' => e = .returned (.slice (some ⟨g, 0, none⟩) len (len + 64)) ∧ Own w' base (.slice (some ⟨g, 0, none⟩) (len + 64) (len + 64)) (turnL xs ++ marks8) ∧ w.grownBy w' (some g) := by
  by_cases h0 : len = 0
  · subst h0
    have hx : xs = [] := List.length_eq_zero_iff.1 hl
    subst hx
    have HO := hide ho
    clear ho
    go_enter Tryd.func18, Tryd.ntmps18
    go_wp2_with fail
    go_ret
    exact ⟨rfl, HO.out, World.grownBy.refl _ _⟩
  · obtain ⟨k, rfl⟩ : ∃ k, len = k + 1 := ⟨len - 1, by omega⟩
    have c1 := ho.cell k (by omega)
    have fz := ho.frozen k
    have hg : (xs ++ marks8).getD k 0 = xs.getD k 0 := marked_in xs k (by omega)
    rw [hg] at c1
    have hxor := bxor_u8 (xs.getD k 0) 85
    have e85 : ((85 : BitVec 8).toNat : Int) = 85 := rfl
    rw [e85] at hxor
    have HST := hide (ho.store k (xs.getD k 0 ^^^ 85))
    have HT : Hid ((xs ++ marks8).set k (xs.getD k 0 ^^^ 85) = turnL xs ++ marks8) := by
      show _ = _
      unfold turnL
      rw [hl, Nat.add_sub_cancel, List.set_append_left _ _ (by omega)]
    rw [HT.out] at HST
    generalize xs.getD k 0 ^^^ 85 = z at hxor HST
    generalize xs.getD k 0 = x at c1 hxor
    clear ho HT hg
    have ek : ((k + 1 : Nat) : Int) - 1 = (k : Int) := by omega
    have hp : (0 : Int) < ((k + 1 : Nat) : Int) := by omega
    have hki : (k : Int) < ((k + 1 : Nat) : Int) := by omega
    have hki2 : (k : Int) < (k : Int) + 1 := by omega
    go_enter Tryd.func18, Tryd.ntmps18
    go_wp2_with fail
    go_ret
    exact ⟨rfl, HST.out.1, HST.out.2⟩
end Go.Proofs.YtmndjgmlndpgaaaDoor.Filt
