/-
  Are the books that were handed in as they were, marks and all?
-/
import Derived.Test.YtgpfabblmoffiaaDoorLgH
import Derived.Deep.RegionHeld
namespace Go.Proofs.YtgpfabblmoffiaaDoor.Lg
open Go.ChangeShapes Go.WideShapes Go.ChangeAt Go.RowKit
open Go.Proofs.YtgpfabblmoffiaaDoor.Base Go.Proofs.YtgpfabblmoffiaaDoor.Rf
set_option linter.unusedVariables false
def rmL (L : List TS) : List TS := L ++ List.replicate 64 mk1
theorem rmL_len (L : List TS) : (rmL L).length = L.length + 64 := by simp [rmL]
theorem rmL_get (L : List TS) (k : Nat) (hk : k < L.length + 64) : rmF L k = (rmL L).getD k z0 := by
  unfold rmF rmL
  rw [List.getD_eq_getElem?_getD, List.getD_eq_getElem?_getD]
  by_cases h : k < L.length
  · rw [if_pos h, List.getElem?_append_left h]
  · rw [if_neg h, List.getElem?_append_right (by omega), List.getElem?_replicate, if_pos (by omega)]; rfl
theorem Rm.wide {w : World} {base g n : Nat} {L : List TS} (h : Rm w base g L) (hl : L.length = n) (h2 : n ≤ 5864062014634) : RdT w (some ⟨g, 0, none⟩) (n + 64) (rmL L) := by
  subst hl
  exact TF.rdt h (rmL L) _ (rmL_len L) (Nat.le_refl _) (by omega) (fun k hk => rmL_get L k hk)
set_option maxHeartbeats 2000000 in
set_option maxRecDepth 100000 in
theorem keptStates_any (g n : Nat) (base : Nat) (b : Option Addr) (cb : Nat) (L : List TS) (w : World) (ho : Rm w base g L) (hy : RdT w b n L) (hl : n ≤ 5864062014634) :
    Calls Tryd.prog 47 #[.slice (some ⟨g, 0, none⟩) n (n + 64), .slice b n cb] w fun e w' => e = .returned (.bool true) ∧ Below w.heap.size w w' := by
  have HO := hide ho
  have HY := hide hy
  have HLL := hide hy.1
  have hx4 : n + 64 ≤ n + 64 := Nat.le_refl _
  have hx5 : (n : Int) + 64 ≤ (n : Int) + 64 := Int.le_refl _
  have hx6 : ((n + 64 : Nat) : Int) = (n : Int) + 64 := by omega
  have hli : (n : Int) ≤ 5864062014634 := by omega
  have hwr : IntKind.i64.wrap ((n : Int) + 64) = ((n + 64 : Nat) : Int) := by rw [IntKind.wrap_i64]; omega
  have HCA : Hid (∀ W, Below w.heap.size w W → Calls Tryd.prog 57 #[.slice (some ⟨g, 0, none⟩) n (n + 64), .slice b n cb] W fun e w' => e = .returned (.bool true) ∧ Below w.heap.size w w') := fun W hW =>
    (sameStates_eq L n _ b _ cb W ((HO.out.below hW).rdt HLL.out (by omega)) (HY.out.below hW)).mono fun e w' ⟨h1, h2⟩ => ⟨h1, hW.trans (h2.mono hW.size)⟩
  have HCR : Hid (∀ W, Below w.heap.size w W → Calls Tryd.prog 43 #[.slice b n cb] W fun e w' => ∃ g, e = .returned (.slice (some ⟨g, 0, none⟩) n (n + 64)) ∧ Rm w' w.heap.size g L ∧ Below w.heap.size w w') := fun W hW =>
    (roomy_any b n cb L W (HY.out.below hW) hl).mono fun e w' ⟨g, h1, h3, h4⟩ => ⟨g, h1, h3.mono hW.size, hW.trans (h4.mono hW.size)⟩
  have HCS : Hid (∀ W g2, Below w.heap.size w W → Rm W w.heap.size g2 L → Calls Tryd.prog 57 #[.slice (some ⟨g, 0, none⟩) (n + 64) (n + 64), .slice (some ⟨g2, 0, none⟩) (n + 64) (n + 64)] W fun e w' => e = .returned (.bool true) ∧ Below w.heap.size w w') := fun W g2 hW h2 =>
    (sameStates_eq (rmL L) (n + 64) _ _ _ _ W ((HO.out.below hW).wide HLL.out hl) (h2.wide HLL.out hl)).mono fun e w' ⟨h1, h2⟩ => ⟨h1, hW.trans (h2.mono hW.size)⟩
  clear hy ho
  go_enter Tryd.func47, Tryd.ntmps47
  go_wp2_with fail
  go_region_held (fun _ => True) (exact trivial) (first
    | (go_at_call 57; refine (HCA.out _ ((Below.refl _ _).drew)).mono ?_; rintro e w6 ⟨rfl, hb6⟩; have HB6 := hide hb6; clear HCA; clear hb6)
    | (go_at_call 43; refine (HCR.out _ HB6.out).mono ?_; rintro e w7 ⟨g2, rfl, ho7, hb7⟩; have HB7 := hide hb7; have HO7 := hide ho7; clear hb7 ho7)
    | (go_at_call 57; refine (HCS.out _ _ HB7.out HO7.out).mono ?_; rintro e w8 ⟨rfl, hb8⟩; have HB8 := hide hb8; clear hb8))
  all_goals
    go_wp2_with fail
    go_ret
    exact ⟨rfl, HB8.out⟩
set_option maxHeartbeats 2000000 in
set_option maxRecDepth 100000 in
theorem kept_any (M R : List TS) (t : Int) (f : Bool) (g1 g2 : Nat) (b1 b2 : Option Addr) (n1 n2 d1 d2 base : Nat) (w : World) (h1 : Rm w base g1 M) (h2 : Rm w base g2 R) (h3 : RdT w b1 n1 M) (h4 : RdT w b2 n2 R) (hn1 : n1 ≤ 5864062014634) (hn2 : n2 ≤ 5864062014634) :
    Calls Tryd.prog 24 #[.agg #[.int .i64 t, .slice (some ⟨g1, 0, none⟩) n1 (n1 + 64), .slice (some ⟨g2, 0, none⟩) n2 (n2 + 64), .bool f], .agg #[.int .i64 t, .slice b1 n1 d1, .slice b2 n2 d2, .bool f]] w fun e w' => e = .returned (.bool true) ∧ Below w.heap.size w w' := by
  have HO1 := hide h1
  have HO2 := hide h2
  have HY1 := hide h3
  have HY2 := hide h4
  have HL1 := hide h3.1
  have HL2 := hide h4.1
  have HSA : Hid (∀ W, Below w.heap.size w W → Calls Tryd.prog 30 #[.agg #[.int .i64 t, .slice (some ⟨g1, 0, none⟩) n1 (n1 + 64), .slice (some ⟨g2, 0, none⟩) n2 (n2 + 64), .bool f], .agg #[.int .i64 t, .slice b1 n1 d1, .slice b2 n2 d2, .bool f]] W fun e w' => e = .returned (.bool true) ∧ Below W.heap.size W w') := fun W hW =>
    (same_eq M R t f _ _ b1 b2 n1 n2 _ _ d1 d2 W ((HO1.out.below hW).rdt HL1.out (by omega)) ((HO2.out.below hW).rdt HL2.out (by omega)) (HY1.out.below hW) (HY2.out.below hW))
  have HK1 : Hid (∀ W, Below w.heap.size w W → Calls Tryd.prog 47 #[.slice (some ⟨g1, 0, none⟩) n1 (n1 + 64), .slice b1 n1 d1] W fun e w' => e = .returned (.bool true) ∧ Below W.heap.size W w') := fun W hW =>
    (keptStates_any g1 n1 base b1 d1 M W (HO1.out.below hW) (HY1.out.below hW) hn1)
  have HK2 : Hid (∀ W, Below w.heap.size w W → Calls Tryd.prog 47 #[.slice (some ⟨g2, 0, none⟩) n2 (n2 + 64), .slice b2 n2 d2] W fun e w' => e = .returned (.bool true) ∧ Below W.heap.size W w') := fun W hW =>
    (keptStates_any g2 n2 base b2 d2 R W (HO2.out.below hW) (HY2.out.below hW) hn2)
  clear h1 h2 h3 h4
  obtain ⟨w1, hw1⟩ : ∃ w1, w.alloc (.cells #[.int .i64 t, .slice (some ⟨g1, 0, none⟩) n1 (n1 + 64), .slice (some ⟨g2, 0, none⟩) n2 (n2 + 64), .bool f] 26) = w1 := ⟨_, rfl⟩
  have HB1 : Hid (Below w.heap.size w w1) := by rw [← hw1]; exact (Below.refl _ _).alloc (Nat.le_refl _) _
  have hC1 : BC w1 w.heap.size t (.slice (some ⟨g1, 0, none⟩) n1 (n1 + 64)) (.slice (some ⟨g2, 0, none⟩) n2 (n2 + 64)) f := by rw [← hw1]; exact bc_new _ _ _ _ _
  obtain ⟨w2, hw2⟩ : ∃ w2, w1.alloc (.cells #[.int .i64 t, .slice b1 n1 d1, .slice b2 n2 d2, .bool f] 26) = w2 := ⟨_, rfl⟩
  have hb2 : Below w1.heap.size w1 w2 := by rw [← hw2]; exact (Below.refl _ _).alloc (Nat.le_refl _) _
  have HB2 : Hid (Below w.heap.size w w2) := below_trans HB1.out hb2
  have HC2 : Hid (BC w2 w1.heap.size t (.slice b1 n1 d1) (.slice b2 n2 d2) f) := by rw [← hw2]; exact bc_new _ _ _ _ _
  have HC1 := hide (hC1.below hb2)
  clear hb2 hC1
  obtain ⟨g, hg⟩ : ∃ g, w.heap.size = g := ⟨_, rfl⟩
  obtain ⟨q, hq⟩ : ∃ q, w1.heap.size = q := ⟨_, rfl⟩
  rw [hg] at HC1
  rw [hq] at HC2
  have x0 := HC1.out.c0
  have x1 := HC1.out.c1
  have x2 := HC1.out.c2
  have x3 := HC1.out.c3
  have y0 := HC2.out.c0
  have y1 := HC2.out.c1
  have y2 := HC2.out.c2
  have y3 := HC2.out.c3
  go_enter Tryd.func24, Tryd.ntmps24
  go_wp2_with (first
    | (go_at_call 30; refine (HSA.out _ HB2.out).mono ?_; clear hw1 hw2 hg hq x0 x1 x2 x3 y0 y1 y2 y3; rintro e w3 ⟨rfl, hb3⟩; have HB3 := hide (below_trans HB2.out hb3); have HC13 := hide (HC1.out.below hb3); have HC23 := hide (HC2.out.below hb3); clear hb3; have x1 := HC13.out.c1; have y1 := HC23.out.c1)
    | (go_at_call 47; refine (HK1.out _ HB3.out).mono ?_; clear HK1 x1 y1; rintro e w4 ⟨rfl, hb4⟩; have HB4 := hide (below_trans HB3.out hb4); have x2 := (HC13.out.below hb4).c2; have y2 := (HC23.out.below hb4).c2; clear hb4)
    | (go_at_call 47; refine (HK2.out _ HB4.out).mono ?_; clear HK2 x2 y2; rintro e w5 ⟨rfl, hb5⟩; have HB5 := hide (below_trans HB4.out hb5); clear hb5))
  go_ret
  exact ⟨rfl, HB5.out⟩
end Go.Proofs.YtgpfabblmoffiaaDoor.Lg
