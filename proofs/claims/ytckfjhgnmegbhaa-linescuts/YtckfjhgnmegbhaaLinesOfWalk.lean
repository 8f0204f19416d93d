/-
  LinesOf: the lines of any text, and of any piece of it, or the error.
-/
import Derived.Test.YtckfjhgnmegbhaaLnHelp
import Derived.Deep.Cut
namespace Go.Proofs.Ytckfjhgnmegbhaa.Ln
open Go.ChangeShapes Go.WideShapes Go.ChangeAt Go.RowKit
open Go.Proofs.Ytckfjhgnmegbhaa.Base Go.Proofs.Ytckfjhgnmegbhaa.Rf
set_option linter.unusedVariables false
theorem below_turn {w0 w w' : World} {r : Option Nat} (hb : Below w0.heap.size w0 w) (hg : w.grownBy w' r) (h : ∀ i, r = some i → w0.heap.size ≤ i) : Below w0.heap.size w0 w' := hb.grown hg hb.size h
theorem sf_len (T : ByteArray) (a k : Nat) : (sf T a k).length = 1 := rfl
theorem sf_one (T : ByteArray) (a k : Nat) : ∀ u ∈ sf T a k, u.oneCell' = true := by intro u hu; unfold sf at hu; simp at hu; subst hu; rfl
theorem ofN_le (T : ByteArray) (f t : Int) : ofN T f t ≤ T.size := by
  unfold ofN
  by_cases h : ofErr T f t = 0
  · rw [if_pos h]; have := ix_le T t.toNat; have := cnt_le T; omega
  · rw [if_neg h]; omega
set_option maxHeartbeats 4000000 in
set_option maxRecDepth 100000 in
theorem ofWalk (T : ByteArray) (f t : Int) (w : World) (hs : T.size ≤ 1099511627776) :
    Calls Try.prog 4 #[.string T, .agg #[.int .i64 f, .int .i64 t]] w fun e w' => e = .returned (.bool true) ∧ Below w.heap.size w w' := by
  have hcl := cnt_le T
  have hol := ofN_le T f t
  obtain ⟨w0, hw0⟩ : ∃ w0, w.alloc (.cells #[.int .i64 f, .int .i64 t] 33) = w0 := ⟨_, rfl⟩
  have HB0 : Hid (Below w.heap.size w w0) := by rw [← hw0]; exact (Below.refl _ _).alloc (Nat.le_refl _) _
  have HC0 : Hid (w0.heap[w.heap.size]? = some (.cells #[.int .i64 f, .int .i64 t] 33)) := by rw [← hw0]; exact World.alloc_heap_new _ _
  have HLT : Hid (w.heap.size < w0.heap.size) := by rw [← hw0]; simp [Hid]
  obtain ⟨b, hb⟩ : ∃ b, w.heap.size = b := ⟨_, rfl⟩
  rw [hb] at HC0 HLT
  have HL := hide (fun W => lines_any T W hs)
  have HOF := hide (fun W => of_any T f t W (by omega))
  have HRO := hide (fun W => refOf_any T f t W (by omega))
  have HRL := hide (fun W => refLines_any T W hs)
  have HSP := hide spoilt_any
  have HSM := hide same_true
  have HSF : Hid (∀ a, sf T a = fun k => [.string (ln T (a + k))]) := fun a => rfl
  obtain ⟨N, hN⟩ : ∃ N, ofN T f t = N := ⟨_, rfl⟩
  obtain ⟨ER, hER⟩ : ∃ ER, ofErr T f t = ER := ⟨_, rfl⟩
  obtain ⟨A, hA⟩ : ∃ A, ofA T f = A := ⟨_, rfl⟩
  obtain ⟨C, hC⟩ : ∃ C, cnt T = C := ⟨_, rfl⟩
  rw [hN] at hol
  rw [hC] at hcl
  have HHN := hide hN
  have HHE := hide hER
  have HHA := hide hA
  have HHC := hide hC
  clear hN hER hA hC
  obtain ⟨p0, p1⟩ := cell2 HC0.out
  have hNi : (N : Int) ≤ 1099511627776 := by omega
  have hCi : (C : Int) ≤ 1099511627776 := by omega
  go_enter Try.func4, Try.ntmps4
  go_upto_region 2 with (go_at_call 11; refine (HL.out _).mono ?_; rintro e w1 ⟨va, rfl, ho1, hb1⟩; have HO1 := hide (owns_ownf ho1); have HB1 := hide hb1; clear ho1 hb1)
  rw [HHC.out] at HO1
  obtain ⟨xa, xc, e1, _, _, _⟩ := HO1.out.shape
  subst e1
  clear hw0
  go_upto_region 3 with (go_at_call 11; refine (HL.out _).mono ?_; rintro e w2 ⟨vb, rfl, ho2, hb2⟩; have HO2 := hide (owns_ownf ho2); have HB2 := hide hb2; clear ho2 hb2)
  rw [HHC.out] at HO2
  obtain ⟨ya, yc, e2, _, _, _⟩ := HO2.out.shape
  subst e2
  have HS3 := hide (HSP.out w0.heap.size C (sf T 0) (.slice xa C xc) w2 (by omega) (sf_len T 0) (sf_one T 0) (HO1.out.below HB2.out) (Nat.le_trans HB1.out.size HB2.out.size))
  go_upto_region 4 with (go_at_call 12; refine HS3.out.mono ?_; rintro e w3 ⟨rfl, hg3⟩; have HG3 := hide hg3; clear hg3)
  have HB3 : Hid (Below w0.heap.size w0 w3) := below_turn (below_trans HB1.out HB2.out) HG3.out (fun i hi => (HO1.out.lt i hi).1)
  have HO3 : Hid (OwnF w3 w1.heap.size 9 1 (.slice ya C yc) C (sf T 0)) := HO2.out.kept HG3.out (fun i hi e => by have h1 := (HO2.out.lt i hi).1; have h2 := (HO1.out.lt i e).2; omega)
  obtain ⟨q0, q1⟩ := cell2 ((HB3.out.block b HLT.out).trans HC0.out)
  clear p0 p1 HS3 HO2 HG3
  go_upto_region 5 with (go_at_call 13; refine (HOF.out _).mono ?_; rintro e w4 ⟨vc, rfl, ho4, hb4⟩; have HO4 := hide ho4; have HB4 := hide hb4; clear ho4 hb4)
  rw [HHN.out, HHA.out] at HO4
  rw [HHE.out]
  obtain ⟨za, zc, e4, _, _, _⟩ := HO4.out.shape
  subst e4
  obtain ⟨r0, r1⟩ := cell2 (((below_trans HB3.out HB4.out).block b HLT.out).trans HC0.out)
  clear q0 q1
  go_upto_region 6 with (go_at_call 13; refine (HOF.out _).mono ?_; rintro e w5 ⟨vd, rfl, ho5, hb5⟩; have HO5 := hide ho5; have HB5 := hide hb5; clear ho5 hb5)
  rw [HHN.out, HHA.out] at HO5
  rw [HHE.out]
  obtain ⟨ua, uc, e5, _, _, _⟩ := HO5.out.shape
  subst e5
  have HS6 := hide (HSP.out w3.heap.size N (sf T A) (.slice za N zc) w5 (by omega) (sf_len T A) (sf_one T A) (HO4.out.below HB5.out) (Nat.le_trans HB4.out.size HB5.out.size))
  clear r0 r1
  go_upto_region 7 with (go_at_call 12; refine HS6.out.mono ?_; rintro e w6 ⟨rfl, hg6⟩; have HG6 := hide hg6; clear hg6)
  have HB35 := hide (below_trans HB4.out HB5.out)
  have HB6 : Hid (Below w3.heap.size w3 w6) := below_turn HB35.out HG6.out (fun i hi => (HO4.out.lt i hi).1)
  have HO6 : Hid (OwnF w6 w4.heap.size 9 1 (.slice ua N uc) N (sf T A)) := HO5.out.kept HG6.out (fun i hi e => by have h1 := (HO5.out.lt i hi).1; have h2 := (HO4.out.lt i e).2; omega)
  have HO36 := hide (HO3.out.below HB6.out)
  obtain ⟨q0, q1⟩ := cell2 (((below_trans HB3.out HB6.out).block b HLT.out).trans HC0.out)
  clear HS6 HG6 HO5 HO3
  go_upto_region 8 with (go_at_call 14; refine (HRO.out _).mono ?_; rintro e w7 ⟨vw, rfl, ho7, hb7⟩; have HO7 := hide ho7; have HB7 := hide hb7; clear ho7 hb7)
  rw [HHN.out, HHA.out] at HO7
  rw [HHE.out]
  obtain ⟨wa, wc, e7, _, _, _⟩ := HO7.out.shape
  subst e7
  have HRL7 := hide (HRL.out w7)
  rw [HHC.out] at HRL7
  have HSA : Hid (∀ W, Below w7.heap.size w7 W → ∀ (va : Option Addr) (vc : Nat), RdF W va 1 C (sf T 0) → Calls Try.prog 15 #[.slice ya C yc, .slice va C vc] W fun e w' => e = .returned (.bool true) ∧ Below w7.heap.size w7 w') := fun W hW va vc hr =>
    (HSM.out C (fun k => ln T (0 + k)) ya va yc vc W (by omega) ((((HO36.out.below HB7.out).below hW).rdf (sf_len T 0))) hr).mono fun e w' ⟨h1, h2⟩ => ⟨h1, hW.trans (h2.mono hW.size)⟩
  have HSB : Hid (∀ W, Below w7.heap.size w7 W → Calls Try.prog 15 #[.slice ua N uc, .slice wa N wc] W fun e w' => e = .returned (.bool true) ∧ Below w7.heap.size w7 w') := fun W hW =>
    (HSM.out N (fun k => ln T (A + k)) ua wa uc wc W (by omega) (((HO6.out.below HB7.out).below hW).rdf (sf_len T A)) ((HO7.out.below hW).rdf (sf_len T A))).mono fun e w' ⟨h1, h2⟩ => ⟨h1, hW.trans (h2.mono hW.size)⟩
  clear q0 q1
  go_wp2_with (first
    | (go_at_call 16; refine HRL7.out.mono ?_; rintro e w8 ⟨vl, rfl, ho8, hb8⟩; obtain ⟨la, lc, e8, _, _, _⟩ := ho8.shape; subst e8; have HR8 := hide (ho8.rdf (sf_len T 0)); have HB8 := hide hb8; clear ho8 hb8)
    | (go_at_call 15; refine (HSA.out w8 HB8.out la lc HR8.out).mono ?_; clear HSA; rintro e w9 ⟨rfl, hb9⟩; have HB9 := hide hb9; clear hb9)
    | (go_at_call 15; refine (HSB.out w9 HB9.out).mono ?_; rintro e w10 ⟨rfl, hb10⟩; have HB10 := hide hb10; clear hb10))
  go_ret
  refine ⟨rfl, ?_⟩
  have h := below_trans HB0.out (below_trans HB3.out (below_trans HB6.out (below_trans HB7.out HB10.out)))
  first | exact h | (rw [hb] at h; exact h)
end Go.Proofs.Ytckfjhgnmegbhaa.Ln
