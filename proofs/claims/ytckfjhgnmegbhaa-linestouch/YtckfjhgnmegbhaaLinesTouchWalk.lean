/-
  LinesTouch: two pieces that touch, taken as one, have the lines of both.
-/
import Derived.Test.YtckfjhgnmegbhaaLnWorks
import Derived.Test.YtckfjhgnmegbhaaLnHelp
import Derived.Test.YtckfjhgnmegbhaaRowF4
import Derived.Test.YtckfjhgnmegbhaaLinesOfWalk
namespace Go.Proofs.Ytckfjhgnmegbhaa.Ln
open Go.ChangeShapes Go.WideShapes Go.ChangeAt Go.RowKit
open Go.Proofs.Ytckfjhgnmegbhaa.Base Go.Proofs.Ytckfjhgnmegbhaa.Rf
set_option linter.unusedVariables false
set_option maxHeartbeats 4000000 in
set_option maxRecDepth 100000 in
theorem touch_ok (T : ByteArray) (a b c : Nat) (w : World) (hs : T.size ≤ 4194304) (h1 : a ≤ b) (h2 : b ≤ c) (h3 : c ≤ T.size) :
    Calls Try.prog 7 #[.string T, .int .i64 (a : Int), .int .i64 (b : Int), .int .i64 (c : Int)] w fun e w' => e = .returned (.bool true) ∧ Below w.heap.size w w' := by
  have HWK := hide works_any
  have HOF := hide (fun (f t : Nat) (h : f ≤ t) (ht : t ≤ T.size) (W : World) => of_ok T f t W hs h ht)
  have hcl := cnt_le T
  have m1 := ix_mono T a b h1
  have m2 := ix_mono T b c h2
  have m3 := ix_le T c
  have ha0 : ¬ (a : Int) < 0 := by omega
  have hab : ¬ (b : Int) < (a : Int) := by omega
  have hbc : ¬ (c : Int) < (b : Int) := by omega
  have hcT : ¬ (T.size : Int) < (c : Int) := by omega
  have hsz : ¬ (4194304 : Int) < (T.size : Int) := by omega
  go_enter Try.func7, Try.ntmps7
  go_upto_region 4 with (go_at_call 13; refine (HOF.out a b h1 (by omega) _).mono ?_; rintro e w1 ⟨v1, rfl, ho1, hb1⟩; have HO1 := hide (owns_ownf ho1); obtain ⟨xa, xc, e1, _, _, _⟩ := HO1.out.shape; subst e1; have HB1 := hide hb1; clear ho1 hb1)
  go_upto_region 5 with (go_at_call 13; refine (HOF.out b c h2 h3 _).mono ?_; rintro e w2 ⟨v2, rfl, ho2, hb2⟩; have HO2 := hide (owns_ownf ho2); obtain ⟨ya, yc, e2, _, yn, ys⟩ := HO2.out.shape; subst e2; have HYN := hide yn; have HYS := hide ys; have HB2 := hide hb2; clear ho2 hb2 yn ys)
  go_upto_region 6 with (go_at_call 13; refine (HOF.out a c (by omega) h3 _).mono ?_; rintro e w3 ⟨v3, rfl, ho3, hb3⟩; have HO3 := hide (owns_ownf ho3); obtain ⟨za, zc, e3, _, _, _⟩ := HO3.out.shape; subst e3; have HB3 := hide hb3; clear ho3 hb3)
  have HX3 := hide (HO1.out.below (below_trans HB2.out HB3.out))
  have HY3 := hide ((HO2.out.below HB3.out).rdf (sf_len T (ix T b)))
  have HSM := hide same_true
  obtain ⟨n, hn⟩ : ∃ n, ix T b - ix T a = n := ⟨_, rfl⟩
  obtain ⟨m, hm⟩ : ∃ m, ix T c - ix T b = m := ⟨_, rfl⟩
  have hnm : ix T c - ix T a = n + m := by omega
  rw [hn] at HX3 HO1
  rw [hm] at HY3 HYN
  rw [hnm] at HO3
  rw [hn, hm, hnm]
  have HIB : Hid (ix T b = ix T a + n) := by show _ = _; omega
  have HLE : Hid (n + m ≤ 4194304) := by show _ ≤ _; omega
  have HRZ : Hid (∀ V, Below w3.heap.size w3 V → RdF V za 1 (n + m) (fun k => [.string (ln T (ix T a + k))])) := fun V hV => (HO3.out.below hV).rdf (sf_len T (ix T a))
  have HTH : Hid (∀ k, thenF (sf T (ix T a)) n (sf T (ix T b)) k = sf T (ix T a) k) := fun k => by
    unfold thenF sf
    by_cases e : k < n
    · rw [if_pos e]
    · rw [if_neg e, HIB.out, show ix T a + n + (k - n) = ix T a + k by omega]
  clear hn hm hnm m1 m2 m3
  go_wp2_with (first
    | (at_builtin; refine joinF w3 rfl _ _ rfl Try.underlying34 infoSt rfl (by omega) (by omega) w.heap.size (.slice xa n xc) n (sf T (ix T a)) (sf T (ix T b)) rfl HX3.out ya m yc rfl HYN.out (fun ad e => (HYS.out ad e).2.1) HY3.out (sf_len T (ix T b)) (fun k _ => sf_one T (ix T b) k) (by have := HLE.out; omega) (by have := HB1.out.size; have := HB2.out.size; have := HB3.out.size; omega) ?_; intro v4 w4 ho4 hg4; have HO4 := hide ho4; have HG4 := hide hg4; obtain ⟨ua, uc, e4, _, _, _⟩ := ho4.shape; subst e4; clear ho4 hg4)
    | (go_at_call 15; refine (HSM.out (n + m) (fun k => ln T (ix T a + k)) ua za uc zc w4 (by have := HLE.out; omega) ((HO4.out.congr (g := sf T (ix T a)) (fun k _ => HTH.out k)).rdf (sf_len T (ix T a))) ((HO3.out.kept HG4.out (fun i hi e => by have q1 := (HO3.out.lt i hi).1; have q2 := (HO1.out.lt i e).2; have q3 := HB2.out.size; omega)).rdf (sf_len T (ix T a)))).mono ?_; rintro e w5 ⟨rfl, hb5⟩; have HB5 := hide hb5; clear hb5)
    | (go_at_call 17; refine (HWK.out _).mono ?_; rintro e w6 ⟨rfl, hb6⟩; have HB6 := hide hb6; clear hb6))
  go_ret
  refine ⟨rfl, below_trans ?_ (below_trans HB5.out HB6.out)⟩
  exact below_turn (below_trans HB1.out (below_trans HB2.out HB3.out)) HG4.out (fun i hi => (HO1.out.lt i hi).1)
set_option maxHeartbeats 2000000 in
theorem touchWalk (T : ByteArray) (a b c : Int) (w : World) (hs : T.size ≤ 140737488351232) (wa : (Lit.int .i64 a).wf = true) (wb : (Lit.int .i64 b).wf = true) (wc : (Lit.int .i64 c).wf = true) :
    Calls Try.prog 7 #[.string T, .int .i64 a, .int .i64 b, .int .i64 c] w fun e w' => e = .returned (.bool true) ∧ Below w.heap.size w w' := by
  have HWK := hide works_any
  clear wa wb wc
  by_cases h1 : a < 0
  · go_enter Try.func7, Try.ntmps7
    go_wp2_with (go_at_call 17; refine (HWK.out _).mono ?_; rintro e w6 ⟨rfl, hb6⟩)
    go_ret
    exact ⟨rfl, hb6⟩
  · by_cases h2 : b < a
    · go_enter Try.func7, Try.ntmps7
      go_wp2_with (go_at_call 17; refine (HWK.out _).mono ?_; rintro e w6 ⟨rfl, hb6⟩)
      go_ret
      exact ⟨rfl, hb6⟩
    · by_cases h3 : c < b
      · go_enter Try.func7, Try.ntmps7
        go_wp2_with (go_at_call 17; refine (HWK.out _).mono ?_; rintro e w6 ⟨rfl, hb6⟩)
        go_ret
        exact ⟨rfl, hb6⟩
      · by_cases h4 : (T.size : Int) < c
        · go_enter Try.func7, Try.ntmps7
          go_wp2_with (go_at_call 17; refine (HWK.out _).mono ?_; rintro e w6 ⟨rfl, hb6⟩)
          go_ret
          exact ⟨rfl, hb6⟩
        · by_cases h5 : 4194304 < T.size
          · have h5i : (4194304 : Int) < (T.size : Int) := by omega
            go_enter Try.func7, Try.ntmps7
            go_wp2_with (go_at_call 17; refine (HWK.out _).mono ?_; rintro e w6 ⟨rfl, hb6⟩)
            go_ret
            exact ⟨rfl, hb6⟩
          · obtain ⟨A, rfl⟩ : ∃ A : Nat, a = (A : Int) := ⟨a.toNat, by omega⟩
            obtain ⟨B, rfl⟩ : ∃ B : Nat, b = (B : Int) := ⟨b.toNat, by omega⟩
            obtain ⟨C, rfl⟩ : ∃ C : Nat, c = (C : Int) := ⟨c.toNat, by omega⟩
            exact touch_ok T A B C w (by omega) (by omega) (by omega) (by omega)
end Go.Proofs.Ytckfjhgnmegbhaa.Ln
