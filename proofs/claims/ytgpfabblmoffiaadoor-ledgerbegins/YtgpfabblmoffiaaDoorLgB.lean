/-
  May a task's state be: the program's answer; the tasks of a kind; are all done; may tasks of a kind be begun.
-/
import Derived.Test.YtgpfabblmoffiaaDoorLgA
import Derived.BigQuiet
namespace Go.Proofs.YtgpfabblmoffiaaDoor.Lg
open Go.ChangeShapes Go.WideShapes Go.ChangeAt Go.RowKit
open Go.Proofs.YtgpfabblmoffiaaDoor.Base Go.Proofs.YtgpfabblmoffiaaDoor.Rf
set_option linter.unusedVariables false
/-- The number of a kind. -/
def kn (red : Bool) : Int := if red then 1 else 0
theorem good_far {red : Bool} {t : Int} {x : TS} (h : wi x.s 0 3 = false) : good red t x = false := by
  cases hg : good red t x with
  | false => rfl
  | true =>
    have := good_iff.1 hg
    rw [wi_t (by omega) (by omega)] at h
    cases h
theorem good_farC {red : Bool} {t : Int} {x : TS} (h : wi x.c 0 t = false) : good red t x = false := by
  cases hg : good red t x with
  | false => rfl
  | true =>
    have := good_iff.1 hg
    rw [wi_t (by omega) (by omega)] at h
    cases h
theorem mayBe_any (red : Bool) (x : TS) (t : Int) (w : World) (ht : Tab w) (h1 : t ≤ 16) :
    Calls Tryd.prog 45 #[.int .i64 (kn red), .agg #[.int .i64 x.s, .int .i64 x.a, .int .i64 x.c], .int .i64 t] w fun e w' => e = .returned (.bool (good red t x)) ∧ Below w.heap.size w w' := by
  obtain ⟨w1, hw1⟩ : ∃ w1, w.alloc (.cells #[.int .i64 x.s, .int .i64 x.a, .int .i64 x.c] 43) = w1 := ⟨_, rfl⟩
  have HB1 : Hid (Below w.heap.size w w1) := by rw [← hw1]; exact (Below.refl _ _).alloc (Nat.le_refl _) _
  have HT : TC w1 w.heap.size x := by rw [← hw1]; exact tc_new w x
  have HTA := hide (ht.below HB1.out)
  obtain ⟨g, hg⟩ : ∃ g, w.heap.size = g := ⟨_, rfl⟩
  rw [hg] at HT
  have c0 := HT.c0
  have c1 := HT.c1
  have c2 := HT.c2
  have HG := hide hg
  clear ht HT
  go_enter Tryd.func45, Tryd.ntmps45
  rcases wi_cases x.s 0 3 with d1 | d1
  · rcases wi_cases x.c 0 t with d2 | d2
    · have hs := wi_iff.1 d1
      have hcc := wi_iff.1 d2
      obtain ⟨s, a, c⟩ := x
      simp only at hs hcc c0 c1 c2 hw1 d1 d2 ⊢
      have HGI := hide (good_iff (red := red) (t := t) (x := ⟨s, a, c⟩))
      obtain ⟨W, hW⟩ : ∃ W : Bool, good red t ⟨s, a, c⟩ = W := ⟨_, rfl⟩
      rw [hW] at HGI ⊢
      clear hW
      obtain ⟨k, rfl⟩ : ∃ k : Nat, s = (k : Int) := ⟨s.toNat, by omega⟩
      have hk : k < 4 := by omega
      clear hs
      obtain ⟨K, hK, hkn⟩ : ∃ K : Nat, K < 2 ∧ kn red = (K : Int) := by cases red; exact ⟨0, by omega, rfl⟩; exact ⟨1, by omega, rfl⟩
      have t0 := HTA.out.2.1 (K * 4 + k) (by omega)
      have hr : (leadC.getD (K * 4 + k) 0 = -1 ∧ k = 2 ∧ red = false) ∨ (leadC.getD (K * 4 + k) 0 = 0 ∧ k = 0) ∨ (leadC.getD (K * 4 + k) 0 = 1 ∧ k ≠ 0 ∧ (k = 2 → red = true)) := by
        have hK2 : K = if red = true then 1 else 0 := by cases red <;> simp [kn] at hkn <;> simp <;> omega
        subst hK2
        cases red <;> (match k, hk with
          | 0, _ => simp [leadC]
          | 1, _ => simp [leadC]
          | 2, _ => simp [leadC]
          | 3, _ => simp [leadC])
      generalize leadC.getD (K * 4 + k) 0 = R at t0 hr
      rw [hkn]
      have HKN := hide hkn
      clear hkn
      have hki : (k : Int) < 4 := by omega
      have hKi : (K : Int) < 2 := by omega
      have hk0 : (0 : Int) ≤ c := hcc.1
      have hk9 : c ≤ 16 := by omega
      rcases hr with ⟨rfl, h2, h3⟩ | ⟨rfl, h2⟩ | ⟨rfl, h2, h3⟩
      · have HW : Hid (W = false) := by
          cases hw : W with
          | false => rfl
          | true =>
            have h5 := HGI.out.1 hw
            simp only [h3, Bool.false_eq_true, and_false, false_or] at h5
            omega
        clear h2 h3 hcc
        go_wp2_with (refine (isWithin_any _ _ _ _).mono ?_; rintro e w' ⟨rfl, h⟩; obtain rfl := h.symm)
        go_region
        all_goals
          go_wp2_with fail
          go_ret
          exact ⟨ret_bool HW.out.symm, by first | exact HB1.out | exact HB1.out.drew⟩
      · by_cases h4 : a = c
        · have HW : Hid (W = true) := HGI.out.2 ⟨hcc.1, hcc.2, .inl ⟨by show (k : Int) = 0; omega, h4⟩⟩
          have h2b : ((k : Int) == 0) = true := by simp; omega
          subst h4
          clear hcc h2
          by_cases h5 : a < t <;>
          (go_wp2_with (refine (isWithin_any _ _ _ _).mono ?_; rintro e w' ⟨rfl, h⟩; obtain rfl := h.symm)
           go_region
           all_goals
             go_wp2_with fail
             go_ret
             exact ⟨ret_bool HW.out.symm, by first | exact HB1.out | exact HB1.out.drew⟩)
        · have HW : Hid (W = false) := by
            cases hw : W with
            | false => rfl
            | true =>
              have h5 := HGI.out.1 hw
              simp only at h5
              omega
          have h4b : (a != c) = true := by simpa using h4
          clear hcc h4 h2
          go_wp2_with (refine (isWithin_any _ _ _ _).mono ?_; rintro e w' ⟨rfl, h⟩; obtain rfl := h.symm)
          go_region
          all_goals
            go_wp2_with fail
            go_ret
            exact ⟨ret_bool HW.out.symm, by first | exact HB1.out | exact HB1.out.drew⟩
      · by_cases h4 : a = c + 1
        · by_cases h5 : c < t
          · have HW : Hid (W = true) := HGI.out.2 ⟨hcc.1, hcc.2, .inr ⟨by
              rcases (show k = 1 ∨ k = 2 ∨ k = 3 by omega) with e | e | e
              · exact .inl (by show (k : Int) = 1; omega)
              · exact .inr (.inl ⟨by show (k : Int) = 2; omega, h3 e⟩)
              · exact .inr (.inr (by show (k : Int) = 3; omega)), h4, h5⟩⟩
            subst h4
            clear hcc h2 h3
            go_wp2_with (refine (isWithin_any _ _ _ _).mono ?_; rintro e w' ⟨rfl, h⟩; obtain rfl := h.symm)
            go_region
            all_goals
              go_wp2_with fail
              go_ret
              exact ⟨ret_bool HW.out.symm, by first | exact HB1.out | exact HB1.out.drew⟩
          · have HW : Hid (W = false) := by
              cases hw : W with
              | false => rfl
              | true =>
                have h6 := HGI.out.1 hw
                simp only at h6
                omega
            have h2b : ((k : Int) == 0) = false := by simp; omega
            subst h4
            clear hcc h2 h3
            go_wp2_with (refine (isWithin_any _ _ _ _).mono ?_; rintro e w' ⟨rfl, h⟩; obtain rfl := h.symm)
            go_region
            all_goals
              go_wp2_with fail
              go_ret
              exact ⟨ret_bool (by rw [HW.out]; simp; omega), by first | exact HB1.out | exact HB1.out.drew⟩
        · have HW : Hid (W = false) := by
            cases hw : W with
            | false => rfl
            | true =>
              have h6 := HGI.out.1 hw
              simp only at h6
              omega
          have h4b : (a != c + 1) = true := by simpa using h4
          clear hcc h2 h3 h4
          go_wp2_with (refine (isWithin_any _ _ _ _).mono ?_; rintro e w' ⟨rfl, h⟩; obtain rfl := h.symm)
          go_region
          all_goals
            go_wp2_with fail
            go_ret
            exact ⟨ret_bool HW.out.symm, by first | exact HB1.out | exact HB1.out.drew⟩
    · go_wp2_with (refine (isWithin_any _ _ _ _).mono ?_; rintro e w' ⟨rfl, h⟩; obtain rfl := h.symm)
      go_ret
      exact ⟨ret_bool (good_farC d2).symm, HB1.out⟩
  · go_wp2_with (refine (isWithin_any _ _ _ _).mono ?_; rintro e w' ⟨rfl, h⟩; obtain rfl := h.symm)
    go_ret
    exact ⟨ret_bool (good_far d1).symm, HB1.out⟩
end Go.Proofs.YtgpfabblmoffiaaDoor.Lg
