/-
  The document's own: may a state be, may a book be; are all done; is there such a task.
-/
import Derived.Test.YtgpfabblmoffiaaDoorLgE
import Derived.Deep.RegionHeld
namespace Go.Proofs.YtgpfabblmoffiaaDoor.Lg
open Go.ChangeShapes Go.WideShapes Go.ChangeAt Go.RowKit
open Go.Proofs.YtgpfabblmoffiaaDoor.Base Go.Proofs.YtgpfabblmoffiaaDoor.Rf
set_option linter.unusedVariables false
set_option maxHeartbeats 2000000 in
theorem refGood_any (red : Bool) (x : TS) (t : Int) (w : World) (h1 : t ≤ 16) :
    Calls Tryd.prog 46 #[.agg #[.int .i64 x.s, .int .i64 x.a, .int .i64 x.c], .int .i64 t, .bool red] w fun e w' => e = .returned (.bool (good red t x)) ∧ Below w.heap.size w w' := by
  have HB1 := hide ((Below.refl w.heap.size w).alloc (Nat.le_refl _) (.cells #[.int .i64 x.s, .int .i64 x.a, .int .i64 x.c] 43))
  have HGI := hide (good_iff (red := red) (t := t) (x := x))
  obtain ⟨s, a, c⟩ := x
  simp only at HB1 HGI ⊢
  obtain ⟨W, hW⟩ : ∃ W : Bool, good red t ⟨s, a, c⟩ = W := ⟨_, rfl⟩
  rw [hW] at HGI ⊢
  clear hW
  have hno : ∀ P : Prop, (P ↔ W = true) → ¬ P → W = false := fun P h h2 => by
    cases hw : W with
    | false => rfl
    | true => exact absurd (h.2 hw) h2
  go_enter Tryd.func46, Tryd.ntmps46
  have hs : s < 0 ∨ (¬ s < 0 ∧ 3 < s) ∨ s = 0 ∨ s = 1 ∨ s = 2 ∨ s = 3 := by omega
  have hcc : c < 0 ∨ (¬ c < 0 ∧ t < c) ∨ (¬ c < 0 ∧ ¬ t < c ∧ c ≤ 16) := by omega
  rcases hs with h | ⟨h, h2⟩ | hs
  · have HW : Hid (W = false) := hno _ HGI.out.symm (by omega)
    clear hno
    go_wp2_with fail
    go_ret
    exact ⟨ret_bool HW.out.symm, HB1.out⟩
  · have HW : Hid (W = false) := hno _ HGI.out.symm (by omega)
    clear hno
    go_wp2_with fail
    go_ret
    exact ⟨ret_bool HW.out.symm, HB1.out⟩
  · rcases hcc with h | ⟨h, h2⟩ | ⟨h, h2, h3⟩
    · have HW : Hid (W = false) := hno _ HGI.out.symm (by omega)
      clear hno
      rcases hs with rfl | rfl | rfl | rfl <;> cases red <;>
        (go_wp2_with fail
         go_ret
         exact ⟨ret_bool HW.out.symm, HB1.out⟩)
    · have HW : Hid (W = false) := hno _ HGI.out.symm (by omega)
      clear hno
      rcases hs with rfl | rfl | rfl | rfl <;> cases red <;>
        (go_wp2_with fail
         go_ret
         exact ⟨ret_bool HW.out.symm, HB1.out⟩)
    · have hc0 : 0 ≤ c := by omega
      rcases hs with rfl | hs
      · by_cases ha : a = c
        · have HW : Hid (W = true) := HGI.out.2 (by omega)
          subst ha
          clear hno
          cases red <;>
            (go_wp2_with fail
             go_ret
             exact ⟨ret_bool HW.out.symm, HB1.out⟩)
        · have HW : Hid (W = false) := hno _ HGI.out.symm (by omega)
          have hab : (a == c) = false := by simpa using ha
          clear hno ha
          cases red <;>
            (go_wp2_with fail
             go_ret
             exact ⟨ret_bool HW.out.symm, HB1.out⟩)
      · by_cases ha : a = c + 1
        · by_cases hl : c < t
          · subst ha
            have HW2 : Hid (¬ (s = 2 ∧ red = false) → W = true) := fun hne => HGI.out.2 ⟨by omega, by omega, .inr ⟨by
              rcases hs with e | e | e
              · exact .inl e
              · exact .inr (.inl ⟨e, by cases red; exact absurd ⟨e, rfl⟩ hne; rfl⟩)
              · exact .inr (.inr e), by omega, hl⟩⟩
            have HW1 : Hid (s = 2 ∧ red = false → W = false) := fun hne => hno _ HGI.out.symm (fun h => by
              rcases h.2.2 with h | ⟨h, -⟩
              · omega
              · rcases h with h | h | h
                · omega
                · rw [hne.2] at h; exact absurd h.2 (by simp)
                · omega)
            clear hno
            rcases hs with rfl | rfl | rfl <;> cases red
            all_goals
              go_wp2_with fail
              go_ret
              refine ⟨ret_bool ?_, HB1.out⟩
              first
                | exact (HW2.out (by simp)).symm
                | exact (HW2.out (by omega)).symm
                | exact (HW1.out (by simp)).symm
                | exact (HW1.out ⟨rfl, rfl⟩).symm
          · subst ha
            have HW : Hid (W = false) := hno _ HGI.out.symm (by omega)
            clear hno
            rcases hs with rfl | rfl | rfl <;> cases red
            all_goals
              go_wp2_with fail
              go_ret
              exact ⟨ret_bool (by first | exact HW.out.symm | (rw [HW.out]; simp; omega)), HB1.out⟩
        · have HW : Hid (W = false) := hno _ HGI.out.symm (by omega)
          have hab : (a == c + 1) = false := by simpa using ha
          clear hno ha
          rcases hs with rfl | rfl | rfl <;> cases red
          all_goals
            go_wp2_with fail
            go_ret
            exact ⟨ret_bool HW.out.symm, HB1.out⟩
theorem refAll_any (a : Option Addr) (n c : Nat) (L : List TS) (w : World) (hr : RdT w a n L) :
    Calls Tryd.prog 44 #[.slice a n c] w fun e w' => e = .returned (.bool (dn L)) ∧ w' = w := by
  have hl := hr.2.1
  have HR := hide hr
  clear hr
  go_enter Tryd.func44, Tryd.ntmps44
  go_wp2_with fail
  go_loopw [3] (fun i wr => ∃ k : Nat, k ≤ n ∧ i = .int .i64 (k : Int) ∧ Hid (dn (L.take k) = true) ∧ wr = w) (fun i _ => n - (intOf i).toNat)
  case atStart => exact ⟨0, Nat.zero_le _, rfl, rfl, rfl⟩
  case round =>
    obtain ⟨k, hk, rfl, HJ, rfl⟩ := hrel
    by_cases hlt : k < n
    · have hki : (k : Int) < (n : Int) := by omega
      obtain ⟨b, o, rfl, hbl, e0, e1, e2⟩ := HR.out.at k hlt
      have HS := hide (dn_snoc L k (by rw [HR.out.1]; exact hlt))
      have HM : Hid ((L.getD k z0).s ≠ 3 → dn L = false) := fun h => all_false k (by rw [HR.out.1]; exact hlt) (decide_eq_false h)
      generalize L.getD k z0 = x at e0 e1 e2 HS HM
      clear hbl
      by_cases hx : x.s = 3
      · have hxb : (x.s != 3) = false := by simpa using hx
        have HSS : Hid (dn (L.take (k + 1)) = true) := by show _ = _; rw [HS.out, HJ.out, decide_eq_true hx]; rfl
        clear hx
        go_wp2_with fail
        go_roundw
        case rel => exact ⟨k + 1, by omega, by go_num, HSS, by first | rfl | trivial⟩
        case measure => (simp [intOf] <;> omega)
      · have hxb : (x.s != 3) = true := by simpa using hx
        have HMM := hide (HM.out hx)
        clear hx
        go_wp2_with fail
        go_ret
        exact ⟨ret_bool HMM.out.symm, rfl⟩
    · obtain rfl : k = n := by omega
      have hki : ¬ (k : Int) < (k : Int) := by omega
      go_wp2_with fail
      go_ret
      refine ⟨ret_bool ?_, rfl⟩
      have := HJ.out
      rw [← HR.out.1, List.take_length] at this
      exact this.symm
end Go.Proofs.YtgpfabblmoffiaaDoor.Lg
