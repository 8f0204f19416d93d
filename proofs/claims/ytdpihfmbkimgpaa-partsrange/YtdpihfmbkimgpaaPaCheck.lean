/-
  parts.Check: whether a job's partitions may be.
-/
import Derived.Test.YtdpihfmbkimgpaaPaCmp
import Derived.Test.YtdpihfmbkimgpaaPaHash
namespace Go.Proofs.Ytdpihfmbkimgpaa.Pa
open Go.ChangeShapes Go.WideShapes Go.ChangeAt Go.RowKit
open Go.Proofs.Ytdpihfmbkimgpaa.Base
set_option linter.unusedVariables false
def tooLong (s : ByteArray) : Bool := decide (1024 < s.size)
def anyLong (ss : List ByteArray) : Bool := ss.any tooLong
theorem isTooLong_any (s : ByteArray) (w : World) (hs : s.size ≤ 9223372036854775807) : Calls Try.prog 29 #[.string s] w fun e w' => e = .returned (.bool (tooLong s)) ∧ w' = w := by
  go_enter Try.func29, Try.ntmps29
  by_cases h1 : 1024 < s.size
  · have hi : (1024 : Int) < (s.size : Int) := by omega
    go_wp2
    go_ret
    exact ⟨ret_bool (by simp [tooLong, h1]), rfl⟩
  · have hi : ¬ (1024 : Int) < (s.size : Int) := by omega
    go_wp2
    go_ret
    exact ⟨ret_bool (by simp [tooLong]; omega), rfl⟩
theorem any_step (ss : List ByteArray) (i : Nat) (h : i < ss.length) : anyLong (ss.take (i + 1)) = (anyLong (ss.take i) || tooLong (ss.getD i ⟨#[]⟩)) := by
  unfold anyLong
  rw [take_snoc ss i h, List.any_append]
  simp
theorem any_mem (ss : List ByteArray) (i : Nat) (h : i < ss.length) (ht : tooLong (ss.getD i ⟨#[]⟩) = true) : anyLong ss = true := by
  unfold anyLong
  exact List.any_eq_true.2 ⟨_, getS_mem h, ht⟩
set_option maxHeartbeats 1000000 in
theorem indexFunc_any (a : Option Addr) (len cap : Nat) (ss : List ByteArray) (w : World) (hr : RdS w a len ss) :
    Calls Try.prog 41 #[.slice a len cap, .func (.func 29) #[] #[]] w fun e w' => (∃ z : Int, e = .returned (.int .i64 z) ∧ (decide (0 ≤ z) = anyLong ss)) ∧ w' = w := by
  have hl := hr.2.1
  have HR := hide hr
  clear hr
  go_enter Try.func41, Try.ntmps41
  go_wp2_with fail
  go_loopw [8] (fun i wr => ∃ m : Nat, m ≤ len ∧ i = .int .i64 (m : Int) ∧ Hid (anyLong (ss.take m) = false) ∧ wr = w) (fun i _ => len - (intOf i).toNat)
  case atStart => exact ⟨0, Nat.zero_le _, rfl, rfl, rfl⟩
  case round =>
    obtain ⟨m, hm, rfl, HJ, rfl⟩ := hrel
    by_cases hlt : m < len
    · have hki : (m : Int) < (len : Int) := by omega
      obtain ⟨b1, o1, rfl, _, hc1⟩ := HR.out.2.2.2 (by omega)
      have g1 := hc1 m hlt
      have HZ := hide (HR.out.2.2.1 _ (getS_mem (i := m) (by rw [HR.out.1]; exact hlt)))
      have HS := hide (any_step ss m (by rw [HR.out.1]; exact hlt))
      have HM := hide (any_mem ss m (by rw [HR.out.1]; exact hlt))
      generalize ss.getD m ⟨#[]⟩ = s at g1 HZ HS HM
      clear hc1
      go_wp2_with fail
      refine (isTooLong_any s _ HZ.out).mono ?_
      rintro e w2 ⟨rfl, rfl⟩
      by_cases hc : tooLong s = true
      · have HC := hide (HM.out hc)
        rw [hc]
        clear hc
        go_wp2
        go_ret
        exact ⟨⟨_, rfl, by rw [HC.out]; exact decide_eq_true (by omega)⟩, rfl⟩
      · have hc' : tooLong s = false := by simpa using hc
        have HC := hide (HS.out.trans (by rw [HJ.out, hc', Bool.or_false]))
        rw [hc']
        clear hc hc'
        go_wp2
        go_roundw
        case rel => exact ⟨m + 1, by omega, by go_num, HC, trivial⟩
        case measure => (simp [intOf] <;> omega)
    · have hkl : m = len := by omega
      subst hkl
      have hki : ¬ (m : Int) < (m : Int) := by omega
      go_wp2_with fail
      go_ret
      refine ⟨⟨_, rfl, ?_⟩, rfl⟩
      have := HJ.out
      rw [List.take_of_length_le (by rw [HR.out.1]; exact Nat.le_refl _)] at this
      rw [this]; rfl
theorem containsFunc_any (a : Option Addr) (len cap : Nat) (ss : List ByteArray) (w : World) (hr : RdS w a len ss) :
    Calls Try.prog 28 #[.slice a len cap, .func (.func 29) #[] #[]] w fun e w' => e = .returned (.bool (anyLong ss)) ∧ w' = w := by
  go_enter Try.func28, Try.ntmps28
  go_wp2_with fail
  refine (indexFunc_any a len cap ss w hr).mono ?_
  rintro e w2 ⟨⟨z, rfl, hz⟩, rfl⟩
  have HZ := hide hz
  clear hz
  by_cases h : 0 ≤ z
  · have h2 := decide_eq_true h
    go_wp2
    go_ret
    refine ⟨ret_bool ?_, rfl⟩
    have h3 := HZ.out
    exact h2.symm.trans h3
  · have h2 := decide_eq_false h
    go_wp2
    go_ret
    refine ⟨ret_bool ?_, rfl⟩
    have h3 := HZ.out
    exact h2.symm.trans h3
/-- None of the texts is below the one ahead of it. -/
def Rises (ss : List ByteArray) : Prop := ∀ i, i < ss.length - 1 → cmpT (ss.getD i ⟨#[]⟩) (ss.getD (i + 1) ⟨#[]⟩) ≤ 0
def risesB (ss : List ByteArray) : Bool := (List.range (ss.length - 1)).all fun i => decide (cmpT (ss.getD i ⟨#[]⟩) (ss.getD (i + 1) ⟨#[]⟩) ≤ 0)
theorem risesB_iff (ss : List ByteArray) : risesB ss = true ↔ Rises ss := by
  unfold risesB Rises
  rw [List.all_eq_true]
  constructor
  · intro h i hi
    exact of_decide_eq_true (h i (List.mem_range.2 hi))
  · intro h i hi
    exact decide_eq_true (h i (List.mem_range.1 hi))
theorem risesB_not {ss : List ByteArray} (h : ¬ Rises ss) : risesB ss = false := by
  cases hb : risesB ss with
  | false => rfl
  | true => exact absurd ((risesB_iff ss).1 hb) h
set_option maxHeartbeats 1000000 in
set_option maxRecDepth 100000 in
theorem isSorted_any (a : Option Addr) (len cap : Nat) (ss : List ByteArray) (w : World) (hr : RdS w a len ss) :
    Calls Try.prog 48 #[.slice a len cap, .func (.func 17) #[] #[]] w fun e w' => e = .returned (.bool (risesB ss)) ∧ Below w.heap.size w w' := by
  have hl := hr.2.1
  have HR := hide hr
  clear hr
  go_enter Try.func48, Try.ntmps48
  go_wp2_with fail
  go_loopw [5] (fun i wr => ∃ z : Int, -1 ≤ z ∧ z < (len : Int) ∧ i = .int .i64 z ∧ Hid (∀ j : Nat, z ≤ (j : Int) → j < ss.length - 1 → cmpT (ss.getD j ⟨#[]⟩) (ss.getD (j + 1) ⟨#[]⟩) ≤ 0) ∧ Hid (Below w.heap.size w wr)) (fun i _ => (intOf i).toNat)
  case atStart => exact ⟨(len : Int) - 1, by omega, by omega, by go_num, fun j h1 h2 => by rw [HR.out.1] at h2; omega, Below.refl _ _⟩
  case round =>
    obtain ⟨z, hz1, hz2, rfl, HJ, HB⟩ := hrel
    by_cases hlt : 0 < z
    · obtain ⟨m, rfl⟩ : ∃ m : Nat, z = (m : Int) + 1 := ⟨z.toNat - 1, by omega⟩
      have hml : m + 1 < len := by omega
      obtain ⟨b1, o1, rfl, _, hc1⟩ := (HR.out.below HB.out).2.2.2 (by omega)
      have g1 := hc1 (m + 1) hml
      have g2 := hc1 m (by omega)
      have HZ1 := hide (HR.out.2.2.1 _ (getS_mem (i := m + 1) (by rw [HR.out.1]; exact hml)))
      have HZ2 := hide (HR.out.2.2.1 _ (getS_mem (i := m) (by rw [HR.out.1]; omega)))
      have HN : Hid (∀ j : Nat, m = j → cmpT (ss.getD m ⟨#[]⟩) (ss.getD (m + 1) ⟨#[]⟩) = cmpT (ss.getD j ⟨#[]⟩) (ss.getD (j + 1) ⟨#[]⟩)) := fun j e => by rw [e]
      generalize hs1 : ss.getD (m + 1) ⟨#[]⟩ = s at g1 HZ1 HN
      generalize hs2 : ss.getD m ⟨#[]⟩ = t at g2 HZ2 HN
      have HS1 := hide hs1
      have HS2 := hide hs2
      clear hc1 hs1 hs2
      have hsw : Hid (cmpT s t = - cmpT t s) := cmpT_swap t s
      have i1 : (m : Int) + 1 < (len : Int) := by omega
      have i2 : (m : Int) < (len : Int) := by omega
      have i3 : (m : Int) + 1 - 1 = (m : Int) := by omega
      have i4 : ((m : Int) + 1).toNat = m + 1 := by omega
      go_wp2_with fail
      go_quiet (first | (go_at_call 17; exact Calls.quiet_of (compareD s t _ HZ1.out HZ2.out)))
      all_goals
        by_cases hc : cmpT s t < 0
        · have HC := hide hc
          generalize cmpT s t = x at hc
          go_wp2
          go_ret
          refine ⟨ret_bool (risesB_not ?_).symm, ?_⟩
          · intro h
            have h1 := h m (by rw [HR.out.1]; omega)
            rw [HS2.out, HS1.out] at h1
            have h2 := hsw.out
            have h3 := HC.out
            omega
          · exact below_trans HB.out (below_drewN' _ _ _)
        · have HC := hide hc
          generalize cmpT s t = x at hc
          go_wp2
          go_roundw
          case rel =>
            refine ⟨(m : Int), by omega, by omega, by go_num, fun j h1 h2 => ?_, ?_⟩
            · by_cases hj : j = m
              · subst hj
                rw [HS2.out, HS1.out]
                have h2 := hsw.out
                have h3 := HC.out
                omega
              · exact HJ.out j (by omega) h2
            · exact below_trans HB.out (below_drewN' _ _ _)
          case measure => (simp [intOf] <;> omega)
    · have hki : ¬ (0 : Int) < z := by omega
      go_wp2_with fail
      go_ret
      exact ⟨ret_bool ((risesB_iff ss).2 (fun i hi => HJ.out i (by omega) hi)).symm, HB.out⟩
end Go.Proofs.Ytdpihfmbkimgpaa.Pa
