/-
  The document's Map: the kind sort.
-/
import Derived.Test.YtcefodcjmbnpoaaDoorJbCut
import Derived.Laws.EntriesVeiled
namespace Go.Proofs.YtcefodcjmbnpoaaDoor.Jb
open Go.ChangeShapes Go.WideShapes Go.ChangeAt Go.RowKit
open Go.Lib hiding intOf
open Go.Proofs.YtcefodcjmbnpoaaDoor.Base
open Go.Proofs.YtcefodcjmbnpoaaDoor.Pa (OwnS RdS)
set_option linter.unusedVariables false
theorem two_new (w : World) (a b : Obj) : ((w.alloc a).alloc b).heap[w.heap.size + 1]? = some b := by
  have h := heap_alloc_new (w.alloc a) b
  rw [show (w.alloc a).heap.size = w.heap.size + 1 by simp] at h
  exact h
set_option maxHeartbeats 2000000 in
set_option maxRecDepth 100000 in
theorem rmap3 (p : Int) (s : ByteArray) (w : World) (hs : s.size ≤ 1048576) :
    Calls Tryd.prog 6 #[.int .i64 3, .int .i64 p, .string s] w fun e w' => Ans w e w' (mapP 3 p s) (mapN 3 s) := by
  have HPP : Hid (mapP 3 p s = onlyP (keyOf s) (valOf s) ∧ mapN 3 s = onlyN (keyOf s) (valOf s)) := ⟨rfl, rfl⟩
  rw [HPP.out.1, HPP.out.2]
  have HTA := hide (fun W => tab_any s W (by omega))
  have htl := tab_le s
  have hks : (keyOf s).size = tabAt s := by unfold keyOf; rw [ByteArray.size_extract]; omega
  have hvs := val_size s
  obtain ⟨K, hK⟩ : ∃ K, keyOf s = K := ⟨_, rfl⟩
  obtain ⟨V, hV⟩ : ∃ V, valOf s = V := ⟨_, rfl⟩
  have hk2 : s.extract 0 (tabAt s) = K := hK
  rw [hK] at hks
  rw [hV] at hvs
  by_cases ht : tabAt s < s.size
  · have hv2 : s.extract (tabAt s + 1) s.size = V := by rw [← hV]; exact (if_pos ht).symm
    rw [hK, hV]
    clear HPP hK hV
    generalize tabAt s = n at HTA htl hks hk2 ht hv2
    have hn1 : (n : Int) < (s.size : Int) := by omega
    have hn2 : (n : Int) + 1 ≤ (s.size : Int) := by omega
    have hn3 : (n : Int) ≤ (s.size : Int) := by omega
    have hn0 : (0 : Int) ≤ (n : Int) := by omega
    have hkk : (K.size : Int) = (n : Int) := by omega
    by_cases hm : may K V = true
    · have HM : Hid (onlyP K V = [(K, V)] ∧ onlyN K V = 0) := by unfold onlyP onlyN; rw [hm]; exact ⟨rfl, rfl⟩
      have hm2 : K.size ≤ 1024 ∧ (V : ByteArray).size ≤ 1024 := by unfold may at hm; simpa using hm
      rw [HM.out.1, HM.out.2]
      obtain ⟨m1, m2⟩ := hm2
      have m1i : (K.size : Int) ≤ 1024 := by omega
      have m2i : (V.size : Int) ≤ 1024 := by omega
      clear hm HM hks hkk
      go_enter Tryd.func6, Tryd.ntmps6
      go_wp2_with (go_at_call 27; refine (HTA.out _).mono ?_; rintro e w1 ⟨rfl, hq⟩; obtain rfl := hq.symm)
      go_ret2
      exact ⟨_, rfl, ownp_one (K, V) (two_new _ _ _) (by omega), ((Below.refl _ _).alloc (Nat.le_refl _) _).alloc (by simp) _⟩
    · have HM : Hid (onlyP K V = [] ∧ onlyN K V = 1) := by unfold onlyP onlyN; rw [Bool.not_eq_true] at hm; rw [hm]; exact ⟨rfl, rfl⟩
      have hm2 : K.size ≤ 1024 → ¬ (V : ByteArray).size ≤ 1024 := fun a b => hm (by unfold may; rw [decide_eq_true a, decide_eq_true b]; rfl)
      rw [HM.out.1, HM.out.2]
      clear hm HM hks hkk
      by_cases m1 : K.size ≤ 1024
      · have m2 := hm2 m1
        have m1i : (K.size : Int) ≤ 1024 := by omega
        have m2i : ¬ (V.size : Int) ≤ 1024 := by omega
        clear hm2
        go_enter Tryd.func6, Tryd.ntmps6
        go_wp2_with (go_at_call 27; refine (HTA.out _).mono ?_; rintro e w1 ⟨rfl, hq⟩; obtain rfl := hq.symm)
        go_ret2
        exact ⟨_, rfl, ownp_none _ _, (Below.refl _ _).alloc (Nat.le_refl _) _⟩
      · have m1i : ¬ (K.size : Int) ≤ 1024 := by omega
        clear hm2
        go_enter Tryd.func6, Tryd.ntmps6
        go_wp2_with (go_at_call 27; refine (HTA.out _).mono ?_; rintro e w1 ⟨rfl, hq⟩; obtain rfl := hq.symm)
        go_ret2
        exact ⟨_, rfl, ownp_none _ _, (Below.refl _ _).alloc (Nat.le_refl _) _⟩
  · have hv2 : V = ⟨#[]⟩ := by rw [← hV]; exact if_neg ht
    rw [hK, hV]
    clear HPP hK hV
    subst hv2
    generalize tabAt s = n at HTA htl hks hk2 ht
    have hn1 : ¬ (n : Int) < (s.size : Int) := by omega
    have hn3 : (n : Int) ≤ (s.size : Int) := by omega
    have hn0 : (0 : Int) ≤ (n : Int) := by omega
    have hkk : (K.size : Int) = (n : Int) := by omega
    by_cases hm : may K ⟨#[]⟩ = true
    · have HM : Hid (onlyP K ⟨#[]⟩ = [(K, ⟨#[]⟩)] ∧ onlyN K ⟨#[]⟩ = 0) := by unfold onlyP onlyN; rw [hm]; exact ⟨rfl, rfl⟩
      have hm2 : K.size ≤ 1024 ∧ (⟨#[]⟩ : ByteArray).size ≤ 1024 := by unfold may at hm; simpa using hm
      rw [HM.out.1, HM.out.2]
      obtain ⟨m1, m2⟩ := hm2
      have m1i : (K.size : Int) ≤ 1024 := by omega
      clear hm HM hks hkk
      go_enter Tryd.func6, Tryd.ntmps6
      go_wp2_with (go_at_call 27; refine (HTA.out _).mono ?_; rintro e w1 ⟨rfl, hq⟩; obtain rfl := hq.symm)
      go_ret2
      exact ⟨_, rfl, ownp_one (K, ⟨#[]⟩) (two_new _ _ _) (by omega), ((Below.refl _ _).alloc (Nat.le_refl _) _).alloc (by simp) _⟩
    · have HM : Hid (onlyP K ⟨#[]⟩ = [] ∧ onlyN K ⟨#[]⟩ = 1) := by unfold onlyP onlyN; rw [Bool.not_eq_true] at hm; rw [hm]; exact ⟨rfl, rfl⟩
      have hm2 : K.size ≤ 1024 → ¬ (⟨#[]⟩ : ByteArray).size ≤ 1024 := fun a b => hm (by unfold may; rw [decide_eq_true a, decide_eq_true b]; rfl)
      rw [HM.out.1, HM.out.2]
      clear hm HM hks hkk
      have m1i : ¬ (K.size : Int) ≤ 1024 := by
        intro q
        exact hm2 (by omega) (by decide)
      clear hm2
      go_enter Tryd.func6, Tryd.ntmps6
      go_wp2_with (go_at_call 27; refine (HTA.out _).mono ?_; rintro e w1 ⟨rfl, hq⟩; obtain rfl := hq.symm)
      go_ret2
      exact ⟨_, rfl, ownp_none _ _, (Below.refl _ _).alloc (Nat.le_refl _) _⟩
end Go.Proofs.YtcefodcjmbnpoaaDoor.Jb
