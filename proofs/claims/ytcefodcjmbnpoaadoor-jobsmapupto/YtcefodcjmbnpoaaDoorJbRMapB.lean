/-
  The document's Map: the kinds sum and distinct, and none.
-/
import Derived.Test.YtcefodcjmbnpoaaDoorJbCut
import Derived.Laws.EntriesVeiled
namespace Go.Proofs.YtcefodcjmbnpoaaDoor.Jb
open Go.ChangeShapes Go.WideShapes Go.ChangeAt Go.RowKit
open Go.Lib hiding intOf
open Go.Proofs.YtcefodcjmbnpoaaDoor.Base
open Go.Proofs.YtcefodcjmbnpoaaDoor.Pa (OwnS RdS)
set_option linter.unusedVariables false
theorem num_size {l : List UInt8} {v : Int} (h : num l = some v) : l.length ≤ 20 := by
  obtain ⟨h1, h2⟩ := (num_iff l v).1 h
  obtain ⟨_, h3, _⟩ := itoa_parts v h1
  rw [h2] at h3; exact h3
set_option maxHeartbeats 2000000 in
set_option maxRecDepth 100000 in
theorem rmap4 (p : Int) (s : ByteArray) (w : World) (hs : s.size ≤ 1048576) :
    Calls Tryd.prog 6 #[.int .i64 4, .int .i64 p, .string s] w fun e w' => Ans w e w' (mapP 4 p s) (mapN 4 s) := by
  have HPP : Hid (mapP 4 p s = onlyP s ⟨#[]⟩ ∧ mapN 4 s = onlyN s ⟨#[]⟩) := ⟨rfl, rfl⟩
  rw [HPP.out.1, HPP.out.2]
  by_cases h : s.size ≤ 1024
  · have HM : Hid (onlyP s ⟨#[]⟩ = [(s, ⟨#[]⟩)] ∧ onlyN s ⟨#[]⟩ = 0) := by unfold onlyP onlyN may; rw [decide_eq_true h]; exact ⟨rfl, rfl⟩
    rw [HM.out.1, HM.out.2]
    have hi : (s.size : Int) ≤ 1024 := by omega
    clear HPP HM
    go_enter Tryd.func6, Tryd.ntmps6
    go_wp2_with fail
    go_ret2
    exact ⟨_, rfl, ownp_one (s, ⟨#[]⟩) (heap_alloc_new _ _) (Nat.le_refl _), (Below.refl _ _).alloc (Nat.le_refl _) _⟩
  · have HM : Hid (onlyP s ⟨#[]⟩ = [] ∧ onlyN s ⟨#[]⟩ = 1) := by unfold onlyP onlyN may; rw [decide_eq_false h]; exact ⟨rfl, rfl⟩
    rw [HM.out.1, HM.out.2]
    have hi : ¬ (s.size : Int) ≤ 1024 := by omega
    clear HPP HM
    go_enter Tryd.func6, Tryd.ntmps6
    go_wp2_with fail
    go_ret2
    exact ⟨_, rfl, ownp_none _ _, Below.refl _ _⟩
set_option maxHeartbeats 2000000 in
set_option maxRecDepth 100000 in
theorem rmapBad (kind p : Int) (s : ByteArray) (w : World) (hk : kind < 0 ∨ 4 < kind) :
    Calls Tryd.prog 6 #[.int .i64 kind, .int .i64 p, .string s] w fun e w' => Ans w e w' [] 0 := by
  have e0 : (kind == 0) = false := beq_eq_false_iff_ne.2 (by omega)
  have e1 : (kind == 1) = false := beq_eq_false_iff_ne.2 (by omega)
  have e2 : (kind == 2) = false := beq_eq_false_iff_ne.2 (by omega)
  have e3 : (kind == 3) = false := beq_eq_false_iff_ne.2 (by omega)
  have e4 : (kind == 4) = false := beq_eq_false_iff_ne.2 (by omega)
  clear hk
  go_enter Tryd.func6, Tryd.ntmps6
  go_wp2_with fail
  go_ret2
  exact ⟨_, rfl, ownp_none _ _, Below.refl _ _⟩
set_option maxHeartbeats 2000000 in
set_option maxRecDepth 100000 in
theorem rmap2 (p : Int) (s : ByteArray) (w : World) (hs : s.size ≤ 1048576) :
    Calls Tryd.prog 6 #[.int .i64 2, .int .i64 p, .string s] w fun e w' => Ans w e w' (mapP 2 p s) (mapN 2 s) := by
  have HPP : Hid (mapP 2 p s = (if isN (valOf s) then onlyP (keyOf s) (valOf s) else []) ∧ mapN 2 s = (if isN (valOf s) then onlyN (keyOf s) (valOf s) else 1)) := ⟨rfl, rfl⟩
  rw [HPP.out.1, HPP.out.2]
  have HTA := hide (fun W => tab_any s W (by omega))
  have htl := tab_le s
  by_cases h1 : 1024 < tabAt s ∨ tabAt s = s.size
  · have HM : Hid ((if isN (valOf s) then onlyP (keyOf s) (valOf s) else []) = [] ∧ (if isN (valOf s) then onlyN (keyOf s) (valOf s) else 1) = 1) := by
      rcases h1 with h1 | h1
      · have hm : may (keyOf s) (valOf s) = false := by
          unfold may keyOf
          rw [ByteArray.size_extract, decide_eq_false (by omega)]; rfl
        unfold onlyP onlyN
        rw [hm]
        exact ⟨by split <;> rfl, by split <;> rfl⟩
      · have hv : isN (valOf s) = false := by unfold isN valOf; rw [if_neg (by omega)]; rfl
        rw [hv]; exact ⟨rfl, rfl⟩
    rw [HM.out.1, HM.out.2]
    clear HPP HM
    generalize tabAt s = n at HTA h1 htl ⊢
    by_cases h2 : 1024 < n
    · have h2i : (1024 : Int) < (n : Int) := by omega
      clear h1
      go_enter Tryd.func6, Tryd.ntmps6
      go_wp2_with (go_at_call 27; refine (HTA.out _).mono ?_; rintro e w1 ⟨rfl, rfl⟩)
      go_ret2
      exact ⟨_, rfl, ownp_none _ _, Below.refl _ _⟩
    · have h2i : ¬ (1024 : Int) < (n : Int) := by omega
      have h3 : ((n : Int) == (s.size : Int)) = true := beq_iff_eq.2 (by omega)
      clear h1
      go_enter Tryd.func6, Tryd.ntmps6
      go_wp2_with (go_at_call 27; refine (HTA.out _).mono ?_; rintro e w1 ⟨rfl, rfl⟩)
      go_ret2
      exact ⟨_, rfl, ownp_none _ _, Below.refl _ _⟩
  · have HV : Hid (valOf s = s.extract (tabAt s + 1) s.size) := if_pos (by omega)
    have HKO : Hid (keyOf s = s.extract 0 (tabAt s)) := rfl
    have HNA := hide (fun W => rnumber_any (valOf s) W (by have := val_size s; omega))
    have h2i : ¬ (1024 : Int) < (tabAt s : Int) := by omega
    have h3 : ((tabAt s : Int) == (s.size : Int)) = false := beq_eq_false_iff_ne.2 (by omega)
    have hlt : tabAt s < s.size := by omega
    have HKS : Hid ((keyOf s).size ≤ 1024) := by unfold keyOf; show _ ≤ _; rw [ByteArray.size_extract]; omega
    clear h1 HPP
    cases hn : num (valOf s).data.toList with
    | none =>
      have HI : Hid (isN (valOf s) = false) := by unfold isN; rw [hn]; rfl
      have HR := hide (numV_none hn)
      rw [HI.out]
      rw [HR.out, HV.out] at HNA
      clear hn
      generalize tabAt s = n at HTA HNA h2i h3 hlt htl HV HKO
      have hn1 : (n : Int) + 1 ≤ (s.size : Int) := by omega
      go_enter Tryd.func6, Tryd.ntmps6
      go_wp2_with (first
        | (go_at_call 27; refine (HTA.out _).mono ?_; rintro e w1 ⟨rfl, hq⟩; obtain rfl := hq.symm)
        | (go_at_call 28; refine (HNA.out _).mono ?_; rintro e w2 ⟨rfl, hq⟩; obtain rfl := hq.symm))
      go_ret2
      exact ⟨_, rfl, ownp_none _ _, Below.refl _ _⟩
    | some v =>
      have HI : Hid (isN (valOf s) = true) := by unfold isN; rw [hn]; rfl
      have HR := hide (numV_some hn)
      have HM : Hid (onlyP (keyOf s) (valOf s) = [(keyOf s, valOf s)] ∧ onlyN (keyOf s) (valOf s) = 0) := by
        have hm : may (keyOf s) (valOf s) = true := by
          unfold may
          have h9 := num_size hn
          rw [size_list] at h9
          rw [decide_eq_true HKS.out, decide_eq_true (by omega)]; rfl
        unfold onlyP onlyN; rw [hm]; exact ⟨rfl, rfl⟩
      rw [HI.out]
      rw [HR.out, HV.out] at HNA
      simp only [if_true]
      rw [HM.out.1, HM.out.2, HKO.out, HV.out]
      clear hn HM HI HR HKS
      generalize tabAt s = n at HTA HNA h2i h3 hlt htl HV HKO ⊢
      have hn1 : (n : Int) + 1 ≤ (s.size : Int) := by omega
      have hn2 : (n : Int) ≤ (s.size : Int) := by omega
      have hn3 : (0 : Int) ≤ (n : Int) := by omega
      go_enter Tryd.func6, Tryd.ntmps6
      go_wp2_with (first
        | (go_at_call 27; refine (HTA.out _).mono ?_; rintro e w1 ⟨rfl, hq⟩; obtain rfl := hq.symm)
        | (go_at_call 28; refine (HNA.out _).mono ?_; rintro e w2 ⟨rfl, hq⟩; obtain rfl := hq.symm))
      go_region
      go_wp2_with fail
      go_ret2
      exact ⟨_, rfl, ownp_one (s.extract 0 n, s.extract (n + 1) s.size) (heap_alloc_new _ _) (Nat.le_refl _), ((Below.refl _ _).alloc (Nat.le_refl _) _).drew⟩
end Go.Proofs.YtcefodcjmbnpoaaDoor.Jb
