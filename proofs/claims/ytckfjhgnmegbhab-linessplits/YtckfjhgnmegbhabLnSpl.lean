/-
  Splits and the document's, their errors too; splits compared.
-/
import Derived.Test.YtckfjhgnmegbhabLnRsp
import Derived.Test.YtckfjhgnmegbhabLnRcut3
import Derived.Test.YtckfjhgnmegbhabLnHelp2
namespace Go.Proofs.Ytckfjhgnmegbhab.Ln
open Go.ChangeShapes Go.WideShapes Go.ChangeAt Go.RowKit
open Go.Proofs.Ytckfjhgnmegbhab.Base Go.Proofs.Ytckfjhgnmegbhab.Rf
set_option linter.unusedVariables false
/-- The error, the number of splits. -/
def spErr (T : ByteArray) (xs : List Int) : Int := if 4194304 < T.size ∨ 256 ≤ xs.length then 2 else if ∀ j, j < xs.length + 1 → hi T xs j - lo T xs j ≤ 65536 then 0 else 2
def spN (T : ByteArray) (xs : List Int) : Nat := if spErr T xs = 0 then xs.length + 1 else 0
theorem spN_le (T : ByteArray) (xs : List Int) : spN T xs ≤ 256 := by
  unfold spN spErr
  by_cases h : 4194304 < T.size ∨ 256 ≤ xs.length
  · rw [if_pos h, if_neg (by omega)]; omega
  · rw [if_neg h]
    by_cases h2 : ∀ j, j < xs.length + 1 → hi T xs j - lo T xs j ≤ 65536
    · rw [if_pos h2, if_pos rfl]; omega
    · rw [if_neg h2, if_neg (by omega)]; omega
theorem splits_long (T : ByteArray) (a : Option Addr) (len cap : Nat) (w : World) (h : 4194304 < T.size ∨ 256 ≤ len) (ht : T.size ≤ 9223372036854775807) (hl : len ≤ 9223372036854775807) :
    Calls Try.prog 5 #[.string T, .slice a len cap] w fun e w' => e = .returned (.tuple #[.slice none 0 0, .int .i64 2]) ∧ Below w.heap.size w w' := by
  have HCU := hide (cut_long (T.size : Int) a len cap w (by omega) hl)
  clear h
  go_enter Try.func5, Try.ntmps5
  go_wp2_with (go_at_call 10; refine HCU.out.mono ?_; rintro e w1 ⟨rfl, hb1⟩; have HB1 := hide hb1; clear hb1)
  go_ret2
  exact ⟨rfl, HB1.out⟩
theorem refSplits_long (T : ByteArray) (a : Option Addr) (len cap : Nat) (w : World) (h : 4194304 < T.size ∨ 256 ≤ len) (ht : T.size ≤ 9223372036854775807) (hl : len ≤ 9223372036854775807) :
    Calls Try.prog 6 #[.string T, .slice a len cap] w fun e w' => e = .returned (.tuple #[.slice none 0 0, .int .i64 2]) ∧ Below w.heap.size w w' := by
  have HCU := hide (refCut_long (T.size : Int) a len cap w (by omega) hl)
  clear h
  go_enter Try.func6, Try.ntmps6
  go_wp2_with (go_at_call 13; refine HCU.out.mono ?_; rintro e w1 ⟨rfl, hb1⟩; have HB1 := hide hb1; clear hb1)
  go_ret2
  exact ⟨rfl, HB1.out⟩
theorem splits_any (T : ByteArray) (a : Option Addr) (cap : Nat) (xs : List Int) (w : World) (ht : T.size ≤ 9223372036854775807) (hr : RdI w a xs.length xs) :
    Calls Try.prog 5 #[.string T, .slice a xs.length cap] w fun e w' => ∃ v, e = .returned (.tuple #[v, .int .i64 (spErr T xs)]) ∧ OwnF w' w.heap.size 29 2 v (spN T xs) (xf T xs) ∧ Below w.heap.size w w' := by
  have hb := hr.2.1
  unfold spN spErr
  by_cases h1 : 4194304 < T.size ∨ 256 ≤ xs.length
  · rw [if_pos h1, if_neg (by omega)]
    exact (splits_long T a _ cap w h1 ht (by omega)).mono fun e w' ⟨h, hb⟩ => ⟨_, h, ownf_none _ _ _ _ _, hb⟩
  · rw [if_neg h1]
    refine (splits_walk T a cap xs w (by omega) hr (by omega)).mono fun e w' ⟨h, hb⟩ => ?_
    unfold fits at h
    rcases h with ⟨v, he, hf, ho⟩ | ⟨he, hf⟩
    · rw [if_pos hf, if_pos rfl]; exact ⟨v, he, ho, hb⟩
    · rw [if_neg hf, if_neg (by omega)]; exact ⟨_, he, ownf_none _ _ _ _ _, hb⟩
theorem refSplits_any (T : ByteArray) (a : Option Addr) (cap : Nat) (xs : List Int) (w : World) (ht : T.size ≤ 9223372036854775807) (hr : RdI w a xs.length xs) :
    Calls Try.prog 6 #[.string T, .slice a xs.length cap] w fun e w' => ∃ v, e = .returned (.tuple #[v, .int .i64 (spErr T xs)]) ∧ OwnF w' w.heap.size 29 2 v (spN T xs) (xf T xs) ∧ Below w.heap.size w w' := by
  have hb := hr.2.1
  unfold spN spErr
  by_cases h1 : 4194304 < T.size ∨ 256 ≤ xs.length
  · rw [if_pos h1, if_neg (by omega)]
    exact (refSplits_long T a _ cap w h1 ht (by omega)).mono fun e w' ⟨h, hb⟩ => ⟨_, h, ownf_none _ _ _ _ _, hb⟩
  · rw [if_neg h1]
    refine (refSplits_ok T a cap xs w (by omega) hr (by omega)).mono fun e w' ⟨h, hb⟩ => ?_
    unfold fits at h
    rcases h with ⟨v, he, hf, ho⟩ | ⟨he, hf⟩
    · rw [if_pos hf, if_pos rfl]; exact ⟨v, he, ho, hb⟩
    · rw [if_neg hf, if_neg (by omega)]; exact ⟨_, he, ownf_none _ _ _ _ _, hb⟩
set_option maxHeartbeats 2000000 in
set_option maxRecDepth 100000 in
theorem splits_true (n : Nat) (x : Nat → Int) (y : Nat → ByteArray) (a b : Option Addr) (ca cb : Nat) (w : World) (hn : n ≤ 4611686018427387904) (ha : RdF w a 2 n (fun k => [.int .i64 (x k), .string (y k)])) (hb : RdF w b 2 n (fun k => [.int .i64 (x k), .string (y k)])) :
    Calls Try.prog 7 #[.slice a n ca, .slice b n cb] w fun e w' => e = .returned (.bool true) ∧ Below w.heap.size w w' := by
  have HA := hide ha
  have HB := hide hb
  clear ha hb
  go_enter Try.func7, Try.ntmps7
  go_wp2_with fail
  go_loopw [5] (fun i wr => ∃ k : Nat, k ≤ n ∧ i = .int .i64 (k : Int) ∧ Hid (Below w.heap.size w wr)) (fun i _ => n - (intOf i).toNat)
  case atStart => exact ⟨0, Nat.zero_le _, rfl, Below.refl _ _⟩
  case round =>
    obtain ⟨k, hk, rfl, HW⟩ := hrel
    by_cases hlt : k < n
    · have hki : (k : Int) < (n : Int) := by omega
      obtain ⟨b1, o1, rfl, hl1, hc1⟩ := HA.out.below HW.out (by omega)
      obtain ⟨b2, o2, rfl, hl2, hc2⟩ := HB.out.below HW.out (by omega)
      have e1 := hc1 k 0 _ hlt rfl (by omega)
      have e2 := hc2 k 0 _ hlt rfl (by omega)
      have e3 := hc1 k 1 _ hlt rfl (by omega)
      have e4 := hc2 k 1 _ hlt rfl (by omega)
      rw [Nat.add_zero] at e1 e2
      rw [← Nat.add_assoc] at e3 e4
      clear hc1 hc2
      generalize x k = X at e1 e2
      generalize y k = Y at e3 e4
      have hq := eq_split X Y
      go_wp2_with fail
      go_region
      all_goals
        go_wp2_with fail
        go_roundw
        case rel => exact ⟨k + 1, hlt, by go_num, by first | exact below_trans HW.out (below_drewN' _ _ _) | exact below_trans HW.out ((Below.refl _ _).drew)⟩
        case measure => simp [intOf]; omega
    · obtain rfl : n = k := by omega
      go_wp2_with fail
      go_ret
      exact ⟨rfl, HW.out⟩
end Go.Proofs.Ytckfjhgnmegbhab.Ln
