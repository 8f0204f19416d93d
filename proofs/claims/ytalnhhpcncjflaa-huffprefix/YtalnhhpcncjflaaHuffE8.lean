/-
  The statements' own example of a text, there and back.
-/
import Derived.Test.YtalnhhpcncjflaaHuffE6
import Derived.Test.YtalnhhpcncjflaaHuffE7
import Derived.Test.YtalnhhpcncjflaaHuffK4
import Derived.Laws.IdiomStrings
import Derived.Lib.SlBytesConst
namespace Go.Proofs.Ytalnhhpcncjflaa.Huff
set_option linter.unusedVariables false
open Go.ChangeShapes Go.WideShapes Go.ChangeAt Go.RowKit
open Go.Proofs.Ytalnhhpcncjflaa.Base
def aab : List (BitVec 8) := [97, 97, 98]
theorem encoded_len (t : List (BitVec 8)) : (encoded t).1.length ≤ 2000000 := by
  unfold encoded
  by_cases h : 65536 < t.length
  · rw [if_pos h]; simp
  · rw [if_neg h]
    simp only []
    have h1 := len_all (bitsOf (codesOf (textLens t)) t) (pairsOf (textLens t) ++ [0], 0, 0)
    have h2 := bitsOf_len (codesOf (textLens t)) (codes_lenOk t (by omega)) t
    have h3 := (pairs_small (textLens t) (by rw [textLens_len]; omega)).1
    simp only [] at h1
    unfold flush packed
    split
    · omega
    · rw [List.length_append, List.length_singleton]; omega
set_option maxHeartbeats 1000000 in
set_option maxRecDepth 100000 in
theorem works4_any (w : World) : Calls Try.prog 23 #[] w fun e w' => e = .returned (.bool true) ∧ Below w.heap.size w w' := by
  have kc := fun (w : World) (C : Array Value) (n c : Nat) => Lib.run_convert_bytes_const (P := Try.prog) w 37 5 C n c Try.underlying37 Try.underlying5
  have HEQ := hide (there_back aab (by decide))
  have HEL := hide (encoded_len aab)
  have HEN := hide (fun a W h => encode_any a 3 3 aab W h (by decide))
  rw [HEQ.out.1] at HEN
  have HDE := hide (fun a n c W h1 h2 h3 => decode_any a n c (encoded aab).1 3 W h1 h2 h3)
  have e3 : decoded (encoded aab).1 3 = (aab, 0) := HEQ.out.2
  rw [e3] at HDE
  clear e3 HEQ
  generalize (encoded aab).1 = E at HEN HDE HEL
  go_enter Try.func23, Try.ntmps23
  go_wp2_with fail
  have HB0 : Hid (Below w.heap.size w (w.alloc (.cells (vals aab).toArray 5 (3, 4)))) := (Below.refl _ _).alloc (Nat.le_refl _) _
  refine (HEN.out _ _ (rd_new w aab (3, 4) (by decide))).mono ?_
  rintro e w1 ⟨v1, rfl, ho1, hb1⟩
  obtain ⟨a1, c1, rfl⟩ := ho1.shape
  have HB1 := hide (below_trans HB0.out hb1)
  have HO1 := hide ho1
  have hc1 := (Got.cap ho1).1
  have hr1 := ho1.room
  clear hb1 ho1 HB0
  go_wp2_with fail
  refine (HDE.out a1 _ c1 w1 (Got.rd HO1.out (by have := HEL.out; omega)) hc1 hr1).mono ?_
  rintro e w2 ⟨v2, rfl, ho2, hb2⟩
  simp only at ho2 ⊢
  have HB2 := hide (below_trans HB1.out hb2)
  obtain ⟨a2, c2, rfl⟩ := ho2.shape
  have HO2 := hide ho2
  clear hb2 ho2 HB1
  rw [show aab.length = 3 from rfl] at HO2 ⊢
  go_wp2_with fail
  refine (same4_eq a2 _ 3 c2 3 3 aab _ ((Got.rd HO2.out (by decide)).below ((Below.refl _ _).alloc (Nat.le_refl _) _)) (rd_new w2 aab (3, 4) (by decide))).mono ?_
  rintro e w3 ⟨rfl, hb3⟩
  have HB3 := hide ((HB2.out.alloc HB2.out.size _).trans (hb3.mono (by simp; have := HB2.out.size; omega)))
  clear hb3
  go_wp2_with fail
  go_ret
  exact ⟨rfl, HB3.out⟩
end Go.Proofs.Ytalnhhpcncjflaa.Huff
