/-
  Bytes turned round in their own memory.
-/
import Derived.Test.YtalnhhpcncjflaaHuffK5
namespace Go.Proofs.Ytalnhhpcncjflaa.Huff
open Go.ChangeShapes Go.WideShapes Go.ChangeAt Go.RowKit
open Go.Proofs.Ytalnhhpcncjflaa.Base
set_option linter.unusedVariables false
def bkFromB : Nat → Nat → List (BitVec 8) → List (BitVec 8)
  | 0, _, l => l
  | f + 1, i, l => if i < l.length - 1 - i then bkFromB f (i + 1) ((l.set i (l.getD (l.length - 1 - i) 0)).set (l.length - 1 - i) (l.getD i 0)) else l
def bkB (l : List (BitVec 8)) : List (BitVec 8) := bkFromB l.length 0 l
theorem bkFromB_len (f : Nat) : ∀ i l, (bkFromB f i l).length = l.length := by
  induction f with
  | zero => intro i l; rfl
  | succ f ih =>
    intro i l
    unfold bkFromB
    split
    · rw [ih]; simp
    · rfl
theorem bkB_len (l : List (BitVec 8)) : (bkB l).length = l.length := bkFromB_len _ _ _
theorem getD_leftB (xs ys : List (BitVec 8)) (k : Nat) (h : k < xs.length) : (xs ++ ys).getD k 0 = xs.getD k 0 := by
  rw [List.getD_eq_getElem?_getD, List.getElem?_append_left h, List.getD_eq_getElem?_getD]
set_option maxHeartbeats 1000000 in
set_option maxRecDepth 100000 in
theorem backB_any (base g n c M : Nat) (xs ys : List (BitVec 8)) (w : World) (ho : Own w base (.slice (some ⟨g, 0, none⟩) M M) (xs ++ ys)) (hn : xs.length = n) (hl : n ≤ 140737488355328) :
    Calls Try.prog 28 #[.slice (some ⟨g, 0, none⟩) n c] w fun e w' => e = .returned (.slice (some ⟨g, 0, none⟩) n c) ∧ Own w' base (.slice (some ⟨g, 0, none⟩) M M) (bkB xs ++ ys) ∧ w.grownBy w' (some g) := by
  have HO := hide ho
  have HN := hide hn
  clear ho hn
  go_enter Try.func28, Try.ntmps28
  go_wp2_with fail
  go_loopw [3, 4] (fun i j wr => ∃ (k : Nat) (L : List (BitVec 8)), k ≤ n ∧ i = .int .i64 (k : Int) ∧ j = .int .i64 ((n : Int) - 1 - (k : Int)) ∧ Hid (L.length = n) ∧ Hid (bkB xs = bkFromB (n - k) k L) ∧ Hid (Own wr base (.slice (some ⟨g, 0, none⟩) M M) (L ++ ys)) ∧ Hid (w.grownBy wr (some g))) (fun i _ _ => n - (intOf i).toNat)
  case atStart => exact ⟨0, xs, Nat.zero_le _, rfl, by simp, HN, by show _ = _; unfold bkB; rw [HN.out]; rfl, HO, World.grownBy.refl _ _⟩
  case round =>
    clear HO
    obtain ⟨k, L, hk, rfl, rfl, HL, HE, HO, HG⟩ := hrel
    by_cases hlt : (k : Int) < (n : Int) - 1 - (k : Int)
    · obtain ⟨q, hq⟩ : ∃ q : Nat, (n : Int) - 1 - (k : Int) = (q : Int) := ⟨n - 1 - k, by omega⟩
      have hMM : M = n + ys.length := by have := HO.out.len; rw [List.length_append, HL.out] at this; exact this
      have c1 := HO.out.cell k (by omega)
      have c2 := HO.out.cell q (by omega)
      have f1 := HO.out.frozen k
      have f2 := HO.out.frozen q
      rw [getD_leftB _ _ _ (by rw [HL.out]; omega)] at c1 c2
      have HE2 : Hid (bkFromB (n - k) k L = bkFromB (n - (k + 1)) (k + 1) ((L.set k (L.getD q 0)).set q (L.getD k 0))) := by
        show _ = _
        rw [show n - k = (n - (k + 1)) + 1 by omega, bkFromB, if_pos (by rw [HL.out]; omega), HL.out, show n - 1 - k = q by omega]
      rw [hq] at hlt
      have hkn : (k : Int) < (n : Int) := by omega
      have hqn : (q : Int) < (n : Int) := by omega
      have hkq : k ≠ q := by omega
      have hq2 : (q : Int) - 1 = (n : Int) - 1 - ((k + 1 : Nat) : Int) := by omega
      generalize hA : L.getD k 0 = A at c1 HE2
      generalize hB : L.getD q 0 = B at c2 HE2
      rw [hq]
      clear hq hA hB hMM
      go_wp2_with fail
      go_roundw
      case rel =>
        refine ⟨k + 1, (L.set k B).set q A, by omega, by go_num, val_int (by omega), by show _ = _; rw [List.length_set, List.length_set]; exact HL.out, HE.out.trans HE2.out, ?_, grown_cell (grown_cell HG.out k _) q _⟩
        have h := ((HO.out.store k B).1.store q A).1
        rw [List.set_append_left _ _ (by rw [HL.out]; omega), List.set_append_left _ _ (by rw [List.length_set, HL.out]; omega)] at h
        exact h
      case measure => simp [intOf]; omega
    · have HE2 : Hid (bkFromB (n - k) k L = L) := by
        show _ = _
        cases hnk : n - k with
        | zero => rfl
        | succ m => rw [bkFromB, if_neg (by rw [HL.out]; omega)]
      go_wp2_with fail
      go_ret
      refine ⟨by first | rfl | trivial, ?_, HG.out⟩
      rw [HE.out, HE2.out]
      exact HO.out
end Go.Proofs.Ytalnhhpcncjflaa.Huff
