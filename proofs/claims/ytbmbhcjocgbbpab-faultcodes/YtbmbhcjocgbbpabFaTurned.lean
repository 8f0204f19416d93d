/-
  Bytes turned in their own memory: the statements' turned.
-/
import Derived.Test.YtbmbhcjocgbbpabFaRoom
import Derived.Test.YtbmbhcjocgbbpabStFlipM
import Derived.Lib.MinMax
namespace Go.Proofs.Ytbmbhcjocgbbpab.Fa
open Go.ChangeShapes Go.WideShapes Go.ChangeAt Go.RowKit
open Go.Proofs.Ytbmbhcjocgbbpab.Base
set_option linter.unusedVariables false
/-- The bytes from f to k are turned. -/
def turnL (bs : List (BitVec 8)) (f k : Nat) : List (BitVec 8) := bs.take f ++ ((bs.take k).drop f).map (· ^^^ 64#8) ++ bs.drop (max f k)
theorem turnL_len (bs : List (BitVec 8)) (f k : Nat) (hf : f ≤ bs.length) (hk : k ≤ bs.length) : (turnL bs f k).length = bs.length := by
  unfold turnL; simp; omega
theorem turnL_start (bs : List (BitVec 8)) (f : Nat) : turnL bs f f = bs := by
  unfold turnL; simp
theorem turnL_get (bs : List (BitVec 8)) (f k i : Nat) (hf : f ≤ bs.length) (hk : k ≤ bs.length) (h : f ≤ k) : (turnL bs f k).getD i 0 = if f ≤ i ∧ i < k then bs.getD i 0 ^^^ 64#8 else bs.getD i 0 := by
  unfold turnL
  rw [List.append_assoc]
  simp only [List.getD_eq_getElem?_getD]
  by_cases h1 : i < f
  · rw [if_neg (by omega), List.getElem?_append_left (by rw [List.length_take]; omega), List.getElem?_take, if_pos h1]
  · rw [List.getElem?_append_right (by rw [List.length_take]; omega), List.length_take, show min f bs.length = f by omega]
    by_cases h2 : i < k
    · rw [if_pos (by omega), List.getElem?_append_left (by simp; omega), List.getElem?_map, List.getElem?_drop, List.getElem?_take, if_pos (by omega), show f + (i - f) = i by omega, List.getElem?_eq_getElem (by omega)]
      rfl
    · rw [if_neg (by omega), List.getElem?_append_right (by simp; omega), List.getElem?_drop]
      congr 2
      simp
      omega
theorem ext_getD {xs ys : List (BitVec 8)} (hl : xs.length = ys.length) (h : ∀ i, i < xs.length → xs.getD i 0 = ys.getD i 0) : xs = ys := by
  apply List.ext_getElem hl
  intro i h1 h2
  have := h i h1
  rw [List.getD_eq_getElem?_getD, List.getD_eq_getElem?_getD, List.getElem?_eq_getElem h1, List.getElem?_eq_getElem h2] at this
  exact this
theorem turnL_next (bs : List (BitVec 8)) (f k : Nat) (h : f ≤ k) (hk : k < bs.length) : (turnL bs f k).set k ((turnL bs f k).getD k 0 ^^^ 64#8) = turnL bs f (k + 1) := by
  have hl := turnL_len bs f k (by omega) (by omega)
  apply ext_getD (by rw [List.length_set, hl, turnL_len bs f (k + 1) (by omega) (by omega)])
  intro i hi
  rw [List.length_set, hl] at hi
  rw [turnL_get bs f (k + 1) i (by omega) (by omega) (by omega), turnL_get bs f k k (by omega) (by omega) h, if_neg (by omega)]
  by_cases e : i = k
  · subst e
    rw [List.getD_eq_getElem?_getD, List.getElem?_set_self (by omega), if_pos (by omega)]
    rfl
  · rw [List.getD_eq_getElem?_getD, List.getElem?_set_ne (by omega), ← List.getD_eq_getElem?_getD, turnL_get bs f k i (by omega) (by omega) h]
    by_cases e2 : f ≤ i ∧ i < k
    · rw [if_pos e2, if_pos (by omega)]
    · rw [if_neg e2, if_neg (by omega)]
set_option maxHeartbeats 1000000 in
set_option maxRecDepth 100000 in
theorem turned_any (base g n c : Nat) (fr : Int) (F : Nat) (bs : List (BitVec 8)) (w : World) (ho : Own w base (.slice (some ⟨g, 0, none⟩) n c) bs) (hl : n ≤ 140737488355328) (hF : max fr 0 = (F : Int)) (hFn : F ≤ n) :
    Calls Try.prog 17 #[.slice (some ⟨g, 0, none⟩) n c, .int .i64 fr] w fun e w' => e = .returned (.slice (some ⟨g, 0, none⟩) n c) ∧ Own w' base (.slice (some ⟨g, 0, none⟩) n c) (turnL bs F n) ∧ w.grownBy w' (some g) := by
  have hli : (n : Int) ≤ 140737488355328 := by omega
  have HL := hide ho.len
  have HO0 : Hid (Own w base (.slice (some ⟨g, 0, none⟩) n c) (turnL bs F F)) := by show Own _ _ _ _; rw [turnL_start]; exact ho
  clear ho
  go_enter Try.func17, Try.ntmps17
  go_wp2_with fail
  go_loopw [5] (fun i wr => ∃ k : Nat, F ≤ k ∧ k ≤ n ∧ i = .int .i64 (k : Int) ∧ Hid (Own wr base (.slice (some ⟨g, 0, none⟩) n c) (turnL bs F k)) ∧ Hid (w.grownBy wr (some g))) (fun i _ => n - (intOf i).toNat)
  case atStart => exact ⟨F, Nat.le_refl _, hFn, rfl, HO0.out, World.grownBy.refl _ _⟩
  case round =>
    obtain ⟨k, hk1, hk, rfl, HO, HG⟩ := hrel
    by_cases hlt : k < n
    · have hki : (k : Int) < (n : Int) := by omega
      have g1 := HO.out.cell k hlt
      have f1 := HO.out.frozen k
      have HN := hide (turnL_next bs F k hk1 (by have := HL.out; omega))
      generalize (turnL bs F k).getD k 0 = d at g1 HN
      have y2 := bxor_u8 d 64#8
      rw [show ((64#8 : BitVec 8).toNat : Int) = 64 from rfl] at y2
      generalize d ^^^ 64#8 = z at y2 HN
      have HS := hide (HO.out.store k z)
      rw [HN.out] at HS
      go_wp2_with fail
      go_roundw
      case rel => exact ⟨k + 1, by omega, by omega, by go_num, HS.out.1, grown_trans HG.out HS.out.2⟩
      case measure => simp [intOf]; omega
    · obtain rfl : k = n := by omega
      go_wp2_with fail
      go_ret
      exact ⟨rfl, HO.out, HG.out⟩
end Go.Proofs.Ytbmbhcjocgbbpab.Fa
