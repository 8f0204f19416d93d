/-
  What the program tells of Seal.
-/
import Derived.Test.YthdblnfohbldcaaGreatCzTileJ
import Derived.WalkSpells
namespace Go.Proofs.YthdblnfohbldcaaGreat.Crc
set_option linter.unusedVariables false
open Go.Proofs.YthdblnfohbldcaaGreat.Base
open Go.ChangeShapes Go.WideShapes Go.ChangeAt Go.RowKit
theorem byte_val (X : BitVec 32) : (X.toNat : Int) % 256 = ((X.setWidth 8).toNat : Int) := by
  rw [BitVec.toNat_setWidth]; rfl
theorem sumBytes_take (s : BitVec 32) (k : Nat) (h : k < 4) : (sumBytes s).take (k + 1) = (sumBytes s).take k ++ [(s >>> (8 * k)).setWidth 8] := by
  match k, h with
  | 0, _ => rfl
  | 1, _ => rfl
  | 2, _ => rfl
  | 3, _ => rfl
set_option maxHeartbeats 1000000 in
set_option maxRecDepth 100000 in
theorem seal_any (a : Option Addr) (len cap : Nat) (bs : List (BitVec 8)) (w : World) (hr : Rd w a len bs) (hnil : a = none → len = 0 ∧ cap = 0) (hm : len ≤ 140737488351240) :
    Calls Tryz.prog 16 #[.slice a len cap] w fun e w' => ∃ g, e = .returned (.slice (some ⟨g, 0, none⟩) (len + 4) (len + 4)) ∧ w.heap.size ≤ g ∧ Own w' w.heap.size (.slice (some ⟨g, 0, none⟩) (len + 4) (len + 4)) (tile bs) ∧ Below w.heap.size w w' := by
  have HL := hide hr.1
  have R := hide hr
  clear hr
  obtain ⟨i0, hi, hz0, hz1, hz2⟩ := info_parts info8
  go_enter Tryz.func16, Tryz.ntmps16
  go_wp2_with (first
    | (at_make; refine wpList_make_own _ rfl _ _ 24 rfl w.heap.size 5 i0 (.int .u8 0) 1 Tryz.underlying24 hi hz0 hz1 .i64 .i64 _ (len + 4) rfl rfl (by omega) (by rw [hz2]; omega) (by unfold maxLen; omega) (Nat.le_refl _) ?_
       intro w1 hown1 hgrow1
       have HO1 := hide hown1
       have HB1 : Hid (Below w.heap.size w w1) := (Below.refl _ _).grown hgrow1 (Nat.le_refl _) (by intro k h; cases h)
       clear hown1 hgrow1)
    | (at_builtin; refine wpList_append_fits_any _ rfl _ _ 24 rfl w.heap.size 5 i0 1 Tryz.underlying24 hi hz1 w.heap.size 0 (len + 4) [] rfl HO1.out a len cap (vals bs) rfl (by rw [length_vals, HL.out]; omega) hnil ?_ (vals_one _) (by omega) ?_
       · exact fun ad had j u hu => (R.out.below HB1.out).cellsAt ad had j u hu
       intro w2 hown2 hgrow2
       have HO2 := hide hown2
       have HB2 : Hid (Below w.heap.size w w2) := HB1.out.grown hgrow2 HB1.out.size (by intro k h; cases h; exact Nat.le_refl _)
       clear hown2 hgrow2)
    | fail)
  refine (sum_any _ _ _ _ _ (R.out.below HB2.out)).mono ?_
  rintro e w3 ⟨rfl, hb3⟩
  have HO3 : Hid (Own w3 w.heap.size (.slice (some ⟨w.heap.size, 0, none⟩) len (len + 4)) bs) := by
    have h := HO2.out
    rw [Nat.zero_add, List.nil_append] at h
    have h' : Own w2 w.heap.size (.slice (some ⟨w.heap.size, 0, none⟩) len (len + 4)) bs := by
      unfold Own; rw [HL.out]; exact h
    exact h'.below hb3
  have HB3 := hide (below_trans HB2.out hb3)
  clear hb3 HO2 HB2 HO1 HB1
  generalize hS : sum bs = S
  have HS := hide hS
  clear hS
  go_wp2_with fail
  go_loopw [3, 4, 14] (fun t x i wr => ∃ k : Nat, k ≤ 4 ∧ i = .int .i64 k ∧ t = .slice (some ⟨w.heap.size, 0, none⟩) (len + k) (len + 4) ∧ (∃ X : BitVec 32, x = .int .u32 (X.toNat : Int) ∧ Hid (X = S >>> (8 * k))) ∧
      Hid (Own wr w.heap.size (.slice (some ⟨w.heap.size, 0, none⟩) (len + k) (len + 4)) (bs ++ (sumBytes S).take k)) ∧ Hid (Below w.heap.size w wr)) (fun _ _ i _ => 4 - (intOf i).toNat)
  case atStart => exact ⟨0, Nat.zero_le _, rfl, rfl, ⟨S, rfl, rfl⟩, by simpa using HO3, HB3⟩
  case round =>
    clear HO3 HB3
    obtain ⟨k, hk, rfl, rfl, ⟨X, rfl, HX⟩, HO, HB⟩ := hrel
    by_cases hlt : k < 4
    · have h1 := byte_val X
      have h2 := bshr8 X
      generalize hB : X.setWidth 8 = c at h1
      have HC := hide hB
      generalize hY : X >>> 8 = Y at h2
      have HY := hide hY
      clear hB hY
      have hsz := HB.out.size
      go_wp2_with (
        at_builtin; refine wpList_append_fits _ rfl _ _ 24 rfl w.heap.size 5 i0 1 Tryz.underlying24 hi hz1 w.heap.size (len + k) (len + 4) (vals (bs ++ (sumBytes S).take k)) rfl ?_ ⟨wr.heap.size, 0, none⟩ 1 1 [.int .u8 (c.toNat : Int)] rfl rfl (cell_one_new _ _ _) (vals_one [c]) (by omega) ?_
        · have h := HO.out.below ((Below.refl wr.heap.size wr).alloc (Nat.le_refl _) (.cells #[.int .u8 (c.toNat : Int)] 5))
          have hn := h.len
          unfold Own at h
          rw [← hn] at h
          exact h
        intro w4 hown4 hgrow4
        have HO4 := hide hown4
        have HG4 := hide hgrow4
        clear hown4 hgrow4)
      go_roundw
      case rel =>
        refine ⟨k + 1, by omega, by go_num, rfl, ⟨Y, rfl, ?_⟩, ?_, ?_⟩
        · show Y = _
          rw [← HY.out, HX.out, ← BitVec.shiftRight_add]
          rfl
        · show Own _ _ _ _
          rw [sumBytes_take S k hlt, ← List.append_assoc, ← HX.out, HC.out]
          refine own_append HO4.out ?_
          have hl := HL.out
          have h4 := length_sumBytes S
          simp only [List.length_append, List.length_take, List.length_cons, List.length_nil]
          omega
        · exact ((HB.out.alloc hsz _).grown HG4.out (by simp; omega) (by intro j h; cases h; exact Nat.le_refl _))
      case measure => simp [intOf]; omega
    · have hk4 : k = 4 := by omega
      subst hk4
      go_wp2
      go_ret
      refine ⟨w.heap.size, rfl, Nat.le_refl _, ?_, HB.out⟩
      have h := HO.out
      rw [← HS.out] at h
      exact h
end Go.Proofs.YthdblnfohbldcaaGreat.Crc
