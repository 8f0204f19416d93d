/-
  The statements' own helpers: spare, kept.
-/
import Derived.Test.YtcchknpgkcmneaaNumsRefC
namespace Go.Proofs.Ytcchknpgkcmneaa.Nums
set_option linter.unusedVariables false
open Go.ChangeShapes Go.WideShapes Go.ChangeAt Go.RowKit
open Go.Proofs.Ytcchknpgkcmneaa.Base
def pad : List (BitVec 8) := List.replicate 64 (BitVec.ofNat 8 150)
theorem length_pad : pad.length = 64 := by simp [pad]
theorem pad_get (k : Nat) (h : k < 64) : pad[k]? = some (BitVec.ofNat 8 150) := by
  unfold pad; rw [List.getElem?_replicate, if_pos h]
def padded (bs : List (BitVec 8)) : List (BitVec 8) := bs ++ pad
/-- What 'roomy' has laid behind k rounds. -/
def roomTo (bs : List (BitVec 8)) (k : Nat) : List (BitVec 8) := (padded bs).take k ++ List.replicate (bs.length + 64 - k) (BitVec.ofNat 8 0)
theorem length_padded (bs : List (BitVec 8)) : (padded bs).length = bs.length + 64 := by simp [padded, length_pad]
theorem length_roomTo (bs : List (BitVec 8)) (k : Nat) (h : k ≤ bs.length + 64) : (roomTo bs k).length = bs.length + 64 := by
  simp [roomTo, length_padded]; omega
theorem roomTo_zero (bs : List (BitVec 8)) : vals (roomTo bs 0) = (madeCells (Value.int .u8 0).cells ((bs.length + 64) * 1)).toList := by
  rw [show (Value.int .u8 0).cells = #[Value.int .u8 0] from rfl, toList_madeCells_one]
  simp [roomTo, vals, V8]
theorem roomTo_end (bs : List (BitVec 8)) : roomTo bs (bs.length + 64) = padded bs := by
  unfold roomTo; rw [List.take_of_length_le (by rw [length_padded]; omega)]; simp
theorem roomTo_step (bs : List (BitVec 8)) (k : Nat) (h : k < bs.length + 64) : (roomTo bs k).set k ((padded bs).getD k 0) = roomTo bs (k + 1) := by
  have hp : k < (padded bs).length := by rw [length_padded]; exact h
  unfold roomTo
  have hl : ((padded bs).take k).length = k := by rw [List.length_take]; omega
  rw [List.set_append_right _ _ (by omega), hl, Nat.sub_self, getD_take _ k hp,
    show bs.length + 64 - k = (bs.length + 64 - (k + 1)) + 1 by omega, List.replicate_succ, List.set_cons_zero, List.append_assoc]
  rfl
theorem padded_lt (bs : List (BitVec 8)) (k : Nat) (h : k < bs.length) : (padded bs).getD k 0 = bs.getD k 0 := by
  simp [padded, List.getElem?_append_left h]
theorem padded_ge (bs : List (BitVec 8)) (k : Nat) (h : bs.length ≤ k) (h2 : k < bs.length + 64) : (padded bs).getD k 0 = BitVec.ofNat 8 150 := by
  rw [List.getD_eq_getElem?_getD, padded, List.getElem?_append_right h, pad_get _ (by omega)]; rfl
set_option maxHeartbeats 1000000 in
set_option maxRecDepth 100000 in
theorem spare_any (a : Option Addr) (len cap : Nat) (bs : List (BitVec 8)) (w : World) (hr : Rd w a len bs) (hreach : len ≤ 140737488351232) :
    Calls Try.prog 7 #[.slice a len cap] w fun e w' => ∃ g, e = .returned (.slice (some ⟨g, 0, none⟩) (len + 64) (len + 64)) ∧ w.heap.size ≤ g ∧ Own w' w.heap.size (.slice (some ⟨g, 0, none⟩) (len + 64) (len + 64)) (padded bs) ∧ Below w.heap.size w w' := by
  obtain ⟨hl, hm, hc⟩ := hr
  have HL := hide hl
  have HC := hide hc
  clear hl hc
  obtain ⟨i0, hi, hz0, hz1, hz2⟩ := info_parts info8
  go_enter Try.func7, Try.ntmps7
  go_wp2_with (at_make; refine wpList_make_full _ rfl _ _ 22 rfl w.heap.size 5 i0 (.int .u8 0) 1 Try.underlying22 hi hz0 hz1 .i64 .i64 _ _ (len + 64) rfl rfl (by omega) (by omega) (by rw [hz2]; omega) (by unfold maxLen; omega) (Nat.le_refl _) ?_; intro w1 hown hgrow)
  have hb1 : Below w.heap.size w w1 := (Below.refl _ _).grown hgrow (Nat.le_refl _) (by intro k h; cases h)
  have ho1 : Own w1 w.heap.size (.slice (some ⟨w.heap.size, 0, none⟩) (len + 64) (len + 64)) (roomTo bs 0) := by
    unfold Own
    have hl := HL.out
    rw [length_roomTo _ _ (by omega), roomTo_zero, hl]
    exact hown
  clear hown hgrow
  go_loopw [4] (fun i wr => ∃ k : Nat, k ≤ len + 64 ∧ i = .int .i64 k ∧ Hid (Own wr w.heap.size (.slice (some ⟨w.heap.size, 0, none⟩) (len + 64) (len + 64)) (roomTo bs k)) ∧ Hid (Below w.heap.size w wr)) (fun i _ => len + 64 - (intOf i).toNat)
  case atStart => exact ⟨0, Nat.zero_le _, rfl, ho1, hb1⟩
  case round =>
    clear ho1 hb1
    obtain ⟨k, hk, rfl, HO, HB⟩ := hrel
    by_cases hlt : k < len + 64
    · have g1 := HO.out.cell k hlt
      generalize (roomTo bs k).getD k 0 = c0 at g1
      have g2 := HO.out.frozen k
      obtain ⟨ho', hg'⟩ := HO.out.store k (BitVec.ofNat 8 150)
      by_cases hlb : k < len
      · obtain ⟨b1, o1, rfl, hb1, hcell⟩ := unhide HC (by omega)
        have g3 := hcell k hlb
        clear hcell
        have g4 : wr.cell? ⟨b1, o1 + k, none⟩ = some (.int .u8 ((bs.getD k 0).toNat : Int)) := by
          rw [HB.out.cell (p := ⟨b1, o1 + k, none⟩) hb1]; exact g3
        clear g3
        generalize hC : bs.getD k 0 = c at g4
        have HCC := hide hC
        clear hC
        have hnb : b1 ≠ w.heap.size := by omega
        have ho2 := hide (ho'.store k c)
        have HO' := hide ho'
        clear ho' hg'
        go_wp2
        go_roundw
        case rel =>
          refine ⟨k + 1, by omega, by go_num, ?_, ?_⟩
          · have h := ho2.out.1
            rw [List.set_set, ← HCC.out, ← padded_lt bs k (by have := HL.out; omega), roomTo_step bs k (by have := HL.out; omega)] at h
            rw [padded_lt bs k (by have := HL.out; omega), HCC.out] at h
            exact h
          · exact (HB.out.setCell (Nat.le_refl _) _).setCell (Nat.le_refl _) _
        case measure => simp [intOf]; omega
      · have HO' := hide ho'
        clear ho' hg'
        go_wp2
        go_roundw
        case rel =>
          refine ⟨k + 1, by omega, by go_num, ?_, ?_⟩
          · have h := HO'.out
            rw [← padded_ge bs k (by have := HL.out; omega) (by have := HL.out; omega), roomTo_step bs k (by have := HL.out; omega),
              padded_ge bs k (by have := HL.out; omega) (by have := HL.out; omega)] at h
            exact h
          · exact HB.out.setCell (Nat.le_refl _) _
        case measure => simp [intOf]; omega
    · have hk' : k = len + 64 := by omega
      subst hk'
      go_wp2
      go_ret
      refine ⟨w.heap.size, rfl, Nat.le_refl _, ?_, HB.out⟩
      have h := HO.out
      rw [← HL.out, roomTo_end] at h
      rw [HL.out] at h
      exact h
theorem take_padded (bs : List (BitVec 8)) : (padded bs).take bs.length = bs := by simp [padded]
set_option maxHeartbeats 1000000 in
set_option maxRecDepth 10000 in
set_option maxRecDepth 100000 in
theorem kept_any (g a : Option Addr) (cg len cap : Nat) (bs : List (BitVec 8)) (w : World) (hg : Rd w g (len + 64) (padded bs)) (hr : Rd w a len bs) (hm : len ≤ 140737488351232) :
    Calls Try.prog 9 #[.slice g (len + 64) cg, .slice a len cap] w fun e w' => e = .returned (.bool true) ∧ Below w.heap.size w w' := by
  obtain ⟨hl, _, hc⟩ := hr
  obtain ⟨_, _, hcg⟩ := hg
  have HL := hide hl
  have HC := hide hc
  have HG := hide hcg
  clear hl hc hcg
  have q0 : ((len : Int) + 64 != (len : Int) + 64) = false := by simp
  go_enter Try.func9, Try.ntmps9
  go_wp2
  go_loopw [5] (fun i wr => ∃ k : Nat, k ≤ len + 64 ∧ i = .int .i64 k ∧ ∃ n, wr = w.drewN n) (fun i _ => len + 64 - (intOf i).toNat)
  case atStart => exact ⟨0, Nat.zero_le _, rfl, 0, rfl⟩
  case round =>
    obtain ⟨k, hk, rfl, n, rfl⟩ := hrel
    by_cases hlt : k < len + 64
    · obtain ⟨b1, o1, rfl, hb1, hc1⟩ := unhide HG (by omega)
      have g1 := hc1 k hlt
      clear hc1
      have hki : (k : Int) < (len : Int) + 64 := by omega
      by_cases hkl : k < len
      · obtain ⟨b2, o2, rfl, hb2, hc2⟩ := unhide HC (by omega)
        have g2 := hc2 k hkl
        clear hc2
        rw [padded_lt bs k (by have := HL.out; omega)] at g1
        generalize bs.getD k 0 = x at g1 g2
        have hkj : (k : Int) < (len : Int) := by omega
        have d1 : decide ((k : Int) < (len : Int)) = true := by simpa using hkl
        have d2 : decide ((len : Int) ≤ (k : Int)) = false := by rw [decide_eq_false_iff_not]; omega
        have d3 : decide (k < len) = true := by simpa using hkl
        have d4 : decide (len ≤ k) = false := by rw [decide_eq_false_iff_not]; omega
        have q1 : ((x.toNat : Int) != (x.toNat : Int)) = false := by simp
        go_wp2
        go_quiet (fail)
        go_wp2
        go_roundw
        case rel => exact ⟨k + 1, by omega, by go_num, n + nq, rfl⟩
        case measure => simp [intOf]; omega
      · rw [padded_ge bs k (by have := HL.out; omega) (by have := HL.out; omega)] at g1
        have g1' : w.cell? ⟨b1, o1 + k, none⟩ = some (.int .u8 150) := g1
        clear g1
        have d1 : decide ((k : Int) < (len : Int)) = false := by simpa using hkl
        have d2 : decide ((len : Int) ≤ (k : Int)) = true := by rw [decide_eq_true_iff]; omega
        have d3 : decide (k < len) = false := by simpa using hkl
        have d4 : decide (len ≤ k) = true := by rw [decide_eq_true_iff]; omega
        go_wp2
        go_quiet (fail)
        go_wp2
        go_roundw
        case rel => exact ⟨k + 1, by omega, by go_num, n + nq, rfl⟩
        case measure => simp [intOf]; omega
    · go_wp2
      go_ret
      exact ⟨rfl, below_drewN' _ _ _⟩
end Go.Proofs.Ytcchknpgkcmneaa.Nums
