/-
  The table of places.
-/
import Derived.Test.YthdblnfohbldcaaGreatLzE1
namespace Go.Proofs.YthdblnfohbldcaaGreat.Lz
open Go.ChangeShapes Go.WideShapes Go.ChangeAt Go.RowKit
open Go.Proofs.YthdblnfohbldcaaGreat.Base Go.Proofs.YthdblnfohbldcaaGreat.Nums
set_option linter.unusedVariables false
theorem bits_put (d : Nat) (h0 : 1 ≤ d) (h : d < 2097152) : (Lib.bitLen d + 6) / 7 = (put d).length := by
  have hl := Crc.lt_bitLen d (by omega)
  have up : ∀ k, k ≤ 64 → d < 2 ^ k → Lib.bitLen d ≤ k := fun k hk hd => Lib.bitLen_le d k hk hd
  have lo : ∀ k, 2 ^ k ≤ d → k < Lib.bitLen d := by
    intro k hk
    rcases Nat.lt_or_ge k (Lib.bitLen d) with h1 | h1
    · exact h1
    · have := Nat.pow_le_pow_right (n := 2) (by omega) h1; omega
  by_cases h1 : d < 128
  · rw [put_small d h1]
    have a1 := up 7 (by omega) (by omega)
    have a2 := lo 0 (by omega)
    show _ = 1
    omega
  · rw [put_large d (by omega), List.length_cons]
    have a2 := lo 7 (by omega)
    by_cases h2 : d / 128 < 128
    · rw [put_small _ h2]
      have a1 := up 14 (by omega) (by omega)
      show _ = 1 + 1
      omega
    · rw [put_large _ (by omega), List.length_cons, put_small _ (by omega)]
      have a1 := up 21 (by omega) (by omega)
      have a3 := lo 14 (by omega)
      show _ = 1 + 1 + 1
      omega
set_option maxHeartbeats 1000000 in
set_option maxRecDepth 100000 in
theorem pays_any (d l : Nat) (w : World) (h0 : 1 ≤ d) (h1 : d ≤ 65536) (hl : l ≤ 65536) :
    Calls Tryz.prog 93 #[.int .i64 (d : Int), .int .i64 (l : Int)] w fun e w' => e = .returned (.bool (pays d l)) ∧ w' = w := by
  have HP := hide (bits_put d h0 (by omega))
  have HB := Crc.bitLen_64 d (by omega)
  have hdi : (d : Int) ≤ 65536 := by omega
  have hd1 : (1 : Int) ≤ (d : Int) := by omega
  clear h0 h1
  go_enter Tryz.func93, Tryz.ntmps93
  go_wp2_with fail
  refine (Crc.len_any d w (by omega)).mono ?_
  rintro e w1 ⟨rfl, rfl⟩
  generalize Lib.bitLen d = B at HP HB
  have hBi : (B : Int) ≤ 64 := by omega
  obtain ⟨q, hq⟩ : ∃ q, (B + 6) / 7 = q := ⟨_, rfl⟩
  have HE : Hid (pays d l = decide (3 + q ≤ l)) := by show _ = _; unfold pays; rw [← HP.out, hq]
  clear HB
  go_wp2_with fail
  go_ret
  exact ⟨ret_bool (by rw [HE.out]; apply decide_eq_decide.2; omega), rfl⟩
/-- The table in block g when the places below c have been added. -/
def Tbl (w : World) (g : Nat) (x : Txt) (c : Nat) : Prop := ∃ A : Array Value, w.heap[g]? = some (.cells A 93) ∧ A.size = 49152 ∧ (∀ s, s < 16384 → A[s]? = some (.int .u16 (prev (slotOf x) s c : Nat))) ∧
  ∀ k, k < 32768 → ∃ v : Nat, A[16384 + k]? = some (.int .u16 (v : Int)) ∧ ∀ j, j < c → c - j ≤ 32768 → j % 32768 = k → v = prev (slotOf x) (slotOf x j) j
theorem Tbl.last {w : World} {g : Nat} {x : Txt} {c : Nat} (h : Tbl w g x c) (s : Nat) (hs : s < 16384) : w.cell? ⟨g, s, none⟩ = some (.int .u16 (prev (slotOf x) s c : Nat)) := by
  obtain ⟨A, h1, _, h3, _⟩ := h
  rw [cell_of_row _ _ _ _ _ _ h1]; exact h3 s hs
theorem Tbl.ahead {w : World} {g : Nat} {x : Txt} {c : Nat} (h : Tbl w g x c) (k : Nat) (hk : k < 32768) : ∃ v : Nat, w.cell? ⟨g, 16384 + k, none⟩ = some (.int .u16 (v : Int)) ∧ ∀ j, j < c → c - j ≤ 32768 → j % 32768 = k → v = prev (slotOf x) (slotOf x j) j := by
  obtain ⟨A, h1, _, _, h4⟩ := h
  rw [cell_of_row _ _ _ _ _ _ h1]; exact h4 k hk
theorem Tbl.fr {w : World} {g : Nat} {x : Txt} {c : Nat} (h : Tbl w g x c) (k : Nat) : w.frozen? ⟨g, k, none⟩ = false := by
  obtain ⟨A, h1, _⟩ := h
  exact frozen_of_row _ _ _ _ _ h1
theorem Tbl.lt {w : World} {g : Nat} {x : Txt} {c : Nat} (h : Tbl w g x c) : g < w.heap.size := block_lt_of_cell (h.last 0 (by omega))
theorem Tbl.grown {w w' : World} {g : Nat} {x : Txt} {c : Nat} {r : Option Nat} (h : Tbl w g x c) (hg : w.grownBy w' r) (hr : r ≠ some g) : Tbl w' g x c := by
  have hl := h.lt
  obtain ⟨A, h1, h2⟩ := h
  exact ⟨A, by rw [hg.block g hl (fun e => hr e.symm)]; exact h1, h2⟩
theorem Tbl.below {w w' : World} {g : Nat} {x : Txt} {c : Nat} (h : Tbl w g x c) (hb : Below w.heap.size w w') : Tbl w' g x c := h.grown (below_grown hb) (by simp)
theorem Tbl.drew {w : World} {g : Nat} {x : Txt} {c : Nat} (h : Tbl w g x c) : Tbl w.drew g x c := h
/-- The place c is added. -/
theorem Tbl.add {w : World} {g : Nat} {x : Txt} {c : Nat} (h : Tbl w g x c) (hc : c < 65536) : Tbl ((w.setCell ⟨g, 16384 + c % 32768, none⟩ (.int .u16 (prev (slotOf x) (slotOf x c) c : Nat))).setCell ⟨g, slotOf x c, none⟩ (.int .u16 ((c + 1 : Nat) : Int))) g x (c + 1) := by
  obtain ⟨A, h1, h2, h3, h4⟩ := h
  have hs := slotOf_lt x c
  refine ⟨_, heap_setCell_same _ _ _ _ _ _ (heap_setCell_same _ _ _ _ _ _ h1), by simp [h2], fun s hsl => ?_, fun k hk => ?_⟩
  · by_cases e : slotOf x c = s
    · subst e
      simp only [prev]
      rw [if_pos trivial]
      simp [Array.getElem?_setIfInBounds, h2]; omega
    · simp only [prev]
      rw [if_neg e]
      rw [Array.getElem?_setIfInBounds, if_neg e, Array.getElem?_setIfInBounds, if_neg (by omega)]
      exact h3 s hsl
  · by_cases e : c % 32768 = k
    · refine ⟨prev (slotOf x) (slotOf x c) c, ?_, fun j hj hd hm => ?_⟩
      · rw [Array.getElem?_setIfInBounds, if_neg (by omega), Array.getElem?_setIfInBounds, if_pos (by omega), if_pos (by omega)]
      · have : j = c := by omega
        subst this; rfl
    · obtain ⟨v, g1, g2⟩ := h4 k hk
      refine ⟨v, ?_, fun j hj hd hm => g2 j (by
        by_cases hjc : j = c
        · subst hjc; omega
        · omega) (by omega) hm⟩
      rw [Array.getElem?_setIfInBounds, if_neg (by omega), Array.getElem?_setIfInBounds, if_neg (by omega)]
      exact g1
set_option maxHeartbeats 1000000 in
set_option maxRecDepth 100000 in
theorem add_few (a : Option Addr) (len cap i g : Nat) (w : World) (hi : len < i + 4) (hl : len ≤ 65536) (hi2 : i ≤ len) :
    Calls Tryz.prog 52 #[.pointer (some ⟨g, 0, none⟩), .slice a len cap, .int .i64 (i : Int)] w fun e w' => e = .returned (.tuple #[]) ∧ w' = w := by
  have h1 : (len : Int) - (i : Int) < 4 := by omega
  have h2 : (len : Int) ≤ 65536 := by omega
  have h3 : (i : Int) ≤ 65536 := by omega
  clear hi hl hi2
  go_enter Tryz.func52, Tryz.ntmps52
  go_wp2_with fail
  refine bodyPost_ret (results_none rfl _ _ _) rfl ?_
  exact ⟨rfl, rfl⟩
theorem slot_named (b off len cap i s : Nat) (x : Txt) (w : World) (hr : Rd w (some ⟨b, off, none⟩) len x) (hcap : len ≤ cap) (hm : cap ≤ 9223372036854775807) (hi : i + 4 ≤ len) (hs : slotOf x i = s) :
    Calls Tryz.prog 91 #[.slice (some ⟨b, off, none⟩) len cap, .int .i64 (i : Int)] w fun e w' => e = .returned (.int .i64 (s : Int)) ∧ w' = w := by
  have h := slot_any b off len cap i x w hr hcap hm hi
  rw [hs] at h
  exact h
/-- What the adding of the place c does, by names. -/
theorem add_facts {w : World} {g : Nat} {x : Txt} {c : Nat} (h : Tbl w g x c) (hc : c < 65536) : ∃ s k pv v : Nat, Hid (slotOf x c = s) ∧ (s : Int) ≤ 16383 ∧ (c : Int) % 32768 = (k : Int) ∧ (k : Int) ≤ 32767 ∧ w.cell? ⟨g, s, none⟩ = some (.int .u16 (pv : Int)) ∧ w.cell? ⟨g, 16384 + k, none⟩ = some (.int .u16 (v : Int)) ∧ w.frozen? ⟨g, s, none⟩ = false ∧ w.frozen? ⟨g, 16384 + k, none⟩ = false ∧ 16384 + k ≠ s ∧
    Hid (∀ u : Int, u = (c : Int) + 1 → Tbl ((w.setCell ⟨g, 16384 + k, none⟩ (.int .u16 (pv : Int))).setCell ⟨g, s, none⟩ (.int .u16 u)) g x (c + 1)) := by
  obtain ⟨v, hv, _⟩ := h.ahead (c % 32768) (by omega)
  have hs := slotOf_lt x c
  refine ⟨slotOf x c, c % 32768, prev (slotOf x) (slotOf x c) c, v, rfl, by omega, by omega, by omega, h.last _ hs, hv, h.fr _, h.fr _, by omega, fun u hu => ?_⟩
  have := h.add hc
  subst hu
  exact this
theorem grown_two {w : World} {g : Nat} (a b : Nat) (u v : Value) : w.grownBy ((w.setCell ⟨g, a, none⟩ u).setCell ⟨g, b, none⟩ v) (some g) := grown_cell (grown_cell (World.grownBy.refl _ _) a u) b v
theorem grown_drew {w w' : World} {r : Option Nat} (h : w.grownBy w' r) : w.grownBy w'.drew r := ⟨h.os, h.tape, h.output, h.size, h.block⟩
set_option maxHeartbeats 1000000 in
set_option maxRecDepth 100000 in
theorem add_any (b off len cap i g : Nat) (x : Txt) (w : World) (hr : Rd w (some ⟨b, off, none⟩) len x) (hcap : len ≤ cap) (hm : cap ≤ 9223372036854775807) (hi : i + 4 ≤ len) (hl : len ≤ 65536) (ht : Tbl w g x i) :
    Calls Tryz.prog 52 #[.pointer (some ⟨g, 0, none⟩), .slice (some ⟨b, off, none⟩) len cap, .int .i64 (i : Int)] w fun e w' => e = .returned (.tuple #[]) ∧ Tbl w' g x (i + 1) ∧ w.grownBy w' (some g) := by
  have hlm := hr.2.1
  obtain ⟨s, k, pv, v, HS, hs, hk, hk2, c1, c2, f1, f2, hne, HA⟩ := add_facts ht (by omega)
  have HSL := hide (slot_named b off len cap i s x w hr hcap hm hi HS.out)
  have hil : (i : Int) ≤ 65532 := by omega
  have h4 : ¬ (len : Int) - (i : Int) < 4 := by omega
  have hli : (len : Int) ≤ 65536 := by omega
  clear hr ht hi hl HS
  go_enter Tryz.func52, Tryz.ntmps52
  go_wp2_with fail
  refine HSL.out.mono ?_
  rintro e w1 ⟨rfl, rfl⟩
  clear HSL
  go_wp2_with fail
  go_region
  go_wp2_with fail
  go_end0
  exact ⟨rfl, Tbl.drew (HA.out _ rfl), grown_drew (grown_two _ _ _ _)⟩
end Go.Proofs.YthdblnfohbldcaaGreat.Lz
