/-
  What the program tells of places: their slot, how far they are alike, whether a match pays; the table of places.
-/
import Derived.Test.YthdblnfohbldcaaGreatBlModJ
import Derived.Test.YthdblnfohbldcaaGreatCrcLenJ
import Derived.Deep.RegionHeld
namespace Go.Proofs.YthdblnfohbldcaaGreat.Lz
open Go.ChangeShapes Go.WideShapes Go.ChangeAt Go.RowKit
open Go.Proofs.YthdblnfohbldcaaGreat.Base Go.Proofs.YthdblnfohbldcaaGreat.Nums
set_option linter.unusedVariables false
def wstep (W : Nat) (c : BitVec 8) : Nat := (W * 256 % 4294967296) ||| c.toNat
def slotW (W : Nat) : Nat := W * 2654435761 % 4294967296 / 262144
def slotOf (x : Txt) (i : Nat) : Nat := slotW (wstep (wstep (wstep (wstep 0 (gd x i)) (gd x (i + 1))) (gd x (i + 2))) (gd x (i + 3)))
theorem slotOf_lt (x : Txt) (i : Nat) : slotOf x i < 16384 := by unfold slotOf slotW; omega
theorem slotOf_same (x : Txt) (j i : Nat) (h : same4 x j i = true) : slotOf x j = slotOf x i := by
  unfold same4 at h
  rw [decide_eq_true_iff] at h
  unfold slotOf
  rw [h.1, h.2.1, h.2.2.1, h.2.2.2]
theorem wstep_lt (W : Nat) (c : BitVec 8) : wstep W c < 4294967296 := by
  have h : wstep W c < 2 ^ 32 := Nat.or_lt_two_pow (by omega) (by have := lt8 c; omega)
  omega
def wordTo (x : Txt) (i : Nat) : Nat → Nat
  | 0 => 0
  | k + 1 => wstep (wordTo x i k) (gd x (i + k))
theorem wordTo_lt (x : Txt) (i k : Nat) : wordTo x i k < 4294967296 := by
  cases k with
  | zero => simp [wordTo]
  | succ k => exact wstep_lt _ _
theorem wordTo_four (x : Txt) (i : Nat) : slotW (wordTo x i 4) = slotOf x i := rfl
theorem or_step (W : Nat) (c : BitVec 8) : bits .or .u32 ((W : Int) * 256 % 4294967296) (c.toNat : Int) = (wstep W c : Nat) := by
  have e : (W : Int) * 256 % 4294967296 = ((W * 256 % 4294967296 : Nat) : Int) := by omega
  rw [e, u32_or_nat _ _ (by omega) (by have := lt8 c; omega)]; rfl
set_option maxHeartbeats 1000000 in
set_option maxRecDepth 100000 in
theorem slot_any (b off len cap i : Nat) (x : Txt) (w : World) (hr : Rd w (some ⟨b, off, none⟩) len x) (hcap : len ≤ cap) (hm : cap ≤ 9223372036854775807) (hi : i + 4 ≤ len) :
    Calls Tryz.prog 91 #[.slice (some ⟨b, off, none⟩) len cap, .int .i64 (i : Int)] w fun e w' => e = .returned (.int .i64 (slotOf x i : Nat)) ∧ w' = w := by
  have HR := hide hr
  have hlm := hr.2.1
  clear hr
  go_enter Tryz.func91, Tryz.ntmps91
  go_wp2_with fail
  go_loopw [5, 7, 14] (fun o y z wr => ∃ (W k : Nat), k ≤ 4 ∧ W < 4294967296 ∧ o = .int .u32 (W : Int) ∧ z = .int .i64 (k : Int) ∧ wr = w ∧ Hid (W = wordTo x i k)) (fun _ _ z _ => 4 - (intOf z).toNat)
  case atStart => exact ⟨0, 0, by omega, by omega, rfl, rfl, rfl, rfl⟩
  case round =>
    obtain ⟨W, k, hk, hW, rfl, rfl, rfl, HW⟩ := hrel
    have hWi : (W : Int) ≤ 4294967295 := by omega
    clear hW
    by_cases hlt : k < 4
    · have hc := HR.out.2.2 (by omega)
      obtain ⟨b', off', e, _, hc⟩ := hc
      cases e
      have g1 := hc (i + k) (by omega)
      rw [← Nat.add_assoc] at g1
      have hstep := or_step W (x.getD (i + k) 0)
      have HW2 : Hid (wstep W (x.getD (i + k) 0) = wordTo x i (k + 1)) := by show _ = _; rw [HW.out]; rfl
      have hlt2 := wstep_lt W (x.getD (i + k) 0)
      have HLT := hide hlt2
      generalize wstep W (x.getD (i + k) 0) = W2 at hstep HW2 HLT
      generalize x.getD (i + k) 0 = c at g1 hstep
      clear hc hlt2
      go_wp2_with fail
      go_roundw
      case rel => exact ⟨W2, k + 1, by omega, HLT.out, by first | rfl | rw [hstep], by go_num, by first | trivial | rfl, HW2⟩
      case measure => simp [intOf]; omega
    · have hk4 : k = 4 := by omega
      subst hk4
      have HE : Hid (slotOf x i = W * 2654435761 % 4294967296 / 262144) := by
        show _ = _; rw [← wordTo_four, ← HW.out]; rfl
      go_wp2_with fail
      go_ret
      exact ⟨ret_int (by rw [HE.out]; omega), rfl⟩
set_option maxHeartbeats 1000000 in
set_option maxRecDepth 100000 in
theorem alike_any (b off len cap j i most : Nat) (x : Txt) (w : World) (hr : Rd w (some ⟨b, off, none⟩) len x) (hcap : len ≤ cap) (hm : cap ≤ 9223372036854775807) (hj : j < i) (hi : i + most ≤ len) (h4 : 4 ≤ most) :
    Calls Tryz.prog 92 #[.slice (some ⟨b, off, none⟩) len cap, .int .i64 (j : Int), .int .i64 (i : Int), .int .i64 (most : Int)] w fun e w' => e = .returned (.int .i64 (runFrom x j i most 4 : Nat)) ∧ Below w.heap.size w w' := by
  have HR := hide hr
  have hlm := hr.2.1
  clear hr
  go_enter Tryz.func92, Tryz.ntmps92
  go_wp2_with fail
  go_loopw [9] (fun z wr => ∃ k : Nat, k ≤ most ∧ 4 ≤ k ∧ z = .int .i64 (k : Int) ∧ Hid (runFrom x j i most 4 = runFrom x j i most k) ∧ ∃ n, wr = w.drewN n) (fun z _ => most - (intOf z).toNat)
  case atStart => exact ⟨4, h4, by omega, rfl, rfl, 0, rfl⟩
  case round =>
    obtain ⟨k, hk, hk4, rfl, HE, n, rfl⟩ := hrel
    by_cases hlt : k < most
    · obtain ⟨b', off', e, _, hc⟩ := HR.out.2.2 (by omega)
      cases e
      have g1 := hc (j + k) (by omega)
      have g2 := hc (i + k) (by omega)
      clear hc
      have hki : (k : Int) < (most : Int) := by omega
      generalize hX : x.getD (j + k) 0 = X at g1
      generalize hY : x.getD (i + k) 0 = Y at g2
      have HX := hide hX
      have HY := hide hY
      clear hX hY
      have hdk : decide ((k : Int) < (most : Int)) = true := by simpa using hlt
      by_cases hxy : X = Y
      · subst hxy
        have hq : ((X.toNat : Int) == (X.toNat : Int)) = true := by simp
        have HE2 : Hid (runFrom x j i most 4 = runFrom x j i most (k + 1)) := by
          show _ = _; rw [HE.out]; exact runFrom_go x j i most k hlt (by unfold gd; rw [HX.out, HY.out])
        go_wp2
        go_quiet (fail)
        go_wp2
        go_roundw
        case rel => exact ⟨k + 1, by omega, by omega, by go_num, HE2, n + nq, rfl⟩
        case measure => simp [intOf]; omega
      · have hq : ((X.toNat : Int) == (Y.toNat : Int)) = false := by
          rw [beq_eq_false_iff_ne]; intro h; exact hxy (BitVec.eq_of_toNat_eq (by omega))
        have HE2 : Hid (runFrom x j i most 4 = k) := by
          show _ = _; rw [HE.out]; exact runFrom_stop x j i most k (by unfold gd; rw [HX.out, HY.out]; exact fun h => hxy h.2)
        go_wp2
        go_quiet (fail)
        go_wp2
        go_ret
        exact ⟨ret_int (by rw [HE2.out]), (below_drewN' _ _ _).trans (below_drewN' _ _ _)⟩
    · have HE2 : Hid (runFrom x j i most 4 = k) := by
        show _ = _; rw [HE.out]; exact runFrom_stop x j i most k (by omega)
      have hki : ¬ (k : Int) < (most : Int) := by omega
      have hdk : decide ((k : Int) < (most : Int)) = false := by simpa using hlt
      go_wp2
      go_quiet (fail)
      go_wp2
      go_ret
      exact ⟨ret_int (by rw [HE2.out]), (below_drewN' _ _ _).trans (below_drewN' _ _ _)⟩
end Go.Proofs.YthdblnfohbldcaaGreat.Lz
/-
  The table of places.
-/
namespace Go.Proofs.YthdblnfohbldcaaGreat.Lz
open Go.ChangeShapes Go.WideShapes Go.ChangeAt Go.RowKit
open Go.Proofs.YthdblnfohbldcaaGreat.Base Go.Proofs.YthdblnfohbldcaaGreat.Nums
set_option linter.unusedVariables false
theorem bits_put (d : Nat) (h0 : 1 ≤ d) (h : d < 2097152) : (Lib.bitLen d + 6) / 7 = (put d).length := by
  have hl := Crc.lt_bitLen d (by omega)
  have up : ∀ k, k ≤ 64 → d < 2 ^ k → Lib.bitLen d ≤ k := fun k hk hd => Lib.bitLen_le d k hk hd
  have lo : ∀ k, 2 ^ k ≤ d → k < Lib.bitLen d := by
    intro k hk
    rcases Nat.lt_or_ge k (Lib.bitLen d) with h1 | h1
    · exact h1
    · have := Nat.pow_le_pow_right (n := 2) (by omega) h1; omega
  by_cases h1 : d < 128
  · rw [put_small d h1]
    have a1 := up 7 (by omega) (by omega)
    have a2 := lo 0 (by omega)
    show _ = 1
    omega
  · rw [put_large d (by omega), List.length_cons]
    have a2 := lo 7 (by omega)
    by_cases h2 : d / 128 < 128
    · rw [put_small _ h2]
      have a1 := up 14 (by omega) (by omega)
      show _ = 1 + 1
      omega
    · rw [put_large _ (by omega), List.length_cons, put_small _ (by omega)]
      have a1 := up 21 (by omega) (by omega)
      have a3 := lo 14 (by omega)
      show _ = 1 + 1 + 1
      omega
set_option maxHeartbeats 1000000 in
set_option maxRecDepth 100000 in
theorem pays_any (d l : Nat) (w : World) (h0 : 1 ≤ d) (h1 : d ≤ 65536) (hl : l ≤ 65536) :
    Calls Tryz.prog 93 #[.int .i64 (d : Int), .int .i64 (l : Int)] w fun e w' => e = .returned (.bool (pays d l)) ∧ w' = w := by
  have HP := hide (bits_put d h0 (by omega))
  have HB := Crc.bitLen_64 d (by omega)
  have hdi : (d : Int) ≤ 65536 := by omega
  have hd1 : (1 : Int) ≤ (d : Int) := by omega
  clear h0 h1
  go_enter Tryz.func93, Tryz.ntmps93
  go_wp2_with fail
  refine (Crc.len_any d w (by omega)).mono ?_
  rintro e w1 ⟨rfl, rfl⟩
  generalize Lib.bitLen d = B at HP HB
  have hBi : (B : Int) ≤ 64 := by omega
  obtain ⟨q, hq⟩ : ∃ q, (B + 6) / 7 = q := ⟨_, rfl⟩
  have HE : Hid (pays d l = decide (3 + q ≤ l)) := by show _ = _; unfold pays; rw [← HP.out, hq]
  clear HB
  go_wp2_with fail
  go_ret
  exact ⟨ret_bool (by rw [HE.out]; apply decide_eq_decide.2; omega), rfl⟩
/-- The table in block g when the places below c have been added. -/
def Tbl (w : World) (g : Nat) (x : Txt) (c : Nat) : Prop := ∃ A : Array Value, w.heap[g]? = some (.cells A 93) ∧ A.size = 49152 ∧ (∀ s, s < 16384 → A[s]? = some (.int .u16 (prev (slotOf x) s c : Nat))) ∧
  ∀ k, k < 32768 → ∃ v : Nat, A[16384 + k]? = some (.int .u16 (v : Int)) ∧ ∀ j, j < c → c - j ≤ 32768 → j % 32768 = k → v = prev (slotOf x) (slotOf x j) j
theorem Tbl.last {w : World} {g : Nat} {x : Txt} {c : Nat} (h : Tbl w g x c) (s : Nat) (hs : s < 16384) : w.cell? ⟨g, s, none⟩ = some (.int .u16 (prev (slotOf x) s c : Nat)) := by
  obtain ⟨A, h1, _, h3, _⟩ := h
  rw [cell_of_row _ _ _ _ _ _ h1]; exact h3 s hs
theorem Tbl.ahead {w : World} {g : Nat} {x : Txt} {c : Nat} (h : Tbl w g x c) (k : Nat) (hk : k < 32768) : ∃ v : Nat, w.cell? ⟨g, 16384 + k, none⟩ = some (.int .u16 (v : Int)) ∧ ∀ j, j < c → c - j ≤ 32768 → j % 32768 = k → v = prev (slotOf x) (slotOf x j) j := by
  obtain ⟨A, h1, _, _, h4⟩ := h
  rw [cell_of_row _ _ _ _ _ _ h1]; exact h4 k hk
theorem Tbl.fr {w : World} {g : Nat} {x : Txt} {c : Nat} (h : Tbl w g x c) (k : Nat) : w.frozen? ⟨g, k, none⟩ = false := by
  obtain ⟨A, h1, _⟩ := h
  exact frozen_of_row _ _ _ _ _ h1
theorem Tbl.lt {w : World} {g : Nat} {x : Txt} {c : Nat} (h : Tbl w g x c) : g < w.heap.size := block_lt_of_cell (h.last 0 (by omega))
theorem Tbl.grown {w w' : World} {g : Nat} {x : Txt} {c : Nat} {r : Option Nat} (h : Tbl w g x c) (hg : w.grownBy w' r) (hr : r ≠ some g) : Tbl w' g x c := by
  have hl := h.lt
  obtain ⟨A, h1, h2⟩ := h
  exact ⟨A, by rw [hg.block g hl (fun e => hr e.symm)]; exact h1, h2⟩
theorem Tbl.below {w w' : World} {g : Nat} {x : Txt} {c : Nat} (h : Tbl w g x c) (hb : Below w.heap.size w w') : Tbl w' g x c := h.grown (below_grown hb) (by simp)
theorem Tbl.drew {w : World} {g : Nat} {x : Txt} {c : Nat} (h : Tbl w g x c) : Tbl w.drew g x c := h
/-- The place c is added. -/
theorem Tbl.add {w : World} {g : Nat} {x : Txt} {c : Nat} (h : Tbl w g x c) (hc : c < 65536) : Tbl ((w.setCell ⟨g, 16384 + c % 32768, none⟩ (.int .u16 (prev (slotOf x) (slotOf x c) c : Nat))).setCell ⟨g, slotOf x c, none⟩ (.int .u16 ((c + 1 : Nat) : Int))) g x (c + 1) := by
  obtain ⟨A, h1, h2, h3, h4⟩ := h
  have hs := slotOf_lt x c
  refine ⟨_, heap_setCell_same _ _ _ _ _ _ (heap_setCell_same _ _ _ _ _ _ h1), by simp [h2], fun s hsl => ?_, fun k hk => ?_⟩
  · by_cases e : slotOf x c = s
    · subst e
      simp only [prev]
      rw [if_pos trivial]
      simp [Array.getElem?_setIfInBounds, h2]; omega
    · simp only [prev]
      rw [if_neg e]
      rw [Array.getElem?_setIfInBounds, if_neg e, Array.getElem?_setIfInBounds, if_neg (by omega)]
      exact h3 s hsl
  · by_cases e : c % 32768 = k
    · refine ⟨prev (slotOf x) (slotOf x c) c, ?_, fun j hj hd hm => ?_⟩
      · rw [Array.getElem?_setIfInBounds, if_neg (by omega), Array.getElem?_setIfInBounds, if_pos (by omega), if_pos (by omega)]
      · have : j = c := by omega
        subst this; rfl
    · obtain ⟨v, g1, g2⟩ := h4 k hk
      refine ⟨v, ?_, fun j hj hd hm => g2 j (by
        by_cases hjc : j = c
        · subst hjc; omega
        · omega) (by omega) hm⟩
      rw [Array.getElem?_setIfInBounds, if_neg (by omega), Array.getElem?_setIfInBounds, if_neg (by omega)]
      exact g1
set_option maxHeartbeats 1000000 in
set_option maxRecDepth 100000 in
theorem add_few (a : Option Addr) (len cap i g : Nat) (w : World) (hi : len < i + 4) (hl : len ≤ 65536) (hi2 : i ≤ len) :
    Calls Tryz.prog 52 #[.pointer (some ⟨g, 0, none⟩), .slice a len cap, .int .i64 (i : Int)] w fun e w' => e = .returned (.tuple #[]) ∧ w' = w := by
  have h1 : (len : Int) - (i : Int) < 4 := by omega
  have h2 : (len : Int) ≤ 65536 := by omega
  have h3 : (i : Int) ≤ 65536 := by omega
  clear hi hl hi2
  go_enter Tryz.func52, Tryz.ntmps52
  go_wp2_with fail
  refine bodyPost_ret (results_none rfl _ _ _) rfl ?_
  exact ⟨rfl, rfl⟩
theorem slot_named (b off len cap i s : Nat) (x : Txt) (w : World) (hr : Rd w (some ⟨b, off, none⟩) len x) (hcap : len ≤ cap) (hm : cap ≤ 9223372036854775807) (hi : i + 4 ≤ len) (hs : slotOf x i = s) :
    Calls Tryz.prog 91 #[.slice (some ⟨b, off, none⟩) len cap, .int .i64 (i : Int)] w fun e w' => e = .returned (.int .i64 (s : Int)) ∧ w' = w := by
  have h := slot_any b off len cap i x w hr hcap hm hi
  rw [hs] at h
  exact h
/-- What the adding of the place c does, by names. -/
theorem add_facts {w : World} {g : Nat} {x : Txt} {c : Nat} (h : Tbl w g x c) (hc : c < 65536) : ∃ s k pv v : Nat, Hid (slotOf x c = s) ∧ (s : Int) ≤ 16383 ∧ (c : Int) % 32768 = (k : Int) ∧ (k : Int) ≤ 32767 ∧ w.cell? ⟨g, s, none⟩ = some (.int .u16 (pv : Int)) ∧ w.cell? ⟨g, 16384 + k, none⟩ = some (.int .u16 (v : Int)) ∧ w.frozen? ⟨g, s, none⟩ = false ∧ w.frozen? ⟨g, 16384 + k, none⟩ = false ∧ 16384 + k ≠ s ∧
    Hid (∀ u : Int, u = (c : Int) + 1 → Tbl ((w.setCell ⟨g, 16384 + k, none⟩ (.int .u16 (pv : Int))).setCell ⟨g, s, none⟩ (.int .u16 u)) g x (c + 1)) := by
  obtain ⟨v, hv, _⟩ := h.ahead (c % 32768) (by omega)
  have hs := slotOf_lt x c
  refine ⟨slotOf x c, c % 32768, prev (slotOf x) (slotOf x c) c, v, rfl, by omega, by omega, by omega, h.last _ hs, hv, h.fr _, h.fr _, by omega, fun u hu => ?_⟩
  have := h.add hc
  subst hu
  exact this
theorem grown_two {w : World} {g : Nat} (a b : Nat) (u v : Value) : w.grownBy ((w.setCell ⟨g, a, none⟩ u).setCell ⟨g, b, none⟩ v) (some g) := grown_cell (grown_cell (World.grownBy.refl _ _) a u) b v
theorem grown_drew {w w' : World} {r : Option Nat} (h : w.grownBy w' r) : w.grownBy w'.drew r := ⟨h.os, h.tape, h.output, h.size, h.block⟩
set_option maxHeartbeats 1000000 in
set_option maxRecDepth 100000 in
theorem add_any (b off len cap i g : Nat) (x : Txt) (w : World) (hr : Rd w (some ⟨b, off, none⟩) len x) (hcap : len ≤ cap) (hm : cap ≤ 9223372036854775807) (hi : i + 4 ≤ len) (hl : len ≤ 65536) (ht : Tbl w g x i) :
    Calls Tryz.prog 52 #[.pointer (some ⟨g, 0, none⟩), .slice (some ⟨b, off, none⟩) len cap, .int .i64 (i : Int)] w fun e w' => e = .returned (.tuple #[]) ∧ Tbl w' g x (i + 1) ∧ w.grownBy w' (some g) := by
  have hlm := hr.2.1
  obtain ⟨s, k, pv, v, HS, hs, hk, hk2, c1, c2, f1, f2, hne, HA⟩ := add_facts ht (by omega)
  have HSL := hide (slot_named b off len cap i s x w hr hcap hm hi HS.out)
  have hil : (i : Int) ≤ 65532 := by omega
  have h4 : ¬ (len : Int) - (i : Int) < 4 := by omega
  have hli : (len : Int) ≤ 65536 := by omega
  clear hr ht hi hl HS
  go_enter Tryz.func52, Tryz.ntmps52
  go_wp2_with fail
  refine HSL.out.mono ?_
  rintro e w1 ⟨rfl, rfl⟩
  clear HSL
  go_wp2_with fail
  go_region
  go_wp2_with fail
  go_end0
  exact ⟨rfl, Tbl.drew (HA.out _ rfl), grown_drew (grown_two _ _ _ _)⟩
end Go.Proofs.YthdblnfohbldcaaGreat.Lz
/-
  The table, new: its cells are zeros.
-/
namespace Go.Proofs.YthdblnfohbldcaaGreat.Lz
open Go.ChangeShapes Go.WideShapes Go.ChangeAt Go.RowKit
open Go.Proofs.YthdblnfohbldcaaGreat.Base Go.Proofs.YthdblnfohbldcaaGreat.Nums
set_option linter.unusedVariables false
def isZ (v : Value) : Bool := match v with | .int .u16 n => n == 0 | _ => false
theorem isZ_eq (v : Value) (h : isZ v = true) : v = .int .u16 0 := by
  unfold isZ at h
  split at h
  · simp at h; rw [h]
  · cases h
theorem rep_eq (l : List Value) : ∀ n, (List.rec (motive := fun _ => Nat → Bool) (fun n => n.beq 0) (fun v _ ih n => Nat.casesOn (motive := fun _ => Bool) n false (fun m => Bool.rec (motive := fun _ => Bool) false (ih m) (isZ v))) l : Nat → Bool) n = true → l = List.replicate n (.int .u16 0) := by
  induction l with
  | nil =>
    intro n h
    cases n with
    | zero => rfl
    | succ n => cases h
  | cons v l ih =>
    intro n h
    cases n with
    | zero => cases h
    | succ n =>
      have h1 : Bool.rec (motive := fun _ => Bool) false ((List.rec (motive := fun _ => Nat → Bool) (fun n => n.beq 0) (fun v _ ih n => Nat.casesOn (motive := fun _ => Bool) n false (fun m => Bool.rec (motive := fun _ => Bool) false (ih m) (isZ v))) l : Nat → Bool) n) (isZ v) = true := h
      cases hz : isZ v with
      | false => rw [hz] at h1; cases h1
      | true =>
        rw [hz] at h1
        rw [isZ_eq v hz, ih n h1, List.replicate_succ]
theorem z_check : (match Tryz.t93.zero with | some (.agg cs) => (List.rec (motive := fun _ => Nat → Bool) (fun n => n.beq 0) (fun v _ ih n => Nat.casesOn (motive := fun _ => Bool) n false (fun m => Bool.rec (motive := fun _ => Bool) false (ih m) (isZ v))) cs.toList : Nat → Bool) 49152 | _ => false) = true := by kernel_rfl
theorem z_info : Tryz.prog.info? 93 = some Tryz.t93 := by kernel_rfl
theorem z_cells : ∃ cs : Array Value, Tryz.t93.zero = some (.agg cs) ∧ cs.toList = List.replicate 49152 (.int .u16 0) := by
  have h := z_check
  split at h
  · rename_i cs e; exact ⟨cs, e, rep_eq _ _ h⟩
  · cases h
theorem zero_places : ∃ cs : Array Value, (∀ W, (zeroValue 93).run Tryz.prog W = .ok (.agg cs) W) ∧ Hid (cs.toList = List.replicate 49152 (.int .u16 0)) := by
  obtain ⟨cs, h1, h2⟩ := z_cells
  refine ⟨cs, fun W => ?_, h2⟩
  simp [zeroValue, typeInfo, z_info, h1]
theorem tbl_new (w : World) (cs : Array Value) (x : Txt) (h : cs.toList = List.replicate 49152 (.int .u16 0)) : Tbl (w.alloc (.cells cs 93)) w.heap.size x 0 := by
  have hg : ∀ k, k < 49152 → cs[k]? = some (.int .u16 0) := by
    intro k hk
    rw [← Array.getElem?_toList, h, List.getElem?_replicate, if_pos hk]
  refine ⟨cs, heap_alloc_new _ _, by rw [← Array.length_toList, h, List.length_replicate], fun s hs => ?_, fun k hk => ⟨0, hg _ (by omega), fun j hj => by omega⟩⟩
  exact hg s (by omega)
end Go.Proofs.YthdblnfohbldcaaGreat.Lz
