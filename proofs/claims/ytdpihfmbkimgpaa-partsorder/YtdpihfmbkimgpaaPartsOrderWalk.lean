/-
  The walk of the statement PartsOrder.
-/
import Derived.Test.YtdpihfmbkimgpaaPaOrd
namespace Go.Proofs.Ytdpihfmbkimgpaa.partsOrder
open Go.ChangeShapes Go.WideShapes Go.ChangeAt Go.RowKit
open Go.Proofs.Ytdpihfmbkimgpaa.Base Go.Proofs.Ytdpihfmbkimgpaa.Pa
set_option linter.unusedVariables false
/-- A job of parts and bounds alone lies in the block g. -/
def JB (w : World) (g : Nat) (n : Int) (v : Value) : Prop := w.heap[g]? = some (.cells #[.int .i64 0, .int .i64 n, v, .bool false, .int .i64 0, .int .i64 0, .int .i64 0, .int .i64 0, .int .i64 0, .int .i64 0] 28)
theorem JB.lt {w : World} {g : Nat} {n : Int} {v : Value} (h : JB w g n v) : g < w.heap.size := (Array.getElem?_eq_some_iff.1 h).1
theorem JB.below {w w' : World} {g : Nat} {n : Int} {v : Value} (h : JB w g n v) (hb : Below w.heap.size w w') : JB w' g n v := (hb.block g h.lt).trans h
theorem JB.cells {w : World} {g : Nat} {n : Int} {v : Value} (h : JB w g n v) : w.cell? ⟨g, 0, none⟩ = some (.int .i64 0) ∧ w.cell? ⟨g, 1, none⟩ = some (.int .i64 n) ∧ w.cell? ⟨g, 2, none⟩ = some v ∧ w.cell? ⟨g, 3, none⟩ = some (.bool false) ∧ w.cell? ⟨g, 4, none⟩ = some (.int .i64 0) ∧ w.cell? ⟨g, 5, none⟩ = some (.int .i64 0) ∧ w.cell? ⟨g, 6, none⟩ = some (.int .i64 0) ∧ w.cell? ⟨g, 7, none⟩ = some (.int .i64 0) ∧ w.cell? ⟨g, 8, none⟩ = some (.int .i64 0) ∧ w.cell? ⟨g, 9, none⟩ = some (.int .i64 0) := by
  refine ⟨?_, ?_, ?_, ?_, ?_, ?_, ?_, ?_, ?_, ?_⟩ <;> (rw [cell_of_row _ _ _ _ _ _ h]; rfl)
def j0 : Jb := ⟨0, false, 0, 0, 0, 0, 0, 0⟩
set_option maxHeartbeats 4000000 in
set_option maxRecDepth 100000 in
theorem walk0 (a0 : Option Addr) (len0 cap0 : Nat) (ss0 : List ByteArray) (n : Int) (a2 : Option Addr) (len2 cap2 : Nat) (ss2 : List ByteArray) (w : World) (r0 : RdS w a0 len0 ss0) (r2 : RdS w a2 len2 ss2) (q2 : ∀ s ∈ ss2, s.size ≤ 140737488351232) :
    Calls Try.prog 7 #[.slice a0 len0 cap0, .int .i64 n, .slice a2 len2 cap2] w fun e w' => e = .returned (.bool true) ∧ Below w.heap.size w w' := by
  have hl2 := r2.2.1
  have H0 := hide r0
  have H2 := hide r2
  have Q2 := hide q2
  clear r0 r2 q2
  go_enter Try.func7, Try.ntmps7
  go_wp2_with fail
  refine (bounds_any a0 len0 cap0 ss0 n w H0.out).mono ?_
  rintro e w1 ⟨v1, rfl, ho1, hb1⟩
  obtain ⟨a1, c1, rfl⟩ := ho1.shape
  by_cases he : bErr ss0 n = 0
  · have HE := hide he
    rw [HE.out]
    obtain ⟨hn1, hn2⟩ := isParts_bounds (bErr_zero he).2.1
    clear he
    have HBL := hide (bndS_len HE.out)
    have HO1 := hide ho1
    have HB1 := hide hb1
    clear ho1 hb1
    obtain ⟨m, rfl⟩ : ∃ m : Nat, n = (m : Int) + 1 := ⟨n.toNat - 1, by omega⟩
    have hBL : (bndS ss0 ((m : Int) + 1)).length = m := by rw [HBL.out]; omega
    have HRS := hide (HO1.out.rds (by rw [hBL]; omega) (fun s hs => by have := bndS_short HE.out s hs; omega))
    rw [hBL] at HRS ⊢
    clear hBL
    have HOL : Hid (∀ k, (ofP (bndS ss0 ((m : Int) + 1)) ((m : Int) + 1) k : Int) < (m : Int) + 1) := fun k => of_lt HE.out k
    have HOM : Hid (∀ x y, cmpT x y ≤ 0 → ofP (bndS ss0 ((m : Int) + 1)) ((m : Int) + 1) x ≤ ofP (bndS ss0 ((m : Int) + 1)) ((m : Int) + 1) y) := fun x y h => of_mono HE.out h
    have HHL : Hid (∀ k, (hashP k ((m : Int) + 1) : Int) < (m : Int) + 1) := fun k => hash_lt k (bErr_zero HE.out).2.1
    have HON : Hid (∀ k, ofP [] ((m : Int) + 1) k = hashP k ((m : Int) + 1)) := fun k => of_none (bErr_zero HE.out).2.1 k
    have HC9 : Hid (chk (bndS ss0 ((m : Int) + 1)) ((m : Int) + 1) = 0) := chk_bnd HE.out
    have HC10 : Hid (chk [] ((m : Int) + 1) = 0) := chk_none (bErr_zero HE.out).2.1
    generalize bndS ss0 ((m : Int) + 1) = B at HO1 HRS HOL HOM HC9
    have hq : ((m : Int) != (m : Int)) = false := by simp
    go_wp2_with fail
    have HA := hide ((Below.refl w1.heap.size w1).alloc (Nat.le_refl _) (.cells #[.int .i64 0, .int .i64 ((m : Int) + 1), .slice a1 m c1, .bool false, .int .i64 0, .int .i64 0, .int .i64 0, .int .i64 0, .int .i64 0, .int .i64 0] 28))
    have HA2 := hide (HA.out.alloc HA.out.size (.cells #[.int .i64 0, .int .i64 ((m : Int) + 1), .slice none 0 0, .bool false, .int .i64 0, .int .i64 0, .int .i64 0, .int .i64 0, .int .i64 0, .int .i64 0] 28))
    refine (check_any j0 ((m : Int) + 1) a1 m c1 B _ (HRS.out.below HA2.out)).mono ?_
    rintro e w2 ⟨rfl, hb2⟩
    rw [HC9.out]
    have j9 : JB w2 w1.heap.size ((m : Int) + 1) (.slice a1 m c1) := by
      unfold JB
      rw [hb2.block _ (by simp; omega)]
      rw [Below.heap_alloc _ _ _ (by simp)]
      simp [World.alloc, -World.alloc_eq]
    have j10 : JB w2 (w1.heap.size + 1) ((m : Int) + 1) (.slice none 0 0) := by
      unfold JB
      rw [hb2.block _ (by simp)]
      exact heap_two _ _ _
    generalize hg9 : w1.heap.size = g9 at j9 j10 ⊢
    obtain ⟨y0, y1, y2, y3, y4, y5, y6, y7, y8, y9⟩ := j10.cells
    have HB2 := hide (below_trans HB1.out (below_trans HA2.out hb2))
    have HRS2 := hide (HRS.out.below (below_trans HA2.out hb2))
    have J9 := hide j9
    have J10 := hide j10
    clear hb2 j9 j10 hg9 HA HA2 HRS HB1 HO1 HC9 HBL
    go_wp2_with fail
    refine (check_any j0 ((m : Int) + 1) none 0 0 [] w2 (rds_nil _)).mono ?_
    rintro e w3 ⟨rfl, hb3⟩
    rw [HC10.out]
    have HB3 := hide (below_trans HB2.out hb3)
    have HRS3 := hide (HRS2.out.below hb3)
    have I9 := hide (J9.out.below hb3)
    have I10 := hide (J10.out.below hb3)
    have H23 := hide (H2.out.below HB3.out)
    clear y0 y1 y2 y3 y4 y5 y6 y7 y8 y9 hb3 J9 J10 HB2 HRS2 H2 H0 HC10
    go_wp2_with fail
    go_loopw [11] (fun i wr => ∃ k : Nat, k ≤ len2 ∧ k ≤ 40 ∧ i = .int .i64 (k : Int) ∧ Hid (Below w3.heap.size w3 wr)) (fun i _ => len2 - (intOf i).toNat)
    case atStart => exact ⟨0, Nat.zero_le _, Nat.zero_le _, rfl, Below.refl _ _⟩
    case round =>
      rename World => V0
      obtain ⟨k, hk, hk4, rfl, HB⟩ := hrel
      by_cases hlt : k < len2
      · have hki : (k : Int) < (len2 : Int) := by omega
        by_cases h40 : k < 40
        · have h40i : (k : Int) < 40 := by omega
          obtain ⟨b2, o2, rfl, hb2l, hc2⟩ := (H23.out.below HB.out).2.2.2 (by omega)
          have kc := hc2 k hlt
          have HKL : Hid (b2 < V0.heap.size) := hb2l
          have HSZ := hide (Q2.out _ (getS_mem (i := k) (by rw [H23.out.1]; exact hlt)))
          have HP := hide (HOL.out (ss2.getD k ⟨#[]⟩))
          have HQ := hide (HHL.out (ss2.getD k ⟨#[]⟩))
          have HM1 : Hid (∀ x, cmpT x (ss2.getD k ⟨#[]⟩) ≤ 0 → ofP B ((m : Int) + 1) x ≤ ofP B ((m : Int) + 1) (ss2.getD k ⟨#[]⟩)) := fun x h => HOM.out x _ h
          have HM2 : Hid (∀ x, cmpT (ss2.getD k ⟨#[]⟩) x ≤ 0 → ofP B ((m : Int) + 1) (ss2.getD k ⟨#[]⟩) ≤ ofP B ((m : Int) + 1) x) := fun x h => HOM.out _ x h
          have HOF : Hid (∀ W, Below V0.heap.size V0 W → Calls Try.prog 21 #[.agg #[.int .i64 0, .int .i64 ((m : Int) + 1), .slice a1 m c1, .bool false, .int .i64 0, .int .i64 0, .int .i64 0, .int .i64 0, .int .i64 0, .int .i64 0], .string (ss2.getD k ⟨#[]⟩)] W fun e w' => e = .returned (.int .i64 (ofP B ((m : Int) + 1) (ss2.getD k ⟨#[]⟩) : Nat)) ∧ Below V0.heap.size V0 w') := fun W hW =>
            (of_any j0 ((m : Int) + 1) a1 m c1 B _ W (HRS3.out.below (below_trans HB.out hW)) HSZ.out).mono fun e w' ⟨h1, h2⟩ => ⟨h1, hW.trans (h2.mono hW.size)⟩
          have HOH : Hid (∀ W, Below V0.heap.size V0 W → Calls Try.prog 21 #[.agg #[.int .i64 0, .int .i64 ((m : Int) + 1), .slice none 0 0, .bool false, .int .i64 0, .int .i64 0, .int .i64 0, .int .i64 0, .int .i64 0, .int .i64 0], .string (ss2.getD k ⟨#[]⟩)] W fun e w' => e = .returned (.int .i64 (hashP (ss2.getD k ⟨#[]⟩) ((m : Int) + 1) : Nat)) ∧ Below V0.heap.size V0 w') := fun W hW =>
            (of_any j0 ((m : Int) + 1) none 0 0 [] _ W (rds_nil _) HSZ.out).mono fun e w' ⟨h1, h2⟩ => ⟨by rw [h1, HON.out], hW.trans (h2.mono hW.size)⟩
          have HHS : Hid (∀ W, Below V0.heap.size V0 W → Calls Try.prog 8 #[.string (ss2.getD k ⟨#[]⟩), .int .i64 ((m : Int) + 1)] W fun e w' => e = .returned (.int .i64 (hashP (ss2.getD k ⟨#[]⟩) ((m : Int) + 1) : Nat)) ∧ Below V0.heap.size V0 w') := fun W hW =>
            (hash_any _ ((m : Int) + 1) W HSZ.out).mono fun e w' ⟨h1, h2⟩ => ⟨h1, hW.trans (h2.mono hW.size)⟩
          have KC := hide kc
          have HSS : Hid (ss2.getD k ⟨#[]⟩ = ss2.getD k ⟨#[]⟩) := rfl
          generalize hs : ss2.getD k ⟨#[]⟩ = s at kc KC HSZ HP HQ HM1 HM2 HOF HOH HHS
          have HSK := hide hs
          clear hs HSS hc2
          generalize hPP : ofP B ((m : Int) + 1) s = P at HP HM1 HM2 HOF
          generalize hQQ : hashP s ((m : Int) + 1) = Q at HQ HOH HHS
          clear hQQ
          have HPP := hide hPP
          clear hPP
          have K9 := hide (I9.out.below HB.out)
          have K10 := hide (I10.out.below HB.out)
          obtain ⟨x0, x1, x2, x3, x4, x5, x6, x7, x8, x9⟩ := K9.out.cells
          go_wp2_with fail
          go_region_held (fun V => V.cell? ⟨b2, o2 + k, none⟩ = some (.string s) ∧ V.cell? ⟨g9, 0, none⟩ = some (.int .i64 0) ∧ V.cell? ⟨g9, 1, none⟩ = some (.int .i64 ((m : Int) + 1)) ∧ V.cell? ⟨g9, 2, none⟩ = some (.slice a1 m c1) ∧ V.cell? ⟨g9, 3, none⟩ = some (.bool false) ∧ V.cell? ⟨g9, 4, none⟩ = some (.int .i64 0) ∧ V.cell? ⟨g9, 5, none⟩ = some (.int .i64 0) ∧ V.cell? ⟨g9, 6, none⟩ = some (.int .i64 0) ∧ V.cell? ⟨g9, 7, none⟩ = some (.int .i64 0) ∧ V.cell? ⟨g9, 8, none⟩ = some (.int .i64 0) ∧ V.cell? ⟨g9, 9, none⟩ = some (.int .i64 0)) (first | go_keep | exact E8.out) (first
            | (go_at_call 21; refine (HOF.out _ ((Below.refl _ _).drew)).mono ?_; rintro e w6 ⟨rfl, hb6⟩; have HB6 := hide hb6; have E8 := hide (And.intro ((hb6.cell (p := ⟨b2, o2 + k, none⟩) HKL.out).trans KC.out) (K9.out.below hb6).cells); clear hb6))
          have kc6 := (HB6.out.cell (p := ⟨b2, o2 + k, none⟩) HKL.out).trans KC.out
          have K96 := hide (K9.out.below HB6.out)
          have K106 := hide (K10.out.below HB6.out)
          have KC6 := hide kc6
          clear x0 x1 x2 x3 x4 x5 x6 x7 x8 x9 kc
          obtain ⟨x0, x1, x2, x3, x4, x5, x6, x7, x8, x9⟩ := K106.out.cells
          go_wp2_with fail
          go_region_held (fun V => V.cell? ⟨b2, o2 + k, none⟩ = some (.string s) ∧ V.cell? ⟨g9 + 1, 0, none⟩ = some (.int .i64 0) ∧ V.cell? ⟨g9 + 1, 1, none⟩ = some (.int .i64 ((m : Int) + 1)) ∧ V.cell? ⟨g9 + 1, 2, none⟩ = some (.slice none 0 0) ∧ V.cell? ⟨g9 + 1, 3, none⟩ = some (.bool false) ∧ V.cell? ⟨g9 + 1, 4, none⟩ = some (.int .i64 0) ∧ V.cell? ⟨g9 + 1, 5, none⟩ = some (.int .i64 0) ∧ V.cell? ⟨g9 + 1, 6, none⟩ = some (.int .i64 0) ∧ V.cell? ⟨g9 + 1, 7, none⟩ = some (.int .i64 0) ∧ V.cell? ⟨g9 + 1, 8, none⟩ = some (.int .i64 0) ∧ V.cell? ⟨g9 + 1, 9, none⟩ = some (.int .i64 0)) (first | go_keep | exact E8.out) (first
            | (go_at_call 21; refine (HOH.out _ (HB6.out.drew)).mono ?_; rintro e w7 ⟨rfl, hb7⟩; have HB7 := hide hb7; have E8 := hide (And.intro ((hb7.cell (p := ⟨b2, o2 + k, none⟩) HKL.out).trans KC.out) (K10.out.below hb7).cells); clear hb7))
          have kc7 := (HB7.out.cell (p := ⟨b2, o2 + k, none⟩) HKL.out).trans KC.out
          have K97 := hide (K9.out.below HB7.out)
          clear x0 x1 x2 x3 x4 x5 x6 x7 x8 x9 kc6 KC6 K96 K106
          obtain ⟨x0, x1, x2, x3, x4, x5, x6, x7, x8, x9⟩ := K97.out.cells
          have hP := HP.out
          have hQ := HQ.out
          have d1 : decide ((P : Int) < 0) = false := decide_eq_false (by omega)
          have d2 : decide ((m : Int) + 1 ≤ (P : Int)) = false := decide_eq_false (by omega)
          have d3 : decide ((Q : Int) < 0) = false := decide_eq_false (by omega)
          have d4 : decide ((m : Int) + 1 ≤ (Q : Int)) = false := decide_eq_false (by omega)
          have d5 : ((P : Int) != (P : Int)) = false := by simp
          have d6 : ((Q : Int) != (Q : Int)) = false := by simp
          go_wp2_with fail
          go_region_held (fun V => V.cell? ⟨b2, o2 + k, none⟩ = some (.string s) ∧ V.cell? ⟨g9, 0, none⟩ = some (.int .i64 0) ∧ V.cell? ⟨g9, 1, none⟩ = some (.int .i64 ((m : Int) + 1)) ∧ V.cell? ⟨g9, 2, none⟩ = some (.slice a1 m c1) ∧ V.cell? ⟨g9, 3, none⟩ = some (.bool false) ∧ V.cell? ⟨g9, 4, none⟩ = some (.int .i64 0) ∧ V.cell? ⟨g9, 5, none⟩ = some (.int .i64 0) ∧ V.cell? ⟨g9, 6, none⟩ = some (.int .i64 0) ∧ V.cell? ⟨g9, 7, none⟩ = some (.int .i64 0) ∧ V.cell? ⟨g9, 8, none⟩ = some (.int .i64 0) ∧ V.cell? ⟨g9, 9, none⟩ = some (.int .i64 0)) (first | go_keep | exact E8.out | exact E9.out) (first
            | (go_at_call 21; refine (HOF.out _ (HB7.out.drew)).mono ?_; rintro e w8 ⟨rfl, hb8⟩; have HB8 := hide hb8; have E8 := hide (And.intro ((hb8.cell (p := ⟨b2, o2 + k, none⟩) HKL.out).trans KC.out) (K9.out.below hb8).cells); clear hb8)
            | (go_at_call 8; refine (HHS.out _ HB8.out).mono ?_; rintro e w9 ⟨rfl, hb9⟩; have HB9 := hide hb9; have E9 := hide (And.intro ((hb9.cell (p := ⟨b2, o2 + k, none⟩) HKL.out).trans KC.out) (K9.out.below hb9).cells); clear hb9))
          clear x0 x1 x2 x3 x4 x5 x6 x7 x8 x9 kc7 K97 d1 d2 d3 d4 d5 d6 hQ HQ HOH HHS HB6 HB7 HB8 E8 E9 K10
          go_wp2_with fail
          go_loopw [14] (fun i W2 => ∃ j : Nat, j ≤ k ∧ i = .int .i64 (j : Int) ∧ Hid (Below V0.heap.size V0 W2)) (fun i _ => k - (intOf i).toNat)
          case atStart => exact ⟨0, Nat.zero_le _, rfl, HB9⟩
          case round =>
            obtain ⟨j, hj, rfl, HBj⟩ := hrel
            by_cases hjl : j < k
            · have hji : (j : Int) < (k : Int) := by omega
              have hji2 : (j : Int) < (len2 : Int) := by omega
              have ck : wr.cell? ⟨b2, o2 + k, none⟩ = some (.string s) := (HBj.out.cell (p := ⟨b2, o2 + k, none⟩) HKL.out).trans KC.out
              obtain ⟨bb, oo, hbo, _, hcj⟩ := (H23.out.below HB.out).2.2.2 (by omega)
              cases hbo
              have cj0 := hcj j (by omega)
              have cj : wr.cell? ⟨b2, o2 + j, none⟩ = some (.string (ss2.getD j ⟨#[]⟩)) := (HBj.out.cell (p := ⟨b2, o2 + j, none⟩) HKL.out).trans cj0
              have CJ0 := hide cj0
              have HSJ := hide (Q2.out _ (getS_mem (i := j) (by rw [H23.out.1]; omega)))
              clear hcj cj0
              generalize ss2.getD j ⟨#[]⟩ = t at cj CJ0 HSJ
              have HN1 := hide (HM1.out t)
              have HN2 := hide (HM2.out t)
              have HN3 : Hid (cmpT t s = 0 → ofP B ((m : Int) + 1) t = P) := fun h => by rw [cmpT_eq.1 h]; exact HPP.out
              have HSW := hide (cmpT_swap t s)
              have HOT : Hid (∀ W, Below V0.heap.size V0 W → Calls Try.prog 21 #[.agg #[.int .i64 0, .int .i64 ((m : Int) + 1), .slice a1 m c1, .bool false, .int .i64 0, .int .i64 0, .int .i64 0, .int .i64 0, .int .i64 0, .int .i64 0], .string t] W fun e w' => e = .returned (.int .i64 (ofP B ((m : Int) + 1) t : Nat)) ∧ Below V0.heap.size V0 w') := fun W hW =>
                (of_any j0 ((m : Int) + 1) a1 m c1 B _ W (HRS3.out.below (below_trans HB.out hW)) HSJ.out).mono fun e w' ⟨h1, h2⟩ => ⟨h1, hW.trans (h2.mono hW.size)⟩
              generalize ofP B ((m : Int) + 1) t = O at HN1 HN2 HN3 HOT
              have HZS := hide (show s.size ≤ 9223372036854775807 by have := HSZ.out; omega)
              have HZT := hide (show t.size ≤ 9223372036854775807 by have := HSJ.out; omega)
              have HCD : Hid (∀ W, Calls Try.prog 17 #[.string t, .string s] W fun e w' => e = .returned (.int .i64 (cmpT t s)) ∧ ∃ q, w' = W.drewN q) := fun W => compareD t s W HZT.out HZS.out
              rw [HSW.out] at HN2
              generalize hx : cmpT t s = x at HN1 HN2 HN3 HCD
              clear hx
              go_wp2_with fail
              go_quiet (first | (go_at_call 17; exact Calls.quiet_of (HCD.out _)))
              have HBq := hide (below_trans HBj.out (below_drewN' wr.heap.size wr nq))
              have K9q := hide (K9.out.below HBq.out)
              have cjq := (HBq.out.cell (p := ⟨b2, o2 + j, none⟩) HKL.out).trans CJ0.out
              have E0 := hide (And.intro cjq K9q.out.cells)
              clear cj ck
              obtain ⟨x0, x1, x2, x3, x4, x5, x6, x7, x8, x9⟩ := K9q.out.cells
              go_wp2_with fail
              go_region_held (fun V => V.cell? ⟨b2, o2 + j, none⟩ = some (.string t) ∧ V.cell? ⟨g9, 0, none⟩ = some (.int .i64 0) ∧ V.cell? ⟨g9, 1, none⟩ = some (.int .i64 ((m : Int) + 1)) ∧ V.cell? ⟨g9, 2, none⟩ = some (.slice a1 m c1) ∧ V.cell? ⟨g9, 3, none⟩ = some (.bool false) ∧ V.cell? ⟨g9, 4, none⟩ = some (.int .i64 0) ∧ V.cell? ⟨g9, 5, none⟩ = some (.int .i64 0) ∧ V.cell? ⟨g9, 6, none⟩ = some (.int .i64 0) ∧ V.cell? ⟨g9, 7, none⟩ = some (.int .i64 0) ∧ V.cell? ⟨g9, 8, none⟩ = some (.int .i64 0) ∧ V.cell? ⟨g9, 9, none⟩ = some (.int .i64 0)) (first | exact E0.out | go_keep | exact E8.out) (first
                | (go_at_call 21; refine (HOT.out _ (HBq.out.drew)).mono ?_; rintro e w6 ⟨rfl, hb6⟩; have HB6 := hide hb6; have E8 := hide (And.intro ((hb6.cell (p := ⟨b2, o2 + j, none⟩) HKL.out).trans CJ0.out) (K9.out.below hb6).cells); clear hb6))
              clear x0 x1 x2 x3 x4 x5 x6 x7 x8 x9 cjq
              rcases Int.lt_trichotomy x 0 with hx | hx | hx
              · have hO := HN1.out (by omega)
                have hOi : ¬ (P : Int) < (O : Int) := by omega
                have hx2 : ¬ 0 < x := by omega
                have hx3 : ((x : Int) == 0) = false := by simp; omega
                go_wp2_with fail
                go_roundw
                case rel => exact ⟨j + 1, by omega, by go_num, HB6⟩
                case measure => (simp [intOf] <;> omega)
              · have hO := HN3.out hx
                subst hx
                subst hO
                have hOi : ((O : Int) != (O : Int)) = false := by simp
                go_wp2_with fail
                go_roundw
                case rel => exact ⟨j + 1, by omega, by go_num, HB6⟩
                case measure => (simp [intOf] <;> omega)
              · have hO := HN2.out (by omega)
                have hOi : ¬ (O : Int) < (P : Int) := by omega
                have hx2 : ¬ x < 0 := by omega
                have hx3 : ((x : Int) == 0) = false := by simp; omega
                go_wp2_with fail
                go_roundw
                case rel => exact ⟨j + 1, by omega, by go_num, HB6⟩
                case measure => (simp [intOf] <;> omega)
            · have hjk : j = k := by omega
              subst hjk
              have hji : ¬ (j : Int) < (j : Int) := by omega
              go_wp2_with fail
              go_roundw
              case rel => exact ⟨j + 1, by omega, by omega, by go_num, below_trans HB.out HBj.out⟩
              case measure => (simp [intOf] <;> omega)
        · have h40i : ¬ (k : Int) < 40 := by omega
          go_wp2_with fail
          go_ret
          exact ⟨rfl, below_trans HB3.out HB.out⟩
      · have hkl : k = len2 := by omega
        subst hkl
        have hki : ¬ (k : Int) < (k : Int) := by omega
        go_wp2_with fail
        go_ret
        exact ⟨rfl, below_trans HB3.out HB.out⟩
  · have HE := hide he
    have hz : (((bErr ss0 n : Nat) : Int) != 0) = true := by simp; omega
    have HL1 : Hid ((bndS ss0 n).length = 0) := hide (by unfold bndS; rw [if_neg he]; rfl)
    rw [HL1.out]
    generalize ((bErr ss0 n : Nat) : Int) = x at hz
    clear he ho1
    have HB1 := hide hb1
    clear hb1
    go_wp2_with fail
    refine (works_any w1).mono ?_
    rintro e w2 ⟨rfl, hb2⟩
    have HB2 := hide (below_trans HB1.out hb2)
    clear hb2
    go_wp2_with fail
    go_ret
    exact ⟨rfl, HB2.out⟩
theorem walk (a0 : Option Addr) (len0 cap0 : Nat) (ss0 : List ByteArray) (n : Int) (a2 : Option Addr) (len2 cap2 : Nat) (ss2 : List ByteArray) (w : World) (r0 : RdS w a0 len0 ss0) (l0 : len0 ≤ cap0) (m0 : cap0 ≤ 8796093021952) (z0 : a0 = none → len0 = 0 ∧ cap0 = 0) (y0 : ∀ s ∈ ss0, s.size ≤ 140737488351232) (w1 : (Lit.int .i64 n).wf = true) (r2 : RdS w a2 len2 ss2) (l2 : len2 ≤ cap2) (m2 : cap2 ≤ 8796093021952) (z2 : a2 = none → len2 = 0 ∧ cap2 = 0) (y2 : ∀ s ∈ ss2, s.size ≤ 140737488351232) :
    Calls Try.prog 7 #[.slice a0 len0 cap0, .int .i64 n, .slice a2 len2 cap2] w fun e w' => e = .returned (.bool true) ∧ Below w.heap.size w w' := walk0 a0 len0 cap0 ss0 n a2 len2 cap2 ss2 w r0 r2 y2
end Go.Proofs.Ytdpihfmbkimgpaa.partsOrder
