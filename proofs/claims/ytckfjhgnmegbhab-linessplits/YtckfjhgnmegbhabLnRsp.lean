/-
  The document's splits.
-/
import Derived.Test.YtckfjhgnmegbhabLnSplits
import Derived.Test.YtckfjhgnmegbhabLnRcut2
import Derived.Test.YtckfjhgnmegbhabLnRef
import Derived.BigQuiet
namespace Go.Proofs.Ytckfjhgnmegbhab.Ln
open Go.ChangeShapes Go.WideShapes Go.ChangeAt Go.RowKit
open Go.Proofs.Ytckfjhgnmegbhab.Base Go.Proofs.Ytckfjhgnmegbhab.Rf
set_option linter.unusedVariables false
/-- Where the first line begins that was seen, where the last one ends, behind j lines. -/
def fm (T : ByteArray) (F E j : Nat) : Int := if ix T F < min j (ix T E) then (pl T (ix T F) : Nat) else -1
def tm (T : ByteArray) (F E j : Nat) : Int := if ix T F < min j (ix T E) then (pl T (min j (ix T E)) : Nat) else 0
theorem fm_zero (T : ByteArray) (F E : Nat) : fm T F E 0 = -1 := by unfold fm; rw [if_neg (by omega)]
theorem tm_zero (T : ByteArray) (F E : Nat) : tm T F E 0 = 0 := by unfold tm; rw [if_neg (by omega)]
theorem fm_out (T : ByteArray) (F E j : Nat) (h : j < ix T F ∨ ix T E ≤ j) : fm T F E (j + 1) = fm T F E j ∧ tm T F E (j + 1) = tm T F E j := by
  unfold fm tm
  rcases h with h | h
  · rw [if_neg (by omega), if_neg (by omega), if_neg (by omega), if_neg (by omega)]; exact ⟨rfl, rfl⟩
  · rw [show min (j + 1) (ix T E) = ix T E by omega, show min j (ix T E) = ix T E by omega]; exact ⟨rfl, rfl⟩
theorem fm_in (T : ByteArray) (F E j : Nat) (h1 : ix T F ≤ j) (h2 : j < ix T E) : fm T F E (j + 1) = (pl T (ix T F) : Nat) ∧ tm T F E (j + 1) = (pl T (j + 1) : Nat) ∧ (fm T F E j = if ix T F = j then -1 else ((pl T (ix T F) : Nat) : Int)) := by
  unfold fm tm
  rw [show min (j + 1) (ix T E) = j + 1 by omega, show min j (ix T E) = j by omega, if_pos (by omega), if_pos (by omega)]
  refine ⟨rfl, rfl, ?_⟩
  by_cases e : ix T F = j
  · rw [if_neg (by omega), if_pos e]
  · rw [if_pos (by omega), if_neg e]
theorem fm_end (T : ByteArray) (F E : Nat) (hE : ix T E ≤ cnt T) : (ix T F < ix T E → fm T F E (cnt T) = (pl T (ix T F) : Nat) ∧ tm T F E (cnt T) = (pl T (ix T E) : Nat)) ∧ (¬ ix T F < ix T E → fm T F E (cnt T) = -1) := by
  unfold fm tm
  rw [show min (cnt T) (ix T E) = ix T E by omega]
  exact ⟨fun h => by rw [if_pos h, if_pos h]; exact ⟨rfl, rfl⟩, fun h => by rw [if_neg h]⟩
theorem ext_none (T : ByteArray) (a : Nat) : T.extract a a = ⟨#[]⟩ := by
  apply ByteArray.ext
  rw [ByteArray.data_extract]
  simp
  omega
theorem xf_len (T : ByteArray) (xs : List Int) (k : Nat) : (xf T xs k).length = 2 := rfl
theorem xf_one (T : ByteArray) (xs : List Int) (k : Nat) : ∀ u ∈ xf T xs k, u.oneCell' = true := by intro u hu; unfold xf at hu; simp at hu; rcases hu with rfl | rfl <;> rfl
theorem pf_len' (n : Nat) (xs : List Int) (k : Nat) : (pf n xs k).length = 2 := rfl
theorem lf3_len (T : ByteArray) (k : Nat) : (lf3 T k).length = 3 := rfl
set_option maxHeartbeats 4000000 in
set_option maxRecDepth 100000 in
theorem refSplits_ok (T : ByteArray) (a : Option Addr) (cap : Nat) (xs : List Int) (w : World) (hs : T.size ≤ 4194304) (hr : RdI w a xs.length xs) (hl : xs.length ≤ 255) :
    Calls Try.prog 6 #[.string T, .slice a xs.length cap] w fun e w' => ((∃ v, e = .returned (.tuple #[v, .int .i64 0]) ∧ fits T xs (xs.length + 1) ∧ OwnF w' w.heap.size 29 2 v (xs.length + 1) (xf T xs)) ∨ (e = .returned (.tuple #[.slice none 0 0, .int .i64 2]) ∧ ¬ fits T xs (xs.length + 1))) ∧ Below w.heap.size w w' := by
  have HCU := hide (refCut_ok T.size a cap xs w hs hr hl)
  have HAL : Hid (∀ W, Calls Try.prog 14 #[.string T] W fun e w' => ∃ v, e = .returned v ∧ OwnF w' W.heap.size 43 3 v (cnt T) (lf3 T) ∧ Below W.heap.size W w') := fun W => refAll_any T W (by omega)
  obtain ⟨len, hlen⟩ : ∃ len, xs.length = len := ⟨_, rfl⟩
  rw [hlen] at hl hr HCU ⊢
  have HLEN := hide hlen
  clear hlen
  have hsi : (T.size : Int) ≤ 4194304 := by omega
  have hli : (len : Int) ≤ 255 := by omega
  have HCL := hide (cnt_le T)
  clear hr
  go_enter Try.func6, Try.ntmps6
  go_upto_region 4 with (go_at_call 13; refine HCU.out.mono ?_; rintro e w1 ⟨vp, rfl, ho1, hb1⟩; have HP1 := hide ho1; have HB1 := hide hb1; clear ho1 hb1)
  obtain ⟨gp, cp, ep, _, _, hgp⟩ := HP1.out.has (by omega)
  subst ep
  go_upto_region 5 with (go_at_call 14; refine (HAL.out _).mono ?_; rintro e w2 ⟨vl, rfl, ho2, hb2⟩; obtain ⟨la, lc, el, _, _, _⟩ := ho2.shape; subst el; have HL2 := hide ho2; have HB2 := hide hb2; clear ho2 hb2)
  have HP2 := hide (HP1.out.below HB2.out)
  obtain ⟨C, hC⟩ : ∃ C, cnt T = C := ⟨_, rfl⟩
  rw [hC] at HL2 HCL ⊢
  have HC := hide hC
  have hCl : C ≤ 4194304 := by have := HCL.out; omega
  have hCi : (C : Int) ≤ 4194304 := by omega
  clear hC
  go_wp2_with fail
  go_loopw [9, 10] (fun l i wr => ∃ (v : Value) (k : Nat), v = l ∧ k ≤ len + 1 ∧ i = .int .i64 (k : Int) ∧ Hid (fits T xs k) ∧ Hid (OwnF wr w2.heap.size 29 2 l k (xf T xs)) ∧ Hid (Below w2.heap.size w2 wr)) (fun _ i _ => len + 1 - (intOf i).toNat)
  case atStart => exact ⟨_, 0, rfl, Nat.zero_le _, rfl, (fun j h => absurd h (Nat.not_lt_zero _)), ownf_none _ _ _ _ _, Below.refl _ _⟩
  case round =>
    obtain ⟨v, k, rfl, hk, rfl, HFT, HO, HB⟩ := hrel
    by_cases hlt : k < len + 1
    · have hki : (k : Int) < (len : Int) + 1 := by omega
      have hkx : k ≤ xs.length := by rw [HLEN.out]; omega
      have HPW := hide (HP2.out.below HB.out)
      have HLW := hide (HL2.out.below HB.out)
      have p0 : wr.cell? ⟨gp, k * 2, none⟩ = some (.int .i64 (pb T.size xs k : Nat)) := HPW.out.cellAt (fun _ => rfl) k 0 _ hlt (by omega) rfl
      have HLH := hide (lo_hi T xs k hkx)
      have HEB := hide (pe_int T.size xs k hkx).2
      have HPE := hide (pb_le T.size xs k hkx)
      have HLO := hide (lf_ix T (pb T.size xs k) (by have := HEB.out; have := HPE.out; omega))
      have HHI := hide (lf_ix T (pe T.size xs k) HEB.out)
      have HIM := hide (ix_mono T _ _ HPE.out)
      have HXF : Hid (xf T xs k = [.int .i64 (so T xs k : Nat), .string (T.extract (lo T xs k) (hi T xs k))]) := rfl
      have HSO : Hid (so T xs k = if lo T xs k = hi T xs k then pb T.size xs k else lo T xs k) := rfl
      have HFN : Hid (hi T xs k - lo T xs k ≤ 65536 → fits T xs (k + 1)) := fun h1 j hj => by
        by_cases e : j = k
        · rw [e]; exact h1
        · exact HFT.out j (by omega)
      have HFB : Hid (65536 < hi T xs k - lo T xs k → ¬ fits T xs (len + 1)) := fun h1 h2 => by have := h2 k (by omega); omega
      rw [show lf T (pb T.size xs k) = lo T xs k from rfl] at HLO
      rw [show lf T (pe T.size xs k) = hi T xs k from rfl] at HHI
      obtain ⟨P, hP⟩ : ∃ P, pb T.size xs k = P := ⟨_, rfl⟩
      obtain ⟨E, hE⟩ : ∃ E, pe T.size xs k = E := ⟨_, rfl⟩
      obtain ⟨L, hL⟩ : ∃ L, lo T xs k = L := ⟨_, rfl⟩
      obtain ⟨H, hH⟩ : ∃ H, hi T xs k = H := ⟨_, rfl⟩
      have HPP := hide hP
      have HEE := hide hE
      rw [hP] at p0 HSO HLO HPE HIM
      rw [hE] at HEB HHI HPE HIM
      rw [hL] at HLO
      rw [hH] at HHI
      rw [hL, hH] at HLH HXF HSO HFN HFB
      clear hP hE hL hH
      obtain ⟨hL1, hL2⟩ := HLH.out
      have hgpw : gp < wr.heap.size := by have := HB2.out.size; have := HB.out.size; omega
      go_wp2_with fail
      obtain ⟨w3, hw3⟩ : ∃ w3, wr.alloc (.cells #[.int .i64 (P : Int), .string ⟨#[]⟩] 29) = w3 := ⟨_, rfl⟩
      rw [hw3]
      have HB3 : Hid (Below wr.heap.size wr w3) := by rw [← hw3]; exact (Below.refl _ _).alloc (Nat.le_refl _) _
      have HC3 : Hid (w3.heap[wr.heap.size]? = some (.cells #[.int .i64 (P : Int), .string ⟨#[]⟩] 29)) := by rw [← hw3]; exact World.alloc_heap_new _ _
      obtain ⟨bx, hbx⟩ : ∃ b, wr.heap.size = b := ⟨_, rfl⟩
      rw [hbx] at HC3 ⊢
      have HBX := hide hbx
      clear hw3 hbx p0
      have HP3 := hide (HPW.out.below HB3.out)
      have HL3 := hide (HLW.out.below HB3.out)
      have p0 : w3.cell? ⟨gp, k * 2, none⟩ = some (.int .i64 (P : Nat)) := by rw [← HPP.out]; exact HP3.out.cellAt (fun _ => rfl) k 0 _ hlt (by omega) rfl
      have p1 : w3.cell? ⟨gp, k * 2 + 1, none⟩ = some (.int .i64 (E : Nat)) := by rw [← HEE.out]; exact HP3.out.cellAt (fun _ => rfl) k 1 _ hlt (by omega) rfl
      go_loopw [12, 13, 14] (fun f t i wr2 => ∃ (j n : Nat) (x y : Int), j ≤ C ∧ i = .int .i64 (j : Int) ∧ f = .int .i64 x ∧ t = .int .i64 y ∧ Hid (x = fm T P E j) ∧ Hid (y = tm T P E j) ∧ wr2 = w3.drewN n) (fun _ _ i _ => C - (intOf i).toNat)
      case atStart => exact ⟨0, 0, -1, 0, Nat.zero_le _, rfl, rfl, rfl, (fm_zero T P E).symm, (tm_zero T P E).symm, rfl⟩
      case round =>
        obtain ⟨j, n, x, y, hj, rfl, rfl, rfl, HX, HY, rfl⟩ := hrel
        by_cases hjl : j < C
        · have hji : (j : Int) < (C : Int) := by omega
          obtain ⟨gl, cl, el, _, _, _⟩ := HL3.out.has (by omega)
          simp only [Value.slice.injEq] at el
          obtain ⟨rfl, _, rfl⟩ := el
          have c0 : w3.cell? ⟨gl, j * 3, none⟩ = some (.int .i64 (pl T j : Nat)) := HL3.out.cellAt (lf3_len T) j 0 _ hjl (by omega) rfl
          have c2 : w3.cell? ⟨gl, j * 3 + 2, none⟩ = some (.int .i64 (pl T (j + 1) : Nat)) := HL3.out.cellAt (lf3_len T) j 2 _ hjl (by omega) rfl
          have HJC : Hid (j < cnt T) := by rw [HC.out]; exact hjl
          have HIL := hide (ix_lt T P j)
          have HIG := hide (fun h => ix_ge T P j h HJC.out)
          have HEL := hide (ix_lt T E j)
          have HEG := hide (fun h => ix_ge T E j h HJC.out)
          have HPS := hide (pl_step T j HJC.out)
          obtain ⟨A, hA⟩ : ∃ A, pl T j = A := ⟨_, rfl⟩
          obtain ⟨B, hB⟩ : ∃ B, pl T (j + 1) = B := ⟨_, rfl⟩
          have HAA := hide hA
          have HBB := hide hB
          rw [hA] at c0 HIL HIG HEL HEG HPS
          rw [hB] at c2 HPS
          clear hA hB
          by_cases h1 : j < ix T P
          · have h2 : decide (P ≤ A) = false := by have := HIL.out h1; simp; omega
            have h2i : decide ((P : Int) ≤ (A : Int)) = false := by have := HIL.out h1; simp; omega
            have HO2 := hide (fm_out T P E j (.inl h1))
            go_wp2_with fail
            go_quiet (fail)
            go_wp2_with fail
            go_roundw
            case rel => exact ⟨j + 1, n + nq, x, y, hjl, by go_num, rfl, rfl, HX.out.trans HO2.out.1.symm, HY.out.trans HO2.out.2.symm, rfl⟩
            case measure => simp [intOf]; omega
          · have h2 : decide (P ≤ A) = true := by have := HIG.out (by omega); simp; omega
            have h2i : decide ((P : Int) ≤ (A : Int)) = true := by have := HIG.out (by omega); simp; omega
            by_cases h3 : j < ix T E
            · have h4 : decide (A < E) = true := by have := HEL.out h3; simp; omega
              have h4i : decide ((A : Int) < (E : Int)) = true := by have := HEL.out h3; simp; omega
              have HI2 := hide (fm_in T P E j (by omega) h3)
              by_cases h5 : ix T P = j
              · have hx : x < 0 := by rw [HX.out, HI2.out.2.2, if_pos h5]; omega
                go_wp2_with fail
                go_quiet (fail)
                go_wp2_with fail
                go_roundw
                case rel => exact ⟨j + 1, n + nq, A, B, hjl, by go_num, rfl, rfl, (by show (A : Int) = _; rw [HI2.out.1, h5, HAA.out]), (by show (B : Int) = _; rw [HI2.out.2.1, HBB.out]), rfl⟩
                case measure => simp [intOf]; omega
              · have hx : ¬ x < 0 := by rw [HX.out, HI2.out.2.2, if_neg h5]; omega
                go_wp2_with fail
                go_quiet (fail)
                go_wp2_with fail
                go_roundw
                case rel => exact ⟨j + 1, n + nq, x, B, hjl, by go_num, rfl, rfl, (by show x = _; rw [HX.out, HI2.out.1, HI2.out.2.2, if_neg h5]), (by show (B : Int) = _; rw [HI2.out.2.1, HBB.out]), rfl⟩
                case measure => simp [intOf]; omega
            · have h4 : decide (A < E) = false := by have := HEG.out (by omega); simp; omega
              have h4i : decide ((A : Int) < (E : Int)) = false := by have := HEG.out (by omega); simp; omega
              have HO2 := hide (fm_out T P E j (.inr (by omega)))
              go_wp2_with fail
              go_quiet (fail)
              go_wp2_with fail
              go_roundw
              case rel => exact ⟨j + 1, n + nq, x, y, hjl, by go_num, rfl, rfl, HX.out.trans HO2.out.1.symm, HY.out.trans HO2.out.2.symm, rfl⟩
              case measure => simp [intOf]; omega
        · obtain rfl : C = j := by omega
          have HFE := hide (fm_end T P E (ix_le T E))
          rw [HC.out] at HFE
          by_cases hne : ix T P < ix T E
          · obtain rfl : x = (L : Int) := by rw [HX.out, (HFE.out.1 hne).1, HLO.out]
            obtain rfl : y = (H : Int) := by rw [HY.out, (HFE.out.1 hne).2, HHI.out]
            have HLT : Hid (L < H) := by show L < H; rw [HLO.out, HHI.out]; exact pl_lt_pl T _ _ hne (ix_le T E)
            have hHi : (H : Int) ≤ (T.size : Int) := by omega
            have hLHi : (L : Int) ≤ (H : Int) := by omega
            obtain ⟨D, hD⟩ : ∃ D, H - L = D := ⟨_, rfl⟩
            rw [hD] at HFN HFB
            have HX2 : Hid (xf T xs k = [.int .i64 (L : Int), .string (T.extract L H)]) := by show xf T xs k = _; rw [HXF.out, HSO.out, if_neg (by have := HLT.out; omega)]
            have hsz : (T.extract L H).size = D := by rw [ByteArray.size_extract]; omega
            obtain ⟨q0, q1⟩ := cell2 HC3.out
            have z0 := frozen_of_row w3 bx 0 _ _ HC3.out
            have z1 := frozen_of_row w3 bx 1 _ _ HC3.out
            clear hD
            go_upto_region 21 with (fail)
            obtain ⟨w4, hw4⟩ : ∃ w4, ((w3.drewN n).setCell ⟨bx, 0, none⟩ (.int .i64 (L : Int))).setCell ⟨bx, 1, none⟩ (.string (T.extract L H)) = w4 := ⟨_, rfl⟩
            rw [hw4]
            have HC4 : Hid (w4.heap[bx]? = some (.cells #[.int .i64 (L : Int), .string (T.extract L H)] 29)) := by
              rw [← hw4]
              exact heap_setCell_same _ _ 1 _ _ _ (heap_setCell_same _ _ 0 _ _ _ (by show w3.heap[bx]? = _; exact HC3.out))
            have HB34 : Hid (Below bx w3 w4) := by
              rw [← hw4]
              have h0 : Below bx w3 (w3.drewN n) := below_drewN' _ _ _
              exact Below.setCell (Below.setCell h0 (p := ⟨bx, 0, none⟩) (Nat.le_refl bx) _) (p := ⟨bx, 1, none⟩) (Nat.le_refl bx) _
            have HBR4 : Hid (Below wr.heap.size wr w4) := HB3.out.trans (by rw [HBX.out]; exact HB34.out)
            clear hw4 q0 q1 z0 z1 p0 p1
            have HB24 := hide (below_trans HB.out HBR4.out)
            have HO4 := hide (HO.out.below HBR4.out)
            obtain ⟨q0, q1⟩ := cell2 HC4.out
            by_cases hbig : 65536 < D
            · have hbi : (65536 : Int) < (D : Int) := by omega
              go_wp2_with fail
              go_ret2
              exact ⟨.inr ⟨rfl, HFB.out hbig⟩, below_trans HB1.out (below_trans HB2.out HB24.out)⟩
            have hbi : ¬ (65536 : Int) < (D : Int) := by omega
            obtain ⟨wa, hwa⟩ : ∃ wa, w4.alloc (.cells #[.int .i64 (L : Int), .string (T.extract L H)] 29) = wa := ⟨_, rfl⟩
            have HW : Hid (∀ (j : Nat) (u : Value), (xf T xs k)[j]? = some u → wa.cell? ((⟨w4.heap.size, 0, none⟩ : Addr).add j) = some u) := fun j u h => by rw [HX2.out] at h; rw [← hwa]; exact news w4 _ _ j u h
            have HBA : Hid (Below w4.heap.size w4 wa) := by rw [← hwa]; exact (Below.refl _ _).alloc (Nat.le_refl _) _
            have HOA := hide (HO4.out.below HBA.out)
            have HBW := hide (below_trans HB24.out HBA.out)
            go_wp2_with (at_builtin; refine pushF wa rfl _ _ rfl Try.underlying24 infoX rfl (by omega) (by omega) w2.heap.size v k (xf T xs) (xf_len T xs k) rfl HOA.out ⟨w4.heap.size, 0, none⟩ 1 rfl HW.out (xf_one T xs k) (by omega) (by have := HBW.out.size; omega) ?_; intro g' c' w' ho' hg'; have HO5 := hide ho'; have HB5 := hide (grown_own HBW.out HOA.out (Nat.le_refl _) hg'); clear ho' hg')
            go_roundw
            case rel => exact ⟨_, k + 1, rfl, hlt, by go_num, HFN.out (by omega), HO5.out, HB5.out⟩
            case measure => simp [intOf]; omega
          · obtain rfl : x = -1 := by rw [HX.out, HFE.out.2 hne]
            have HEQ : Hid (L = H) := by show L = H; rw [HLO.out, HHI.out, show ix T P = ix T E by have := HIM.out; omega]
            have HX2 : Hid (xf T xs k = [.int .i64 (P : Int), .string ⟨#[]⟩]) := by show xf T xs k = _; rw [HXF.out, HSO.out, if_pos HEQ.out, HEQ.out, ext_none]
            obtain ⟨w4, hw4⟩ : ∃ w4, w3.drewN n = w4 := ⟨_, rfl⟩
            rw [hw4]
            have HC4 : Hid (w4.heap[bx]? = some (.cells #[.int .i64 (P : Int), .string ⟨#[]⟩] 29)) := by rw [← hw4]; show w3.heap[bx]? = _; exact HC3.out
            have HB34 : Hid (Below w3.heap.size w3 w4) := by rw [← hw4]; exact below_drewN' _ _ _
            have HBR4 := hide (below_trans HB3.out HB34.out)
            clear hw4 p0 p1
            have HB24 := hide (below_trans HB.out HBR4.out)
            have HO4 := hide (HO.out.below HBR4.out)
            obtain ⟨q0, q1⟩ := cell2 HC4.out
            have HFN' : Hid (H - L ≤ 65536) := by show H - L ≤ _; have := HEQ.out; omega
            obtain ⟨wa, hwa⟩ : ∃ wa, w4.alloc (.cells #[.int .i64 (P : Int), .string ⟨#[]⟩] 29) = wa := ⟨_, rfl⟩
            have HW : Hid (∀ (j : Nat) (u : Value), (xf T xs k)[j]? = some u → wa.cell? ((⟨w4.heap.size, 0, none⟩ : Addr).add j) = some u) := fun j u h => by rw [HX2.out] at h; rw [← hwa]; exact news w4 _ _ j u h
            have HBA : Hid (Below w4.heap.size w4 wa) := by rw [← hwa]; exact (Below.refl _ _).alloc (Nat.le_refl _) _
            have HOA := hide (HO4.out.below HBA.out)
            have HBW := hide (below_trans HB24.out HBA.out)
            go_wp2_with (at_builtin; refine pushF wa rfl _ _ rfl Try.underlying24 infoX rfl (by omega) (by omega) w2.heap.size v k (xf T xs) (xf_len T xs k) rfl HOA.out ⟨w4.heap.size, 0, none⟩ 1 rfl HW.out (xf_one T xs k) (by omega) (by have := HBW.out.size; omega) ?_; intro g' c' w' ho' hg'; have HO5 := hide ho'; have HB5 := hide (grown_own HBW.out HOA.out (Nat.le_refl _) hg'); clear ho' hg')
            go_roundw
            case rel => exact ⟨_, k + 1, rfl, hlt, by go_num, HFN.out HFN'.out, HO5.out, HB5.out⟩
            case measure => simp [intOf]; omega
    · obtain rfl : k = len + 1 := by omega
      go_wp2_with fail
      go_ret2
      refine ⟨.inl ⟨_, rfl, HFT.out, HO.out.mono (by have := HB1.out.size; have := HB2.out.size; omega)⟩, below_trans HB1.out (below_trans HB2.out HB.out)⟩
end Go.Proofs.Ytckfjhgnmegbhab.Ln
