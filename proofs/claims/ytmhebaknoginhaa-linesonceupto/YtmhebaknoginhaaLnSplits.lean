/-
  Splits: the splits of a text at places.
-/
import Derived.Test.YtmhebaknoginhaaLnCut3
import Derived.Test.YtmhebaknoginhaaLnOf
import Derived.Test.YtmhebaknoginhaaRowF3
namespace Go.Proofs.Ytmhebaknoginhaa.Ln
open Go.ChangeShapes Go.WideShapes Go.ChangeAt Go.RowKit
open Go.Proofs.Ytmhebaknoginhaa.Base Go.Proofs.Ytmhebaknoginhaa.Rf
set_option linter.unusedVariables false
theorem infoX : (Try.prog.info? 23).map (fun i => (i.zero, i.size, i.bytes)) = some (some (.agg #[.int .i64 0, .string ⟨#[]⟩]), 2, 24) := by kernel_rfl
/-- Where the lines of the piece number k begin and end. -/
def lo (T : ByteArray) (xs : List Int) (k : Nat) : Nat := lf T (pb T.size xs k)
def hi (T : ByteArray) (xs : List Int) (k : Nat) : Nat := lf T (pe T.size xs k)
/-- The split's offset. -/
def so (T : ByteArray) (xs : List Int) (k : Nat) : Nat := if lo T xs k = hi T xs k then pb T.size xs k else lo T xs k
/-- A split as an element. -/
def xf (T : ByteArray) (xs : List Int) (k : Nat) : List Value := [.int .i64 (so T xs k : Nat), .string (T.extract (lo T xs k) (hi T xs k))]
theorem lo_zero (T : ByteArray) (xs : List Int) : lo T xs 0 = 0 := rfl
theorem lo_succ (T : ByteArray) (xs : List Int) (k : Nat) : lo T xs (k + 1) = hi T xs k := by unfold lo hi; rw [pb_succ]
theorem lo_hi (T : ByteArray) (xs : List Int) (k : Nat) (h : k ≤ xs.length) : lo T xs k ≤ hi T xs k ∧ hi T xs k ≤ T.size := by
  have h1 := pb_le T.size xs k h
  have h2 := (pe_int T.size xs k h).2
  exact ⟨lf_mono T _ _ h1 h2, lf_le T _ h2⟩
/-- The number of splits ahead of the first that is too long. -/
def fits (T : ByteArray) (xs : List Int) (k : Nat) : Prop := ∀ j, j < k → hi T xs j - lo T xs j ≤ 65536
/-- The splits that are laid so far, then zeros. -/
def xk (T : ByteArray) (xs : List Int) (k j : Nat) : List Value := if j < k then xf T xs j else [.int .i64 0, .string ⟨#[]⟩]
theorem xk_len (T : ByteArray) (xs : List Int) (k j : Nat) : (xk T xs k j).length = 2 := by unfold xk; by_cases h : j < k <;> simp [h, xf]
set_option maxHeartbeats 4000000 in
set_option maxRecDepth 100000 in
theorem splits_walk (T : ByteArray) (a : Option Addr) (cap : Nat) (xs : List Int) (w : World) (hs : T.size ≤ 4194304) (hr : RdI w a xs.length xs) (hl : xs.length ≤ 255) :
    Calls Try.prog 24 #[.string T, .slice a xs.length cap] w fun e w' => ((∃ v, e = .returned (.tuple #[v, .int .i64 0]) ∧ fits T xs (xs.length + 1) ∧ OwnF w' w.heap.size 23 2 v (xs.length + 1) (xf T xs)) ∨ (e = .returned (.tuple #[.slice none 0 0, .int .i64 2]) ∧ ¬ fits T xs (xs.length + 1))) ∧ Below w.heap.size w w' := by
  have HCU := hide (cut_ok T.size a cap xs w hs hr hl)
  obtain ⟨len, hlen⟩ : ∃ len, xs.length = len := ⟨_, rfl⟩
  rw [hlen] at hl hr HCU ⊢
  have HLEN := hide hlen
  clear hlen
  obtain ⟨M, hM1, hM2, hM3⟩ := make_f (ts := 53) (z := 2) (by_ := 24) Try.underlying53 infoX rfl (by omega) (len + 1) (len + 1) (by omega) (by omega) (by omega)
  have hmk := hM3 ((len : Int) + 1) ((len : Int) + 1) (by omega) (by omega)
  have HMO : Hid (∀ (W : World) (base : Nat), base ≤ W.heap.size → OwnF (W.alloc (.cells M 23)) base 23 2 (.slice (some ⟨W.heap.size, 0, none⟩) (len + 1) (len + 1)) (len + 1) (xk T xs 0)) := fun W base hb =>
    (ownf_made (z := 2) (zv := .agg #[.int .i64 0, .string ⟨#[]⟩]) rfl (by omega) (len + 1) (len + 1) (by omega) (by unfold maxLen; omega) M hM1 hM2 W base hb).congr (fun k h => by unfold xk; rw [if_neg (by omega)]; rfl)
  have HLF : Hid (∀ W (p : Nat), p ≤ T.size → Calls Try.prog 29 #[.string T, .int .i64 (p : Int)] W fun e w' => e = .returned (.int .i64 (lf T p : Nat)) ∧ Below W.heap.size W w') := fun W p hp => lineFrom_any T p W (by omega) hp
  have hsi : (T.size : Int) ≤ 4194304 := by omega
  have hli : (len : Int) ≤ 255 := by omega
  clear hM1 hM2 hM3 hr
  go_enter Try.func24, Try.ntmps24
  go_upto_region 4 with (go_at_call 19; refine HCU.out.mono ?_; rintro e w1 ⟨vp, rfl, ho1, hb1⟩; have HP1 := hide ho1; have HB1 := hide hb1; clear ho1 hb1)
  obtain ⟨gp, cp, ep, _, _, _⟩ := HP1.out.has (by omega)
  subst ep
  obtain ⟨w2, hw2⟩ : ∃ w2, w1.alloc (.cells M 23) = w2 := ⟨_, rfl⟩
  have HO2 : Hid (OwnF w2 w1.heap.size 23 2 (.slice (some ⟨w1.heap.size, 0, none⟩) (len + 1) (len + 1)) (len + 1) (xk T xs 0)) := by rw [← hw2]; exact HMO.out w1 _ (Nat.le_refl _)
  have HB2 : Hid (Below w1.heap.size w1 w2) := by rw [← hw2]; exact (Below.refl _ _).alloc (Nat.le_refl _) _
  obtain ⟨gs, hgs⟩ : ∃ g, w1.heap.size = g := ⟨_, rfl⟩
  rw [hgs] at HO2
  have HGS := hide hgs
  go_wp2_with fail
  clear hmk hw2 hgs HMO
  go_loopw [9, 28] (fun fr i wr => ∃ k : Nat, k ≤ len + 1 ∧ i = .int .i64 (k : Int) ∧ fr = .int .i64 (lo T xs k : Nat) ∧ Hid (fits T xs k) ∧ Hid (OwnF wr gs 23 2 (.slice (some ⟨gs, 0, none⟩) (len + 1) (len + 1)) (len + 1) (xk T xs k)) ∧ Hid (Below gs w1 wr)) (fun _ i _ => len + 1 - (intOf i).toNat)
  case atStart => exact ⟨0, Nat.zero_le _, rfl, by rw [lo_zero]; rfl, (fun j h => absurd h (Nat.not_lt_zero _)), HO2.out, by rw [← HGS.out]; exact HB2.out⟩
  case round =>
    obtain ⟨k, hk, rfl, rfl, HFT, HO, HB⟩ := hrel
    by_cases hlt : k < len + 1
    · have hki : (k : Int) < (len : Int) + 1 := by omega
      have hkx : k ≤ xs.length := by rw [HLEN.out]; omega
      have HPW := hide (HP1.out.below (by rw [HGS.out]; exact HB.out))
      have p0 : wr.cell? ⟨gp, k * 2, none⟩ = some (.int .i64 (pb T.size xs k : Nat)) := HPW.out.cellAt (fun _ => rfl) k 0 _ hlt (by omega) rfl
      have p1 : wr.cell? ⟨gp, k * 2 + 1, none⟩ = some (.int .i64 (pe T.size xs k : Nat)) := HPW.out.cellAt (fun _ => rfl) k 1 _ hlt (by omega) rfl
      have HLH := hide (lo_hi T xs k hkx)
      have HEB := hide (pe_int T.size xs k hkx).2
      have HLO : Hid (lo T xs k = lf T (pb T.size xs k)) := rfl
      have HLS := hide (lo_succ T xs k)
      have HXF : Hid (xf T xs k = [.int .i64 (so T xs k : Nat), .string (T.extract (lo T xs k) (hi T xs k))]) := rfl
      have HSO : Hid (so T xs k = if lo T xs k = hi T xs k then pb T.size xs k else lo T xs k) := rfl
      have HLX := hide (HLF.out · (pe T.size xs k) HEB.out)
      have HHI : Hid (hi T xs k = lf T (pe T.size xs k)) := rfl
      have HFN : Hid (∀ d, hi T xs k - lo T xs k ≤ 65536 → fits T xs (k + d) → d = 0 → fits T xs (k + 1)) := fun d h1 h2 h3 j hj => by
        subst h3
        by_cases e : j = k
        · rw [e]; exact h1
        · exact h2 j (by omega)
      have HFB : Hid (65536 < hi T xs k - lo T xs k → ¬ fits T xs (len + 1)) := fun h1 h2 => by have := h2 k (by omega); omega
      rw [← HHI.out] at HLX
      obtain ⟨P, hP⟩ : ∃ P, pb T.size xs k = P := ⟨_, rfl⟩
      obtain ⟨E, hE⟩ : ∃ E, pe T.size xs k = E := ⟨_, rfl⟩
      obtain ⟨L, hL⟩ : ∃ L, lo T xs k = L := ⟨_, rfl⟩
      obtain ⟨H, hH⟩ : ∃ H, hi T xs k = H := ⟨_, rfl⟩
      obtain ⟨S, hS⟩ : ∃ S, so T xs k = S := ⟨_, rfl⟩
      rw [hP] at p0 HSO
      rw [hE] at p1 HLX HEB
      rw [hL, hH] at HLH HXF HSO HFN HFB
      rw [hH] at HLX HLS
      rw [hS] at HXF HSO
      rw [hL]
      clear hP hE hL hH hS HLO HHI
      obtain ⟨hL1, hL2⟩ := HLH.out
      obtain ⟨w3, hw3⟩ : ∃ w3, wr.alloc (.cells #[.int .i64 (P : Int), .int .i64 (E : Int)] 33) = w3 := ⟨_, rfl⟩
      have HB3 : Hid (Below wr.heap.size wr w3) := by rw [← hw3]; exact (Below.refl _ _).alloc (Nat.le_refl _) _
      have HC3 : Hid (w3.heap[wr.heap.size]? = some (.cells #[.int .i64 (P : Int), .int .i64 (E : Int)] 33)) := by rw [← hw3]; exact World.alloc_heap_new _ _
      obtain ⟨bx, hbx⟩ : ∃ b, wr.heap.size = b := ⟨_, rfl⟩
      rw [hbx] at HC3
      have HBX := hide hbx
      obtain ⟨q0, q1⟩ := cell2 HC3.out
      have HO3 := hide (HO.out.below HB3.out)
      have HBXL : Hid (bx < w3.heap.size) := (Array.getElem?_eq_some_iff.1 HC3.out).1
      have hHi : (H : Int) ≤ (T.size : Int) := by omega
      have hLHi : (L : Int) ≤ (H : Int) := by omega
      go_upto_region 10 with (go_at_call 29; refine (HLX.out _).mono ?_; rintro e w4 ⟨rfl, hb4⟩; have HB4 := hide hb4; clear hb4)
      clear q0 q1 p0 p1 hw3
      obtain ⟨q0, q1⟩ := cell2 ((HB4.out.block bx HBXL.out).trans HC3.out)
      have HO4 := hide (HO3.out.below HB4.out)
      obtain ⟨D, hD⟩ : ∃ D, H - L = D := ⟨_, rfl⟩
      have hDi : (H : Int) - (L : Int) = (D : Int) := by omega
      rw [hD] at HFN HFB
      have HD := hide hD
      by_cases hbig : 65536 < D
      · have hbi : (65536 : Int) < (D : Int) := by omega
        clear hD
        go_wp2_with fail
        go_ret2
        refine ⟨.inr ⟨rfl, HFB.out hbig⟩, ?_⟩
        have h1 : Below w1.heap.size w1 w4 := by
          rw [HGS.out]
          exact HB.out.trans ((below_trans HB3.out HB4.out).mono (by have := HB.out.size; rw [HGS.out] at this; exact this))
        exact below_trans HB1.out h1
      · have hbi : ¬ (65536 : Int) < (D : Int) := by omega
        have hCL : (T.extract L H).size ≤ 281474976710656 := by rw [ByteArray.size_extract]; omega
        have HCL : Hid (∀ V, Calls Try.prog 27 #[.string (T.extract L H)] V fun e w' => e = .returned (.string (T.extract L H)) ∧ Below V.heap.size V w') := fun V => St.clone_any _ V hCL
        clear hD
        go_upto_region 13 with (go_at_call 27; refine (HCL.out _).mono ?_; rintro e w5 ⟨rfl, hb5⟩; have HB5 := hide hb5; have HO5 := hide (HO4.out.below hb5); have s0 := HO5.out.cellAt (xk_len T xs k) k 0 (.int .i64 0) hlt (by omega) (by unfold xk; rw [if_neg (Nat.lt_irrefl k)]; rfl); have s1 := HO5.out.cellAt (xk_len T xs k) k 1 (.string ⟨#[]⟩) hlt (by omega) (by unfold xk; rw [if_neg (Nat.lt_irrefl k)]; rfl); rw [Nat.add_zero] at s0; have z0 := HO5.out.frozenAt (k * 2); have z1 := HO5.out.frozenAt (k * 2 + 1); clear hb5)
        have HST := hide (HO5.out.store2 (xk_len T xs k) k (.int .i64 (L : Int)) (.string (T.extract L H)) hlt)
        have HB15 : Hid (Below gs w1 w5) := HB.out.trans ((below_trans HB3.out (below_trans HB4.out HB5.out)).mono (by have := HB.out.size; have := HGS.out; omega))
        have HQ5 : Hid (w5.heap[bx]? = some (.cells #[.int .i64 (P : Int), .int .i64 (E : Int)] 33)) := ((below_trans HB4.out HB5.out).block bx HBXL.out).trans HC3.out
        obtain ⟨w6, hw6⟩ : ∃ w6, (w5.setCell ⟨gs, k * 2, none⟩ (.int .i64 (L : Int))).setCell ⟨gs, k * 2 + 1, none⟩ (.string (T.extract L H)) = w6 := ⟨_, rfl⟩
        rw [hw6] at HST ⊢
        clear hw6 s0 s1 z0 z1 q0 q1
        have HBXS : Hid (gs ≠ bx) := fun e => by have h1 := (HO.out.lt gs rfl).2; have := HBX.out; omega
        have HQ6 : Hid (w6.heap[bx]? = some (.cells #[.int .i64 (P : Int), .int .i64 (E : Int)] 33)) := (HST.out.2.block bx (Array.getElem?_eq_some_iff.1 HQ5.out).1 (fun e => HBXS.out (Option.some.inj e).symm)).trans HQ5.out
        have HB16 : Hid (Below gs w1 w6) := HB15.out.grown HST.out.2 (by have := HB15.out.size; have := HGS.out; omega) (fun i e => by cases e; exact Nat.le_refl _)
        have HFK := hide (HFN.out 0 (by omega) HFT.out rfl)
        by_cases heq : L = H
        · subst heq
          have HSP : Hid (S = P) := by show S = P; rw [HSO.out, if_pos rfl]
          obtain ⟨q0, q1⟩ := cell2 HQ6.out
          have s0 := HST.out.1.cellAt (setF_len (xk_len T xs k) k _ rfl) k 0 (.int .i64 (L : Int)) hlt (by omega) (by unfold setF; rw [if_pos rfl]; rfl)
          rw [Nat.add_zero] at s0
          have z0 := HST.out.1.frozenAt (k * 2)
          have HS7 := hide (HST.out.1.store (setF_len (xk_len T xs k) k _ rfl) k 0 (.int .i64 (P : Int)) hlt (by omega))
          rw [Nat.add_zero] at HS7
          go_wp2_with fail
          go_roundw
          case rel =>
            refine ⟨k + 1, hlt, by go_num, by rw [HLS.out], HFK.out, HS7.out.1.congr (fun j hj => ?_), HB16.out.grown HS7.out.2 (by have := HB16.out.size; have := HGS.out; omega) (fun i e => by cases e; exact Nat.le_refl _)⟩
            unfold setF xk
            by_cases e : j = k
            · subst e
              rw [if_pos rfl, if_pos rfl, if_pos (Nat.lt_succ_self j), HXF.out, HSP.out]
              rfl
            · rw [if_neg e, if_neg e]
              by_cases e2 : j < k
              · rw [if_pos e2, if_pos (by omega)]
              · rw [if_neg e2, if_neg (by omega)]
          case measure => simp [intOf]; omega
        · have HSP : Hid (S = L) := by show S = L; rw [HSO.out, if_neg heq]
          have hne : ¬ (L : Int) = (H : Int) := by omega
          go_wp2_with fail
          go_roundw
          case rel =>
            refine ⟨k + 1, hlt, by go_num, by rw [HLS.out], HFK.out, HST.out.1.congr (fun j hj => ?_), HB16.out⟩
            unfold setF xk
            by_cases e : j = k
            · subst e
              rw [if_pos rfl, if_pos (by omega), HXF.out, HSP.out]
            · rw [if_neg e]
              by_cases e2 : j < k
              · rw [if_pos e2, if_pos (by omega)]
              · rw [if_neg e2, if_neg (by omega)]
          case measure => simp [intOf]; omega
    · obtain rfl : k = len + 1 := by omega
      go_wp2_with fail
      go_ret2
      refine ⟨.inl ⟨_, rfl, HFT.out, (HO.out.mono (by have := HB1.out.size; have := HGS.out; omega)).congr (fun j hj => by unfold xk; rw [if_pos hj])⟩, below_trans HB1.out (by rw [HGS.out]; exact HB.out)⟩
end Go.Proofs.Ytmhebaknoginhaa.Ln
