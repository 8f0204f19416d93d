/-
  The document's Decode, of any bytes.
-/
import Derived.Test.YtmndjgmlndpgaaaDoorFiRefE
import Derived.Test.YtmndjgmlndpgaaaDoorFiRoundM
import Derived.Test.YtmndjgmlndpgaaaDoorCut
namespace Go.Proofs.YtmndjgmlndpgaaaDoor.Filt
open Go.ChangeShapes Go.WideShapes Go.ChangeAt Go.RowKit
open Go.Proofs.YtmndjgmlndpgaaaDoor.Base Go.Proofs.YtmndjgmlndpgaaaDoor.Nums Go.Proofs.YtmndjgmlndpgaaaDoor.Curs
set_option linter.unusedVariables false
theorem decF_one0 : decF [0] = (⟨false, 0, []⟩, 0) := by
  unfold decF
  rw [readF_cons, if_pos rfl, if_pos ⟨rfl, by decide⟩]; rfl
theorem decF_one5 : decF [255] = (⟨true, 0, []⟩, 0) := by
  have h : readF [255] = (⟨true, 0, []⟩, true) := rfl
  unfold decF
  rw [h]
  exact if_pos ⟨rfl, by decide⟩
theorem decF_nil : decF [] = (⟨false, 0, []⟩, 70) := by
  unfold decF
  rw [if_neg (fun h => by have := h.1; cases this)]; rfl
theorem kind_three {N : Int} {D : List (BitVec 8)} (h : N < 1 ∨ 8 < N ∨ D.length < 1) (h0 : N ≠ 0) : (⟨false, N, D⟩ : Fw).kind = 3 := by
  rcases kind_cases ⟨false, N, D⟩ with k | k | k | k
  · exact absurd (Fw.mk.inj k).2.1 h0
  · have := (Fw.mk.inj k).1; cases this
  · have := fw_two k; simp only at this; omega
  · exact k
theorem decF_out (c : BitVec 8) (rest : List (BitVec 8)) (h : c.toNat < 1 ∨ 8 < c.toNat) (h0 : rest ≠ [] ∨ (c ≠ 0 ∧ c ≠ 255)) : decF (c :: rest) = (⟨false, 0, []⟩, 70) := by
  unfold decF
  rw [if_neg]; · rfl
  rintro ⟨h1, h2⟩
  rw [readF_cons] at h1 h2
  by_cases e0 : c = 0
  · rw [if_pos e0] at h1
    rcases h0 with h0 | h0
    · exact h0 (of_decide_eq_true h1)
    · exact h0.1 e0
  · by_cases e5 : c = 255
    · rw [if_neg e0, if_pos e5] at h1
      rcases h0 with h0 | h0
      · exact h0 (of_decide_eq_true h1)
      · exact h0.2 e5
    · rw [if_neg e0, if_neg e5] at h2
      refine h2 (kind_three ?_ ?_)
      · rcases h with h | h
        · left; omega
        · right; left; omega
      · intro e
        exact e0 (BitVec.eq_of_toNat_eq (by have : (0 : BitVec 8).toNat = 0 := rfl; omega))
theorem decF_in (c : BitVec 8) (rest : List (BitVec 8)) (h1 : 1 ≤ c.toNat) (h8 : c.toNat ≤ 8) :
    decF (c :: rest) = if (get rest).2.2 = 0 ∧ 1 ≤ (get rest).1 ∧ (get rest).1 ≤ 4096 ∧ rest.length = (get rest).2.1 + (get rest).1 then (⟨false, (c.toNat : Int), rest.drop (get rest).2.1⟩, 0) else (⟨false, 0, []⟩, 70) := by
  have e0 : c ≠ 0 := fun e => by subst e; simp at h1
  have e5 : c ≠ 255 := fun e => by subst e; simp at h8
  have hr : readF (c :: rest) = (⟨false, (c.toNat : Int), (textAt rest 4096).2.2⟩, decide ((textAt rest 4096).2.1 = 0 ∧ rest.length ≤ (textAt rest 4096).1)) := by rw [readF_cons, if_neg e0, if_neg e5]
  have hal := atMost_len rest 4096
  have key : ∀ T : Nat × Nat × List (BitVec 8), textAt rest 4096 = T → decF (c :: rest) = if (T.2.1 = 0 ∧ rest.length ≤ T.1) ∧ (⟨false, (c.toNat : Int), T.2.2⟩ : Fw).kind ≠ 3 then (⟨false, (c.toNat : Int), T.2.2⟩, 0) else (⟨false, 0, []⟩, 70) := by
    intro T hT
    subst hT
    unfold decF
    rw [hr]
    simp only [decide_eq_true_eq]
    rfl
  have tx : textAt rest 4096 = if (atMost rest 4096).2.2 ≠ 0 then (0, (atMost rest 4096).2.2, []) else if rest.length - (atMost rest 4096).2.1 < (atMost rest 4096).1 then (0, 20, []) else ((atMost rest 4096).2.1 + (atMost rest 4096).1, 0, (rest.drop (atMost rest 4096).2.1).take (atMost rest 4096).1) := rfl
  by_cases g0 : (get rest).2.2 = 0
  · by_cases g4 : (get rest).1 ≤ 4096
    · have ha : atMost rest 4096 = get rest := by
        unfold atMost
        rw [if_neg (c := (get rest).2.2 ≠ 0) (fun h => h g0), if_neg (c := (4096 : Int) < ((get rest).1 : Int)) (by omega)]
      rw [ha] at hal tx
      rw [if_neg (c := (get rest).2.2 ≠ 0) (fun h => h g0)] at tx
      by_cases g5 : rest.length - (get rest).2.1 < (get rest).1
      · rw [if_pos g5] at tx
        rw [key _ tx, if_neg (fun h => by have := h.1.1; simp at this), if_neg (fun h => by have := h.2.2.2; omega)]
      · rw [if_neg g5] at tx
        rw [key _ tx]
        by_cases g6 : rest.length = (get rest).2.1 + (get rest).1
        · have hd : (rest.drop (get rest).2.1).take (get rest).1 = rest.drop (get rest).2.1 := List.take_of_length_le (by rw [List.length_drop]; omega)
          simp only [hd]
          by_cases g1 : 1 ≤ (get rest).1
          · have hk : (⟨false, (c.toNat : Int), rest.drop (get rest).2.1⟩ : Fw).kind = 2 := kind_of_two (by omega) (by omega) (by rw [List.length_drop]; omega) (by rw [List.length_drop]; omega)
            rw [if_pos (c := (get rest).2.2 = 0 ∧ _) ⟨g0, g1, g4, g6⟩]
            exact if_pos ⟨⟨trivial, by omega⟩, by rw [hk]; omega⟩
          · have hk : (⟨false, (c.toNat : Int), rest.drop (get rest).2.1⟩ : Fw).kind = 3 := kind_three (.inr (.inr (by rw [List.length_drop]; omega))) (by omega)
            rw [if_neg (c := (get rest).2.2 = 0 ∧ _) (fun h => g1 h.2.1)]
            exact if_neg (fun h => h.2 hk)
        · rw [if_neg (c := (get rest).2.2 = 0 ∧ _) (fun h => g6 h.2.2.2)]
          exact if_neg (fun h => by have := h.1.2; simp only at this; omega)
    · have ha : atMost rest 4096 = (0, 0, 23) := by
        unfold atMost
        rw [if_neg (c := (get rest).2.2 ≠ 0) (fun h => h g0), if_pos (c := (4096 : Int) < ((get rest).1 : Int)) (by omega)]
      rw [ha] at tx
      have tx2 : textAt rest 4096 = (0, 23, []) := tx
      rw [key _ tx2, if_neg (c := (get rest).2.2 = 0 ∧ _) (fun h => g4 h.2.2.1)]
      exact if_neg (fun h => by have := h.1.1; simp at this)
  · have ha : atMost rest 4096 = (0, 0, (get rest).2.2) := by unfold atMost; rw [if_pos g0]
    rw [ha] at tx
    rw [if_pos (c := (get rest).2.2 ≠ 0) g0] at tx
    rw [key _ tx, if_neg (c := (get rest).2.2 = 0 ∧ _) (fun h => g0 h.1)]
    exact if_neg (fun h => g0 h.1.1)
theorem own_after {w1 w6 : World} {v : Value} {xs : List (BitVec 8)} {r : Nat} {a b c : Value} (h : Own w6 w1.heap.size v xs) (hr : r < w1.heap.size) : Own (((w6.setCell ⟨r, 0, none⟩ a).setCell ⟨r, 1, none⟩ b).setCell ⟨r, 2, none⟩ c) w1.heap.size v xs :=
  keep h (grown3 w6 r a b c) (fun q j e1 e2 => by have := (World.ownsRow.lt h q e1).1; have := Option.some.inj e2; omega)
set_option maxHeartbeats 1000000 in
set_option maxRecDepth 100000 in
theorem refDecode_any (a : Option Addr) (len cap : Nat) (bs : List (BitVec 8)) (w : World) (hr : Rd w a len bs) (hlc : len ≤ cap) (hcm : cap ≤ 9223372036854775807) :
    Calls Tryd.prog 10 #[.slice a len cap] w fun e w' => ∃ v, e = .returned (.tuple #[.agg #[.bool (decF bs).1.all, .int .i64 (decF bs).1.hashes, v], .int .i64 (decF bs).2]) ∧ Own w' w.heap.size v (decF bs).1.data ∧ Below w.heap.size w w' := by
  obtain ⟨w0, hw0⟩ : ∃ w0, w.alloc (.cells #[.bool false, .int .i64 0, .slice none 0 0] 24) = w0 := ⟨_, rfl⟩
  have hb0 : Below w.heap.size w w0 := by rw [← hw0]; exact (Below.refl _ _).alloc (Nat.le_refl _) _
  have hF0 : FB w0 w.heap.size false 0 (.slice none 0 0) := by rw [← hw0]; exact FB.new _ _ _ _
  obtain ⟨r, hr0⟩ : ∃ r, w.heap.size = r := ⟨_, rfl⟩
  rw [hr0] at hF0
  have HRS : Hid (w.heap.size ≤ r) := Nat.le_of_eq hr0
  have HSZ := hide hr0
  have HF0 := hide hF0
  have HB0 := hide hb0
  have HR0 := hide (hr.below hb0)
  have hlm := hr.2.1
  have HL := hide hr.1
  have HC := hide hr.2.2
  clear hr hF0 hb0
  have r0 := HF0.out.c0
  have r1 := HF0.out.c1
  have r2 := HF0.out.c2
  have z0 := HF0.out.fz 0
  have z1 := HF0.out.fz 1
  have z2 := HF0.out.fz 2
  obtain ⟨DF, hDF⟩ : ∃ DF, decF bs = DF := ⟨_, rfl⟩
  rw [hDF]
  have HDF := hide hDF
  clear hDF
  have HBAD : Hid (∀ W, FB W r false 0 (.slice none 0 0) → True) := fun _ _ => trivial
  rcases bs with _ | ⟨c, rest⟩
  · obtain rfl : len = 0 := HL.out.symm
    have HE : Hid (DF = (⟨false, 0, []⟩, 70)) := HDF.out.symm.trans decF_nil
    go_enter Tryd.func10, Tryd.ntmps10
    go_wp2_with fail
    refine bodyPost_ret (fb_ret2 rfl _ _ r false 0 (.slice none 0 0) rfl (HF0.out.set3 false 0 (.slice none 0 0))) rfl ?_
    rw [HE.out]
    exact ⟨_, rfl, own_none _ _, by first | exact below3 HB0.out (g := r) HRS.out _ _ _ | (rw [← HSZ.out]; exact below3 HB0.out (Nat.le_refl _) _ _ _)⟩
  · have hll : len = rest.length + 1 := by have := HL.out; simp at this; omega
    obtain ⟨bb, off, rfl, hbb, hcell⟩ := HC.out (by omega)
    have g0 := (HB0.out.cell (p := ⟨bb, off + 0, none⟩) hbb).trans (hcell 0 (by omega))
    rw [Nat.add_zero] at g0
    have HLL := hide hll
    have hl1 : ¬ (len : Int) < 1 := by omega
    obtain ⟨m, hm⟩ : ∃ m, c.toNat = m := ⟨_, rfl⟩
    have hm256 : m < 256 := by rw [← hm]; exact lt8 c
    have g0' : w0.cell? ⟨bb, off, none⟩ = some (.int .u8 (m : Int)) := by rw [g0, ← hm]; rfl
    clear g0 hcell hll
    by_cases ho0 : len = 1 ∧ (m = 0 ∨ m = 255)
    · obtain ⟨rfl, hmm⟩ := ho0
      have hrest : rest = [] := List.length_eq_zero_iff.1 (by have := HLL.out; omega)
      subst hrest
      have i1 : (((1 : Nat) : Int) == 1) = true := rfl
      rcases hmm with rfl | rfl
      · have hc : c = 0 := BitVec.eq_of_toNat_eq hm
        subst hc
        have HE : Hid (DF = (⟨false, 0, []⟩, 0)) := HDF.out.symm.trans decF_one0
        have i2 : (((0 : Nat) : Int) == 0) = true := rfl
        go_enter Tryd.func10, Tryd.ntmps10
        go_wp2_with fail
        refine bodyPost_ret (fb_ret2 rfl _ _ r false 0 (.slice none 0 0) rfl (HF0.out.set3 false 0 (.slice none 0 0))) rfl ?_
        rw [HE.out]
        exact ⟨_, rfl, own_none _ _, by first | exact below3 HB0.out (g := r) HRS.out _ _ _ | (rw [← HSZ.out]; exact below3 HB0.out (Nat.le_refl _) _ _ _)⟩
      · have hc : c = 255 := BitVec.eq_of_toNat_eq hm
        subst hc
        have HE : Hid (DF = (⟨true, 0, []⟩, 0)) := HDF.out.symm.trans decF_one5
        have i2 : (((255 : Nat) : Int) == 0) = false := rfl
        have i3 : (((255 : Nat) : Int) == 255) = true := rfl
        go_enter Tryd.func10, Tryd.ntmps10
        go_wp2_with fail
        refine bodyPost_ret (fb_ret2 rfl _ _ r true 0 (.slice none 0 0) rfl (HF0.out.set3 true 0 (.slice none 0 0))) rfl ?_
        rw [HE.out]
        exact ⟨_, rfl, own_none _ _, by first | exact below3 HB0.out (g := r) HRS.out _ _ _ | (rw [← HSZ.out]; exact below3 HB0.out (Nat.le_refl _) _ _ _)⟩
    · have hcs : (((len : Int) == 1) = false) ∨ (((len : Int) == 1) = true ∧ ((m : Int) == 0) = false ∧ ((m : Int) == 255) = false) := by
        by_cases e : len = 1
        · right
          refine ⟨by rw [beq_iff_eq]; omega, ?_, ?_⟩ <;> rw [beq_eq_false_iff_ne] <;> omega
        · left; rw [beq_eq_false_iff_ne]; omega
      by_cases hmm : m < 1 ∨ 8 < m
      · have HE : Hid (DF = (⟨false, 0, []⟩, 70)) := HDF.out.symm.trans (decF_out c rest (by rw [hm]; exact hmm) (by
          by_cases e : rest = []
          · right
            subst e
            have hl : len = 1 := HLL.out
            refine ⟨fun e2 => ho0 ⟨hl, .inl ?_⟩, fun e2 => ho0 ⟨hl, .inr ?_⟩⟩ <;> (rw [← hm, e2]; rfl)
          · exact .inl e))
        clear ho0
        rcases hcs with i1 | ⟨i1, i2, i3⟩
        · rcases hmm with hmm | hmm
          · go_enter Tryd.func10, Tryd.ntmps10
            have im : (m : Int) < 1 := by omega
            go_wp2_with fail
            refine bodyPost_ret (fb_ret2 rfl _ _ r false 0 (.slice none 0 0) rfl (HF0.out.set3 false 0 (.slice none 0 0))) rfl ?_
            rw [HE.out]
            exact ⟨_, rfl, own_none _ _, by first | exact below3 HB0.out (g := r) HRS.out _ _ _ | (rw [← HSZ.out]; exact below3 HB0.out (Nat.le_refl _) _ _ _)⟩
          · go_enter Tryd.func10, Tryd.ntmps10
            have im : ¬ (m : Int) < 1 := by omega
            have im8 : (8 : Int) < (m : Int) := by omega
            go_wp2_with fail
            refine bodyPost_ret (fb_ret2 rfl _ _ r false 0 (.slice none 0 0) rfl (HF0.out.set3 false 0 (.slice none 0 0))) rfl ?_
            rw [HE.out]
            exact ⟨_, rfl, own_none _ _, by first | exact below3 HB0.out (g := r) HRS.out _ _ _ | (rw [← HSZ.out]; exact below3 HB0.out (Nat.le_refl _) _ _ _)⟩
        · rcases hmm with hmm | hmm
          · exfalso
            have : ¬ m = 0 := by rw [beq_eq_false_iff_ne] at i2; omega
            omega
          · go_enter Tryd.func10, Tryd.ntmps10
            have im : ¬ (m : Int) < 1 := by omega
            have im8 : (8 : Int) < (m : Int) := by omega
            go_wp2_with fail
            refine bodyPost_ret (fb_ret2 rfl _ _ r false 0 (.slice none 0 0) rfl (HF0.out.set3 false 0 (.slice none 0 0))) rfl ?_
            rw [HE.out]
            exact ⟨_, rfl, own_none _ _, by first | exact below3 HB0.out (g := r) HRS.out _ _ _ | (rw [← HSZ.out]; exact below3 HB0.out (Nat.le_refl _) _ _ _)⟩
      · have im1 : ¬ (m : Int) < 1 := by omega
        have im8 : ¬ (8 : Int) < (m : Int) := by omega
        have HE0 := hide (HDF.out.symm.trans (decF_in c rest (by omega) (by omega)))
        rw [hm] at HE0
        have HGL : Hid ((get rest).2.1 ≤ rest.length) := by
          have := get_len rest
          show _ ≤ _; omega
        have HGF := hide (get_fst rest)
        obtain ⟨la, hs1, hla, hls, hlb⟩ := cut_l bb off len cap 1 (by omega) hlc
        have hs1' : ∀ W, (Instr.sliceAt 22 (.slice (some ⟨bb, off, none⟩) len cap) (some (.int .i64 1)) none none).run Tryd.prog W = .ok (.slice (some la) (len - 1) (cap - 1)) W := hs1
        have HRR := hide (HR0.out.past 1 (by omega) la hla)
        have HGC := hide (refGet_any (some la) (len - 1) (cap - 1) rest w0 (by have h := HRR.out; rw [List.drop_one, List.tail_cons] at h; exact h))
        obtain ⟨G, hG⟩ : ∃ G, get rest = G := ⟨_, rfl⟩
        rw [hG] at HE0 HGL HGF HGC
        obtain ⟨gn, gk, ge⟩ := G
        simp only at HE0 HGL HGF HGC
        have hgk : gk + 1 ≤ len := by have := HGL.out; have := HLL.out; omega
        have hgn : gn ≤ 9223372036854775807 := HGF.out
        obtain ⟨lb, hs2, hlb2, hls2, hlb3⟩ := cut_l bb off len cap (gk + 1) hgk hlc
        have HRL := hide (HR0.out.past (gk + 1) hgk lb hlb2)
        have hs2' : ∀ W, (Instr.sliceAt 22 (.slice (some ⟨bb, off, none⟩) len cap) (some (.int .i64 (1 + (gk : Int)))) none none).run Tryd.prog W = .ok (.slice (some lb) (len - (gk + 1)) (cap - (gk + 1))) W := by
          have e : (1 : Int) + (gk : Int) = ((gk + 1 : Nat) : Int) := by omega
          rw [e]; exact hs2
        have HB0L : Hid (bb < w0.heap.size) := Nat.lt_of_lt_of_le hbb HB0.out.size
        have hlmi : (len : Int) ≤ 140737488355328 := by omega
        have hgki : (gk : Int) + 1 ≤ (len : Int) := by omega
        have hgni : (gn : Int) ≤ 9223372036854775807 := by omega
        have HDR : Hid ((c :: rest).drop (gk + 1) = rest.drop gk) := rfl
        rw [HDR.out] at HRL
        clear hG hs1 hs2 hla hls hlb hmm ho0 hlb2 hls2 hlb3 hm
        by_cases hge : ge = 0
        · by_cases hgood : 1 ≤ gn ∧ gn ≤ 4096 ∧ rest.length = gk + gn
          · have HE : Hid (DF = (⟨false, (m : Int), rest.drop gk⟩, 0)) := HE0.out.trans (if_pos ⟨hge, hgood⟩)
            obtain ⟨n1, n2, n3⟩ := hgood
            rcases hcs with i1 | ⟨i1, _, _⟩
            · subst hge
              have q0 : (((0 : Nat) : Int) != 0) = false := rfl
              have q1 : ¬ (gn : Int) < 1 := by omega
              have q2 : ¬ (4096 : Int) < (gn : Int) := by omega
              have q3 : ((len : Int) != 1 + (gk : Int) + (gn : Int)) = false := by
                have : (len : Int) = 1 + (gk : Int) + (gn : Int) := by have := HLL.out; omega
                rw [this]; simp
              go_enter Tryd.func10, Tryd.ntmps10
              go_wp2_with fail
              refine HGC.out.mono ?_
              rintro e wq ⟨rfl, hbq⟩
              have HFq := hide (HF0.out.below hbq)
              have HBq := hide (below_trans HB0.out hbq)
              have HRq := hide (HRL.out.below hbq)
              have HCq : Hid (wq.cell? ⟨bb, off, none⟩ = some (.int .u8 (m : Int))) := (hbq.cell (p := ⟨bb, off, none⟩) HB0L.out).trans g0'
              clear hbq g0' r0 r1 r2 z0 z1 z2
              have g0' := HCq.out
              have r0 := HFq.out.c0
              have r1 := HFq.out.c1
              have r2 := HFq.out.c2
              have z0 := HFq.out.fz 0
              have z1 := HFq.out.fz 1
              have z2 := HFq.out.fz 2
              have hmw : IntKind.i64.wrap (m : Int) = (m : Int) := by rw [IntKind.wrap_i64]; omega
              have hkw : IntKind.i64.wrap (1 + (gk : Int)) = 1 + (gk : Int) := by rw [IntKind.wrap_i64]; omega
              have hcapi : (cap : Int) ≤ 9223372036854775807 := by omega
              have HO1 : Hid (Own (wq.alloc (.cells #[] 5)) wq.heap.size (.slice (some ⟨wq.heap.size, 0, none⟩) 0 0) []) := own_empty wq _ (Nat.le_refl _)
              have HRX := hide (HRq.out.below ((Below.refl wq.heap.size wq).alloc (Nat.le_refl _) (.cells #[] 5)))
              have HQL : Hid (bb < wq.heap.size) := Nat.lt_of_lt_of_le hbb HBq.out.size
              have HBR : Hid (bb ≠ r) := by show _ ≠ _; have := HSZ.out; omega
              have HQS : Hid (w.heap.size ≤ wq.heap.size) := HBq.out.size
              have hlen2 : len - (gk + 1) ≤ 140737488355328 := by omega
              go_wp2_with fail
              go_region_held_law (fun V => V.cell? ⟨bb, off, none⟩ = some (.int .u8 (m : Int))) (first | exact E9.out | exact E8.out | go_keep) (first
                | (refine step_join rfl (.tmp 74) (.tmp 78) rfl wq.heap.size (.slice (some ⟨wq.heap.size, 0, none⟩) 0 0) [] (by simp [Act.eval]) HO1.out (some lb) (len - (gk + 1)) (cap - (gk + 1)) (rest.drop gk) (by simp [Act.eval]) HRX.out (fun e => by cases e) (by simp; omega) (by simp) ?_; intro v6 w6 ho hg6; rw [List.nil_append] at ho; obtain ⟨va, vc, rfl⟩ := ho.shape; generalize (rest.drop gk).length = L at ho ⊢; have hb := after_copy hg6; have HR6 := hide (HFq.out.below hb); have HB6 : Hid (Below w.heap.size w w6) := below_trans HBq.out hb; have HO6 := hide ho; have E8 : Hid (w6.cell? ⟨bb, off, none⟩ = some (.int .u8 (m : Int))) := (hb.cell (p := ⟨bb, off, none⟩) HQL.out).trans HCq.out; have y0 := HR6.out.c0; have y1 := HR6.out.c1; have y2 := HR6.out.c2; have x0 := HR6.out.fz 0; have x1 := HR6.out.fz 1; have x2 := HR6.out.fz 2; have HRE := hide (HR6.out.set3 false (m : Int) (.slice va L vc)); have HG5 := hide (grown3 w6 r (.bool false) (.int .i64 (m : Int)) (.slice va L vc)); have E9 : Hid ((((w6.setCell ⟨r, 0, none⟩ (.bool false)).setCell ⟨r, 1, none⟩ (.int .i64 (m : Int))).setCell ⟨r, 2, none⟩ (.slice va L vc)).cell? ⟨bb, off, none⟩ = some (.int .u8 (m : Int))) := HG5.out.cell E8.out (fun e => HBR.out (Option.some.inj e)); have HBE := hide (below3 HB6.out (g := r) HRS.out (.bool false) (.int .i64 (m : Int)) (.slice va L vc)); clear ho hg6 hb))
              all_goals
                go_wp2_with fail
                refine bodyPost_ret (fb_ret2 rfl _ _ r false (m : Int) (.slice va L vc) rfl HRE.out) rfl ?_
                rw [HE.out]
                exact ⟨_, rfl, by first | exact (own_after HO6.out HFq.out.lt).mono HQS.out | (rw [← HSZ.out]; exact (own_after HO6.out (by rw [HSZ.out]; exact HFq.out.lt)).mono HQS.out), by first | exact HBE.out | (rw [HSZ.out]; exact HBE.out) | (have h := HBE.out; rw [HSZ.out] at h; exact h)⟩
            · exfalso
              have : len = 1 := by rw [beq_iff_eq] at i1; omega
              have := HLL.out
              omega
          · have HE : Hid (DF = (⟨false, 0, []⟩, 70)) := HE0.out.trans (if_neg (fun h => hgood h.2))
            subst hge
            have q0 : (((0 : Nat) : Int) != 0) = false := rfl
            by_cases h1 : gn < 1
            · have q1 : (gn : Int) < 1 := by omega
              rcases hcs with i1 | ⟨i1, i2, i3⟩
              all_goals
                go_enter Tryd.func10, Tryd.ntmps10
                go_wp2_with fail
                refine HGC.out.mono ?_
                rintro e wq ⟨rfl, hbq⟩
                have HFq := hide (HF0.out.below hbq)
                have HBq := hide (below_trans HB0.out hbq)
                have HRq := hide (HRL.out.below hbq)
                have HCq : Hid (wq.cell? ⟨bb, off, none⟩ = some (.int .u8 (m : Int))) := (hbq.cell (p := ⟨bb, off, none⟩) HB0L.out).trans g0'
                clear hbq g0' r0 r1 r2 z0 z1 z2
                have g0' := HCq.out
                have r0 := HFq.out.c0
                have r1 := HFq.out.c1
                have r2 := HFq.out.c2
                have z0 := HFq.out.fz 0
                have z1 := HFq.out.fz 1
                have z2 := HFq.out.fz 2
                go_wp2_with fail
                refine bodyPost_ret (fb_ret2 rfl _ _ r false 0 (.slice none 0 0) rfl (HFq.out.set3 false 0 (.slice none 0 0))) rfl ?_
                rw [HE.out]
                exact ⟨_, rfl, own_none _ _, by first | exact below3 HBq.out (g := r) HRS.out _ _ _ | (rw [← HSZ.out]; exact below3 HBq.out (Nat.le_refl _) _ _ _)⟩
            · have q1 : ¬ (gn : Int) < 1 := by omega
              by_cases h2 : 4096 < gn
              · have q2 : (4096 : Int) < (gn : Int) := by omega
                rcases hcs with i1 | ⟨i1, i2, i3⟩
                all_goals
                  go_enter Tryd.func10, Tryd.ntmps10
                  go_wp2_with fail
                  refine HGC.out.mono ?_
                  rintro e wq ⟨rfl, hbq⟩
                  have HFq := hide (HF0.out.below hbq)
                  have HBq := hide (below_trans HB0.out hbq)
                  have HRq := hide (HRL.out.below hbq)
                  have HCq : Hid (wq.cell? ⟨bb, off, none⟩ = some (.int .u8 (m : Int))) := (hbq.cell (p := ⟨bb, off, none⟩) HB0L.out).trans g0'
                  clear hbq g0' r0 r1 r2 z0 z1 z2
                  have g0' := HCq.out
                  have r0 := HFq.out.c0
                  have r1 := HFq.out.c1
                  have r2 := HFq.out.c2
                  have z0 := HFq.out.fz 0
                  have z1 := HFq.out.fz 1
                  have z2 := HFq.out.fz 2
                  go_wp2_with fail
                  refine bodyPost_ret (fb_ret2 rfl _ _ r false 0 (.slice none 0 0) rfl (HFq.out.set3 false 0 (.slice none 0 0))) rfl ?_
                  rw [HE.out]
                  exact ⟨_, rfl, own_none _ _, by first | exact below3 HBq.out (g := r) HRS.out _ _ _ | (rw [← HSZ.out]; exact below3 HBq.out (Nat.le_refl _) _ _ _)⟩
              · have q2 : ¬ (4096 : Int) < (gn : Int) := by omega
                have q3 : ((len : Int) != 1 + (gk : Int) + (gn : Int)) = true := by
                  rw [bne_iff_ne]
                  intro h
                  exact hgood ⟨by omega, by omega, by have := HLL.out; omega⟩
                rcases hcs with i1 | ⟨i1, i2, i3⟩
                all_goals
                  go_enter Tryd.func10, Tryd.ntmps10
                  go_wp2_with fail
                  refine HGC.out.mono ?_
                  rintro e wq ⟨rfl, hbq⟩
                  have HFq := hide (HF0.out.below hbq)
                  have HBq := hide (below_trans HB0.out hbq)
                  have HRq := hide (HRL.out.below hbq)
                  have HCq : Hid (wq.cell? ⟨bb, off, none⟩ = some (.int .u8 (m : Int))) := (hbq.cell (p := ⟨bb, off, none⟩) HB0L.out).trans g0'
                  clear hbq g0' r0 r1 r2 z0 z1 z2
                  have g0' := HCq.out
                  have r0 := HFq.out.c0
                  have r1 := HFq.out.c1
                  have r2 := HFq.out.c2
                  have z0 := HFq.out.fz 0
                  have z1 := HFq.out.fz 1
                  have z2 := HFq.out.fz 2
                  go_wp2_with fail
                  refine bodyPost_ret (fb_ret2 rfl _ _ r false 0 (.slice none 0 0) rfl (HFq.out.set3 false 0 (.slice none 0 0))) rfl ?_
                  rw [HE.out]
                  exact ⟨_, rfl, own_none _ _, by first | exact below3 HBq.out (g := r) HRS.out _ _ _ | (rw [← HSZ.out]; exact below3 HBq.out (Nat.le_refl _) _ _ _)⟩
        · have HE : Hid (DF = (⟨false, 0, []⟩, 70)) := HE0.out.trans (if_neg (fun h => hge h.1))
          have q0 : ((ge : Int) != 0) = true := by rw [bne_iff_ne]; omega
          rcases hcs with i1 | ⟨i1, i2, i3⟩
          all_goals
            go_enter Tryd.func10, Tryd.ntmps10
            go_wp2_with fail
            refine HGC.out.mono ?_
            rintro e wq ⟨rfl, hbq⟩
            have HFq := hide (HF0.out.below hbq)
            have HBq := hide (below_trans HB0.out hbq)
            have HRq := hide (HRL.out.below hbq)
            have HCq : Hid (wq.cell? ⟨bb, off, none⟩ = some (.int .u8 (m : Int))) := (hbq.cell (p := ⟨bb, off, none⟩) HB0L.out).trans g0'
            clear hbq g0' r0 r1 r2 z0 z1 z2
            have g0' := HCq.out
            have r0 := HFq.out.c0
            have r1 := HFq.out.c1
            have r2 := HFq.out.c2
            have z0 := HFq.out.fz 0
            have z1 := HFq.out.fz 1
            have z2 := HFq.out.fz 2
            go_wp2_with fail
            refine bodyPost_ret (fb_ret2 rfl _ _ r false 0 (.slice none 0 0) rfl (HFq.out.set3 false 0 (.slice none 0 0))) rfl ?_
            rw [HE.out]
            exact ⟨_, rfl, own_none _ _, by first | exact below3 HBq.out (g := r) HRS.out _ _ _ | (rw [← HSZ.out]; exact below3 HBq.out (Nat.le_refl _) _ _ _)⟩
end Go.Proofs.YtmndjgmlndpgaaaDoor.Filt
