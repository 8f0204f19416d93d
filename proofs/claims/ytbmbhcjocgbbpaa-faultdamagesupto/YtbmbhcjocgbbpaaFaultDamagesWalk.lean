/-
  Whatever an entry makes of a file, the program's Damage and the document's make the same; the answers are new memory.
-/
import Derived.Test.YtbmbhcjocgbbpaaFaRDam
import Derived.Test.YtbmbhcjocgbbpaaFaBlk
import Derived.Test.YtbmbhcjocgbbpaaFaSame
import Derived.Test.YtbmbhcjocgbbpaaFaTurned
import Derived.Test.YtbmbhcjocgbbpaaFaOpen
namespace Go.Proofs.Ytbmbhcjocgbbpaa.faultDamages
open Go.ChangeShapes Go.WideShapes Go.ChangeAt Go.RowKit
open Go.Proofs.Ytbmbhcjocgbbpaa.Base Go.Proofs.Ytbmbhcjocgbbpaa.Fa Go.Proofs.Ytbmbhcjocgbbpaa.St
set_option linter.unusedVariables false
theorem dam_len (bs : List (BitVec 8)) (f : Flt) : (damL bs f).length ≤ bs.length + 4096 := by
  unfold damL
  split
  · rename_i h
    split
    · unfold flipL; rw [flipTo_len]; omega
    · split
      · rename_i h2 h3
        simp [may, isCh, h3] at h
        unfold resL
        rw [List.length_append, List.length_take, List.length_replicate]
        omega
      · omega
  · omega
set_option maxHeartbeats 4000000 in
set_option maxRecDepth 100000 in
theorem walk (a : Option Addr) (len cap : Nat) (bs : List (BitVec 8)) (f : Flt) (w : World) (hr : Rd w a len bs) (hlc : len ≤ cap) (hm : cap ≤ 1048576) (hnil : a = none → len = 0 ∧ cap = 0) (hwf : Wf f) :
    Calls Try.prog 3 #[.slice a len cap, f.val] w fun e w' => e = .returned (.bool true) ∧ Below w.heap.size w w' := by
  have hp : f.p ≤ 9223372036854775807 := (wf_bounds hwf.p).2
  have HR := hide hr
  have HL := hide hr.1
  have HNIL := hide hnil
  have HDL := hide (dam_len bs f)
  have hl : len ≤ 1048576 := by omega
  have hli : (len : Int) ≤ 1048576 := by omega
  clear hr hnil
  obtain ⟨w0, hw0⟩ : ∃ w0, w.alloc (.cells #[.int .i64 f.k, .int .i64 f.j, .int .i64 f.t, .int .i64 f.a, .int .i64 f.m, .int .i64 f.r, .int .i64 f.p, .int .u32 (f.q.toNat : Int)] 25) = w0 := ⟨_, rfl⟩
  have HF0 : Hid (FB w0 w.heap.size f) := by show FB _ _ _; rw [← hw0]; exact FB.new w f
  have HB0 : Hid (Below w.heap.size w w0) := by show Below _ _ _; rw [← hw0]; exact ba (b0 _) _
  obtain ⟨p, hpp⟩ : ∃ p, w.heap.size = p := ⟨_, rfl⟩
  rw [hpp] at HF0
  have HPP := hide hpp
  unfold Flt.val
  go_enter Try.func3, Try.ntmps3
  go_wp2_with fail
  refine (roomy_any a len cap bs _ (HR.out.below HB0.out) (by omega)).mono ?_
  rintro e w1 ⟨gx, rfl, hgx, ho1, hb1⟩
  have HF1 := hide (HF0.out.below hb1)
  have HB1 := hide (below_trans HB0.out hb1)
  have HX1 := hide ho1
  have HGX := hide (And.intro hgx (HX1.out.lt').2)
  have HFS := hide (Nat.lt_of_lt_of_le HF0.out.lt hgx)
  have HC1 := hide ho1.cap
  have hcc : len ≤ len + 64 := by omega
  have hcci : (len : Int) ≤ (len : Int) + 64 := by omega
  clear ho1 hb1 hgx
  have HT : Hid ((bs ++ marks8).take len = bs) := by show _ = _; rw [← HL.out]; exact List.take_left
  have HY1 : Hid (Rd w1 (some ⟨gx, 0, none⟩) len bs) := by
    have h := (Own.rd HX1.out (by rw [List.length_append, marks8_len, HL.out]; omega)).cut len (by omega)
    rw [HT.out] at h
    exact h
  obtain ⟨d0, d1, d2, d3, d4, d5, d6, d7⟩ := HF1.out.cells
  go_wp2_with fail
  go_region_held (fun V => V.cell? ⟨p, 0, none⟩ = some (.int .i64 f.k) ∧ V.cell? ⟨p, 1, none⟩ = some (.int .i64 f.j) ∧ V.cell? ⟨p, 2, none⟩ = some (.int .i64 f.t) ∧ V.cell? ⟨p, 3, none⟩ = some (.int .i64 f.a) ∧ V.cell? ⟨p, 4, none⟩ = some (.int .i64 f.m) ∧ V.cell? ⟨p, 5, none⟩ = some (.int .i64 f.r) ∧ V.cell? ⟨p, 6, none⟩ = some (.int .i64 f.p) ∧ V.cell? ⟨p, 7, none⟩ = some (.int .u32 (f.q.toNat : Int))) (first | go_keep | exact E8.out) (first
    | (go_at_call 10; refine (dam_any _ len (len + 64) f bs _ (HY1.out.below ((Below.refl _ _).drew)) (by intro h; cases h) (by omega) hp).mono ?_; rintro e w2 ⟨v2, rfl, ho2, hb2⟩; have HB2 := hide (below_trans ((Below.refl _ _).drew) hb2); have HO2 := hide ho2; have E8 := hide (HF1.out.below HB2.out).cells; clear ho2 hb2))
  have HX2 := hide (HX1.out.below HB2.out)
  have HF2 := hide (HF1.out.below HB2.out)
  have HW2 := hide (below_trans HB1.out HB2.out)
  have HY2 := hide (HY1.out.below HB2.out)
  clear E8 d0 d1 d2 d3 d4 d5 d6 d7
  obtain ⟨d0, d1, d2, d3, d4, d5, d6, d7⟩ := HF2.out.cells
  go_wp2_with fail
  go_region_held (fun V => V.cell? ⟨p, 0, none⟩ = some (.int .i64 f.k) ∧ V.cell? ⟨p, 1, none⟩ = some (.int .i64 f.j) ∧ V.cell? ⟨p, 2, none⟩ = some (.int .i64 f.t) ∧ V.cell? ⟨p, 3, none⟩ = some (.int .i64 f.a) ∧ V.cell? ⟨p, 4, none⟩ = some (.int .i64 f.m) ∧ V.cell? ⟨p, 5, none⟩ = some (.int .i64 f.r) ∧ V.cell? ⟨p, 6, none⟩ = some (.int .i64 f.p) ∧ V.cell? ⟨p, 7, none⟩ = some (.int .u32 (f.q.toNat : Int))) (first | go_keep | exact E8.out) (first
    | (go_at_call 10; refine (dam_any _ len (len + 64) f bs _ (HY2.out.below ((Below.refl _ _).drew)) (by intro h; cases h) (by omega) hp).mono ?_; rintro e w3 ⟨v3, rfl, ho3, hb3⟩; have HB3 := hide (below_trans ((Below.refl _ _).drew) hb3); have HO3 := hide ho3; have E8 := hide (HF2.out.below HB3.out).cells; clear ho3 hb3))
  clear E8
  obtain ⟨xa, xc, rfl⟩ := HO2.out.shape
  obtain ⟨ya, yc, rfl⟩ := HO3.out.shape
  obtain ⟨N, hN⟩ : ∃ N, (damL bs f).length = N := ⟨_, rfl⟩
  have hNb : N ≤ 1052672 := by have h1 := HDL.out; have h2 := HL.out; omega
  rw [hN] at HO2 HO3
  simp only [hN]
  have HN := hide hN
  clear hN
  have HX3 := hide (HX2.out.below HB3.out)
  have HF3 := hide (HF2.out.below HB3.out)
  have HW3 := hide (below_trans HW2.out HB3.out)
  have HO2b := hide (HO2.out.below HB3.out)
  have HBX : Hid (∀ i, (Value.slice xa N xc).ownBlock = some i → w1.heap.size ≤ i ∧ i < w2.heap.size) := fun i e => World.ownsRow.lt HO2.out i e
  have HBY : Hid (∀ i, (Value.slice ya N yc).ownBlock = some i → w2.heap.size ≤ i ∧ i < w3.heap.size) := fun i e => World.ownsRow.lt HO3.out i e
  have HSZ : Hid (w.heap.size ≤ w1.heap.size ∧ w1.heap.size ≤ w2.heap.size ∧ w2.heap.size ≤ w3.heap.size) := ⟨HB1.out.size, HB2.out.size, HB3.out.size⟩
  clear d0 d1 d2 d3 d4 d5 d6 d7
  go_wp2_with fail
  refine (fill_any w1.heap.size N xc xa (damL bs f) _ HO2b.out (by omega) (by have := HSZ.out; omega)).mono ?_
  rintro e w4 ⟨rfl, hg4⟩
  have HF4 := hide (HF3.out.grown hg4 (fun e => by have h1 := HBX.out p e; have h2 := HFS.out; have h3 := HGX.out; omega))
  have HX4 := hide (Base.keep HX3.out hg4 (fun i j e1 e2 e => by have h1 := HBX.out j e2; have h3 := HGX.out; have e3 : gx = i := Option.some.inj e1; omega))
  have HY4 := hide (Base.keep HO3.out hg4 (fun i j e1 e2 e => by have h1 := HBX.out j e2; have h3 := HBY.out i e1; omega))
  have HW4 : Hid (Below w.heap.size w w4) := HW3.out.grown hg4 (Nat.le_trans HSZ.out.1 (Nat.le_trans HSZ.out.2.1 HSZ.out.2.2)) (fun i e => by have h1 := HBX.out i e; have h2 := HSZ.out; omega)
  have HS4 := hide hg4.size
  clear hg4
  obtain ⟨d0, d1, d2, d3, d4, d5, d6, d7⟩ := HF4.out.cells
  go_wp2_with fail
  refine (refDam_any a len cap f bs _ (HR.out.below HW4.out) HNIL.out (by omega) hp).mono ?_
  rintro e w5 ⟨v5, rfl, ho5, hb5⟩
  obtain ⟨za, zc, rfl⟩ := ho5.shape
  rw [HN.out] at ho5
  simp only [HN.out]
  have HZ5 := hide ho5
  have HF5 := hide (HF4.out.below hb5)
  have HX5 := hide (HX4.out.below hb5)
  have HY5 := hide (HY4.out.below hb5)
  have HW5 := hide (below_trans HW4.out hb5)
  clear hb5 ho5 d0 d1 d2 d3 d4 d5 d6 d7
  have hNb2 : (damL bs f).length ≤ 140737488355328 := by rw [HN.out]; omega
  have hNi : (N : Int) ≤ 1052672 := by omega
  go_wp2_with fail
  refine (same_eq ya za N yc N zc (damL bs f) _ (Got.rd HY5.out hNb2) (Got.rd HZ5.out hNb2)).mono ?_
  rintro e w6 ⟨rfl, hb6⟩
  have HF6 := hide (HF5.out.below hb6)
  have HX6 := hide (HX5.out.below hb6)
  have HY6 := hide (HY5.out.below hb6)
  have HZ6 := hide (HZ5.out.below hb6)
  have HW6 := hide (below_trans HW5.out hb6)
  clear hb6
  go_wp2_with fail
  refine (roomy_any a len cap bs _ (HR.out.below HW6.out) (by omega)).mono ?_
  rintro e w7 ⟨g7, rfl, hg7, ho7, hb7⟩
  have HF7 := hide (HF6.out.below hb7)
  have HX7 := hide (HX6.out.below hb7)
  have HY7 := hide (HY6.out.below hb7)
  have HZ7 := hide (HZ6.out.below hb7)
  have HW7 := hide (below_trans HW6.out hb7)
  have HO7 := hide ho7
  have hmk : (bs ++ marks8).length ≤ 140737488355328 := by rw [List.length_append, marks8_len, HL.out]; omega
  have HMK := hide hmk
  clear hb7 hg7 ho7 hmk
  go_wp2_with fail
  refine (same_eq (some ⟨gx, 0, none⟩) (some ⟨g7, 0, none⟩) (len + 64) (len + 64) (len + 64) (len + 64) (bs ++ marks8) _ (Own.rd HX7.out HMK.out) (Own.rd HO7.out HMK.out)).mono ?_
  rintro e w8 ⟨rfl, hb8⟩
  have HF8 := hide (HF7.out.below hb8)
  have HX8 := hide (HX7.out.below hb8)
  have HY8 := hide (HY7.out.below hb8)
  have HZ8 := hide (HZ7.out.below hb8)
  have HW8 := hide (below_trans HW7.out hb8)
  have HXC : Hid (Own w8 w0.heap.size (.slice (some ⟨gx, 0, none⟩) len (len + 64)) bs) := by
    have h := HX8.out.cut len (by omega)
    rw [HT.out] at h
    exact h
  have HNY : Hid (∀ i, (Value.slice ya N yc).ownBlock = some i → gx ≠ i) := fun i e e2 => by have h1 := HBY.out i e; have h2 := HSZ.out; have h3 := HGX.out; omega
  have HNZ : Hid (∀ i, (Value.slice za N zc).ownBlock = some i → gx ≠ i) := fun i e e2 => by have h1 := World.ownsRow.lt HZ5.out i e; have h2 := HSZ.out; have h3 := HGX.out; have h4 := HS4.out; omega
  have HGW : Hid (w.heap.size ≤ gx) := Nat.le_trans HB0.out.size HGX.out.1
  clear hb8
  obtain ⟨TB, hTB⟩ : ∃ TB, turnL bs 0 len = TB := ⟨_, rfl⟩
  have HTL : Hid (TB.length = len) := by show _ = _; rw [← hTB, turnL_len bs 0 len (by omega) (by rw [HL.out]; exact Nat.le_refl _), HL.out]
  have HTB := hide hTB
  clear hTB
  obtain ⟨d0, d1, d2, d3, d4, d5, d6, d7⟩ := HF8.out.cells
  have HPG : Hid (¬ gx = p) := by show ¬ _; have := HFS.out; omega
  go_wp2_with fail
  go_region_held (fun V => V.cell? ⟨p, 0, none⟩ = some (.int .i64 f.k) ∧ V.cell? ⟨p, 1, none⟩ = some (.int .i64 f.j) ∧ V.cell? ⟨p, 2, none⟩ = some (.int .i64 f.t) ∧ V.cell? ⟨p, 3, none⟩ = some (.int .i64 f.a) ∧ V.cell? ⟨p, 4, none⟩ = some (.int .i64 f.m) ∧ V.cell? ⟨p, 5, none⟩ = some (.int .i64 f.r) ∧ V.cell? ⟨p, 6, none⟩ = some (.int .i64 f.p) ∧ V.cell? ⟨p, 7, none⟩ = some (.int .u32 (f.q.toNat : Int))) (first | go_keep | exact E8.out | exact E9.out | exact E10.out | exact E11.out | exact E12.out) (first
    | (go_at_call 14; refine (turned_any w0.heap.size gx len (len + 64) 0 0 bs _ (HXC.out.below ((Below.refl _ _).drew)) (by omega) (by rfl) (Nat.zero_le _)).mono ?_; rintro e w9 ⟨rfl, ho9, hg9⟩; have HG9 : Hid (w8.grownBy w9 (some gx)) := grown_trans (grown_any (below_grown ((Below.refl _ _).drew)) _) hg9; rw [HTB.out] at ho9; have HX9 := hide ho9; have HF9 := hide (HF8.out.grown HG9.out (fun e => HPG.out (Option.some.inj e))); have HW9 := hide (grown_below HW8.out HG9.out HGW.out); have HY9 := hide (Base.keep HY8.out HG9.out (fun i j e1 e2 e => HNY.out i e1 (by cases e2; exact e.symm))); have HZ9 := hide (Base.keep HZ8.out HG9.out (fun i j e1 e2 e => HNZ.out i e1 (by cases e2; exact e.symm))); have E9 := hide HF9.out.cells; clear ho9 hg9)
    | (go_at_call 10; refine (dam_any (some ⟨gx, 0, none⟩) len (len + 64) f TB _ (Own.rd HX9.out (by rw [HTL.out]; omega)) (by intro h; cases h) (by omega) hp).mono ?_; rintro e w10 ⟨v10, rfl, ho10, hb10⟩; have HO10 := hide ho10; have HF10 := hide (HF9.out.below hb10); have HW10 := hide (below_trans HW9.out hb10); have HY10 := hide (HY9.out.below hb10); have HZ10 := hide (HZ9.out.below hb10); have E10 := hide HF10.out.cells; clear ho10 hb10))
  obtain ⟨ua, uc, rfl⟩ := HO10.out.shape
  obtain ⟨M, hM⟩ : ∃ M, (damL TB f).length = M := ⟨_, rfl⟩
  have hMb : M ≤ 1052672 := by have h1 := dam_len TB f; have h2 := HTL.out; omega
  rw [hM] at HO10
  simp only [hM]
  have HM := hide hM
  have HM2 : Hid ((damL TB f).length ≤ 140737488355328) := by show _ ≤ _; rw [hM]; omega
  clear hM E9 E10 d0 d1 d2 d3 d4 d5 d6 d7
  obtain ⟨d0, d1, d2, d3, d4, d5, d6, d7⟩ := HF10.out.cells
  go_wp2_with fail
  go_region_held (fun V => V.cell? ⟨p, 0, none⟩ = some (.int .i64 f.k) ∧ V.cell? ⟨p, 1, none⟩ = some (.int .i64 f.j) ∧ V.cell? ⟨p, 2, none⟩ = some (.int .i64 f.t) ∧ V.cell? ⟨p, 3, none⟩ = some (.int .i64 f.a) ∧ V.cell? ⟨p, 4, none⟩ = some (.int .i64 f.m) ∧ V.cell? ⟨p, 5, none⟩ = some (.int .i64 f.r) ∧ V.cell? ⟨p, 6, none⟩ = some (.int .i64 f.p) ∧ V.cell? ⟨p, 7, none⟩ = some (.int .u32 (f.q.toNat : Int))) (first | go_keep | exact E8.out | exact E9.out | exact E10.out | exact E11.out | exact E12.out) (first
    | (go_at_call 9; refine (roomy_any a len cap bs _ ((HR.out.below HW10.out).below ((Below.refl _ _).drew)) (by omega)).mono ?_; rintro e w11 ⟨g11, rfl, hg11, ho11, hb11⟩; have HB11 := hide (below_trans ((Below.refl _ _).drew) hb11); have HF11 := hide (HF10.out.below HB11.out); have HW11 := hide (below_trans HW10.out HB11.out); have HY11 := hide (HY10.out.below HB11.out); have HZ11 := hide (HZ10.out.below HB11.out); have HU11 := hide (HO10.out.below HB11.out); have HG11 : Hid (w10.heap.size ≤ g11) := hg11; have HX11 : Hid (Own w11 w10.heap.size (.slice (some ⟨g11, 0, none⟩) len (len + 64)) bs) := (by have h := ho11.cut len (by omega); rw [HT.out] at h; exact h); have E9 := hide HF11.out.cells; clear hg11 ho11 hb11)
    | (go_at_call 14; refine (turned_any w10.heap.size g11 len (len + 64) 0 0 bs _ HX11.out (by omega) (by rfl) (Nat.zero_le _)).mono ?_; rintro e w12 ⟨rfl, ho12, hg12⟩; rw [HTB.out] at ho12; have HX12 := hide ho12; have HF12 := hide (HF11.out.grown hg12 (fun e => by have h1 := HF10.out.lt; have h2 := HG11.out; have h3 : g11 = p := Option.some.inj e; omega)); have HW12 := hide (grown_below HW11.out hg12 (Nat.le_trans HW10.out.size HG11.out)); have HY12 := hide (Base.keep HY11.out hg12 (fun i j e1 e2 e => by have h1 := (World.ownsRow.lt HY10.out i e1).2; have h2 := HG11.out; cases e2; omega)); have HZ12 := hide (Base.keep HZ11.out hg12 (fun i j e1 e2 e => by have h1 := (World.ownsRow.lt HZ10.out i e1).2; have h2 := HG11.out; cases e2; omega)); have HU12 := hide (Base.keep HU11.out hg12 (fun i j e1 e2 e => by have h1 := (World.ownsRow.lt HO10.out i e1).2; have h2 := HG11.out; cases e2; omega)); have E10 := hide HF12.out.cells; clear ho12 hg12)
    | (go_at_call 12; refine (refDam_any (some ⟨g11, 0, none⟩) len (len + 64) f TB _ (Own.rd HX12.out (by rw [HTL.out]; omega)) (by intro h; cases h) (by omega) hp).mono ?_; rintro e w13 ⟨v13, rfl, ho13, hb13⟩; obtain ⟨ta, tc, rfl⟩ := ho13.shape; rw [HM.out] at ho13; simp only [HM.out]; have HO13 := hide ho13; have HF13 := hide (HF12.out.below hb13); have HW13 := hide (below_trans HW12.out hb13); have HY13 := hide (HY12.out.below hb13); have HZ13 := hide (HZ12.out.below hb13); have HU13 := hide (HU12.out.below hb13); have E11 := hide HF13.out.cells; clear ho13 hb13)
    | (go_at_call_of 13 (Value.slice ua M uc); refine (same_eq ua ta M uc M tc (damL TB f) _ (Got.rd HU13.out HM2.out) (Got.rd HO13.out HM2.out)).mono ?_; rintro e w14 ⟨rfl, hb14⟩; have HF14 := hide (HF13.out.below hb14); have HW14 := hide (below_trans HW13.out hb14); have HY14 := hide (HY13.out.below hb14); have HZ14 := hide (HZ13.out.below hb14); have E12 := hide HF14.out.cells; clear hb14)
    | (go_at_call_of 13 (Value.slice ya N yc); refine (same_eq ya za N yc N zc (damL bs f) _ (Got.rd HY14.out hNb2) (Got.rd HZ14.out hNb2)).mono ?_; rintro e w15 ⟨rfl, hb15⟩; have HF15 := hide (HF14.out.below hb15); have HW15 := hide (below_trans HW14.out hb15); have E12 := hide HF15.out.cells; clear hb15))
  go_wp2_with fail
  go_ret
  exact ⟨rfl, HW15.out⟩
end Go.Proofs.Ytbmbhcjocgbbpaa.faultDamages
