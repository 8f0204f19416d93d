/-
  keep: one more is handed out, and every other one is marked at once.
-/
import Derived.Test.YtcchknpgkcmneaaNcT3
namespace Go.Proofs.Ytcchknpgkcmneaa.Curs
open Go.ChangeShapes Go.WideShapes Go.ChangeAt Go.RowKit
open Go.Proofs.Ytcchknpgkcmneaa.Base Go.Proofs.Ytcchknpgkcmneaa.Nums
set_option linter.unusedVariables false
set_option maxHeartbeats 2000000 in
set_option maxRecDepth 100000 in
theorem keep_any (base gt : Nat) (vl vw vg : Value) (es : List En) (va : Option Addr) (vn vc : Nat) (bs : List (BitVec 8)) (w : World) (h : TK w base gt vl vw vg es) (hv : Own w base (.slice va vn vc) bs) (hf : Fu (.slice va vn vc)) (hbs : bs.length ≤ 1048576) (hes : es.length ≤ 4194000) (hbase : base ≤ w.heap.size)
    (h3 : ∀ (n : Nat) (e : En), es[n]? = some e → ∀ j i, j < 3 → (Value.slice va vn vc).ownBlock = some i → (e.sl j).ownBlock ≠ some i) :
    Calls Try.prog 53 #[.pointer (some ⟨gt, 0, none⟩), .slice va vn vc] w fun e' w' => e' = .returned (.tuple #[]) ∧ (∃ vl' vw' vg' es', es'.length = es.length + 1 ∧ TK w' base gt vl' vw' vg' es') ∧ Below base w w' := by
  have HTQ := hide h.tq
  have HAP := hide h.ap
  have HV := hide hv
  have HFU := hide hf
  have H3 := hide h3
  have HTOP := hide h.tops.2.2.2
  have HVT : Hid (∀ i, (Value.slice va vn vc).ownBlock = some i → i < w.heap.size) := fun i e => (blk hv i e).2
  have HBS := hide hbs
  have hvn : vn ≤ 1048576 := by have := (Got.cap hv).2; omega
  obtain ⟨m, hm⟩ : ∃ m, es.length = m := ⟨_, rfl⟩
  have HM := hide hm
  have hm2 : m ≤ 4194000 := by omega
  have hmi : (m : Int) ≤ 4194000 := by omega
  have HBW := hide hbase
  have HXL : Hid ((es.map En.l).length = m) := by show _ = _; rw [List.length_map]; exact hm
  have HXW : Hid ((es.map En.h).length = m) := by show _ = _; rw [List.length_map]; exact hm
  have HXG : Hid ((es.map En.g).length = m) := by show _ = _; rw [List.length_map]; exact hm
  clear h hv hf hes h3 hbs hm
  go_enter Try.func53, Try.ntmps53
  go_wp2_with (first
    | (at_builtin; refine join _ rfl _ _ rfl w.heap.size (.slice none 0 0) [] rfl (own_none _ _) va vn vc bs rfl (Got.rd HV.out (by have := HBS.out; omega)) (fun h => Got.nil HV.out h) (by simp; omega) (Nat.le_refl _) ?_
       intro v1 w1 ho1 hg1
       rw [List.nil_append] at ho1
       obtain ⟨ha, hn, hc, rfl, HN1⟩ := Lz.own_named ho1
       have HO1 := hide ho1
       have HB1 : Hid (Below w.heap.size w w1) := (Below.refl _ _).grown hg1 (Nat.le_refl _) (fun i e => by cases e)
       have HQ1 := hide (HTQ.out.below HB1.out)
       have HV1 := hide (HV.out.below HB1.out)
       have HS1 : Hid (base ≤ w1.heap.size) := Nat.le_trans HBW.out HB1.out.size
       have HR1 : Hid (Below base w w1) := HB1.out.mono HBW.out
       have HZB : Hid (∀ i, (Value.slice ha hn hc).ownBlock = some i → w.heap.size ≤ i) := fun i e => (blk HO1.out i e).1
       obtain ⟨y0, y1, y2, yf⟩ := HQ1.out.cells
       obtain ⟨w2, hw2⟩ : ∃ w2, w1.alloc (.cells #[.slice va vn vc] 22) = w2 := ⟨_, rfl⟩
       have hba : Below w1.heap.size w1 w2 := by rw [← hw2]; exact (Below.refl _ _).alloc (Nat.le_refl _) _
       have hc0 : w2.cell? ((⟨w1.heap.size, 0, none⟩ : Addr).add 0) = some (.slice va vn vc) := by rw [← hw2]; exact cell_one_new _ _ _ 0 _ rfl
       have HC2 := hide hc0
       have HQ2 := hide (HQ1.out.below hba)
       have HV2 := hide (HV1.out.below hba)
       have HO2 := hide (HO1.out.below hba)
       have HR2 : Hid (Below base w w2) := HR1.out.trans (hba.mono HS1.out)
       have HS2 : Hid (base ≤ w2.heap.size) := Nat.le_trans HS1.out hba.size
       clear ho1 hg1 hba HQ1 hc0)
    | (at_builtin; refine pushV _ rfl _ _ 40 22 (.slice none 0 0) 24 rfl Try.underlying40 infoBs rfl (by omega) base vl m (es.map En.l) rfl (by have := HQ2.out.rl; rw [HXL.out] at this; exact this) ⟨w1.heap.size, 0, none⟩ 1 (.slice va vn vc) rfl HC2.out rfl (by omega) HS2.out ?_
       intro g3 c3 w3 hr hp
       obtain ⟨hq, hb, hk, htb⟩ := HQ2.out.pushL HXL.out hr hp HS2.out
       clear y0 y1 y2 yf
       have y0 : w3.cell? ⟨gt, 0, none⟩ = some vl := by rw [cell_of_row _ _ _ _ _ _ htb]; rfl
       have y1 : w3.cell? ⟨gt, 1, none⟩ = some vw := by rw [cell_of_row _ _ _ _ _ _ htb]; rfl
       have y2 : w3.cell? ⟨gt, 2, none⟩ = some vg := by rw [cell_of_row _ _ _ _ _ _ htb]; rfl
       have yf : ∀ k, w3.frozen? ⟨gt, k, none⟩ = false := fun k => frozen_of_row _ _ _ _ _ htb
       have yk := yf 0
       obtain ⟨w4, hw4⟩ : ∃ w4, w3.setCell ⟨gt, 0, none⟩ (.slice (some ⟨g3, 0, none⟩) (m + 1) c3) = w4 := ⟨_, rfl⟩
       rw [hw4] at hq hb hk
       have HQ4 := hide hq
       have HV4 := hide (hk _ _ _ HV2.out)
       have HO4 := hide (hk _ _ _ HO2.out)
       have HR4 : Hid (Below base w w4) := HR2.out.trans hb
       have HS4 : Hid (base ≤ w4.heap.size) := Nat.le_trans HS2.out hb.size
       obtain ⟨z0, z1, z2, zf⟩ := HQ4.out.cells
       clear hr hp hq hb hk htb HQ2 HV2 HO2 HR2 HC2
       obtain ⟨w5, hw5⟩ : ∃ w5, w4.alloc (.cells #[.slice ha hn hc] 22) = w5 := ⟨_, rfl⟩
       have hba : Below w4.heap.size w4 w5 := by rw [← hw5]; exact (Below.refl _ _).alloc (Nat.le_refl _) _
       have hc0 : w5.cell? ((⟨w4.heap.size, 0, none⟩ : Addr).add 0) = some (.slice ha hn hc) := by rw [← hw5]; exact cell_one_new _ _ _ 0 _ rfl
       have HC5 := hide hc0
       have HQ5 := hide (HQ4.out.below hba)
       have HV5 := hide (HV4.out.below hba)
       have HO5 := hide (HO4.out.below hba)
       have HR5 : Hid (Below base w w5) := HR4.out.trans (hba.mono HS4.out)
       have HS5 : Hid (base ≤ w5.heap.size) := Nat.le_trans HS4.out hba.size
       clear hba hc0 HQ4 HV4 HO4 HR4)
    | (at_builtin; refine pushV _ rfl _ _ 40 22 (.slice none 0 0) 24 rfl Try.underlying40 infoBs rfl (by omega) base vw m (es.map En.h) rfl (by have := HQ5.out.rw'; rw [HXW.out] at this; exact this) ⟨w4.heap.size, 0, none⟩ 1 (.slice ha hn hc) rfl HC5.out rfl (by omega) HS5.out ?_
       intro g6 c6 w6 hr hp
       obtain ⟨hq, hb, hk, htb⟩ := HQ5.out.pushW HXW.out hr hp HS5.out
       clear y0 y1 y2 yf
       have y0 : w6.cell? ⟨gt, 0, none⟩ = some (.slice (some ⟨g3, 0, none⟩) (m + 1) c3) := by rw [cell_of_row _ _ _ _ _ _ htb]; rfl
       have y1 : w6.cell? ⟨gt, 1, none⟩ = some vw := by rw [cell_of_row _ _ _ _ _ _ htb]; rfl
       have y2 : w6.cell? ⟨gt, 2, none⟩ = some vg := by rw [cell_of_row _ _ _ _ _ _ htb]; rfl
       have yf : ∀ k, w6.frozen? ⟨gt, k, none⟩ = false := fun k => frozen_of_row _ _ _ _ _ htb
       have yk := yf 1
       obtain ⟨w7, hw7⟩ : ∃ w7, w6.setCell ⟨gt, 1, none⟩ (.slice (some ⟨g6, 0, none⟩) (m + 1) c6) = w7 := ⟨_, rfl⟩
       rw [hw7] at hq hb hk
       have HQ7 := hide hq
       have HV7 := hide (hk _ _ _ HV5.out)
       have HO7 := hide (hk _ _ _ HO5.out)
       have HR7 : Hid (Below base w w7) := HR5.out.trans hb
       have HS7 : Hid (base ≤ w7.heap.size) := Nat.le_trans HS5.out hb.size
       obtain ⟨z0, z1, z2, zf⟩ := HQ7.out.cells
       clear hr hp hq hb hk htb HQ5 HV5 HO5 HR5 HC5
       obtain ⟨w8, hw8⟩ : ∃ w8, w7.alloc (.cells #[.slice none 0 0] 22) = w8 := ⟨_, rfl⟩
       have hba : Below w7.heap.size w7 w8 := by rw [← hw8]; exact (Below.refl _ _).alloc (Nat.le_refl _) _
       have hc0 : w8.cell? ((⟨w7.heap.size, 0, none⟩ : Addr).add 0) = some (.slice none 0 0) := by rw [← hw8]; exact cell_one_new _ _ _ 0 _ rfl
       have HC8 := hide hc0
       have HQ8 := hide (HQ7.out.below hba)
       have HV8 := hide (HV7.out.below hba)
       have HO8 := hide (HO7.out.below hba)
       have HR8 : Hid (Below base w w8) := HR7.out.trans (hba.mono HS7.out)
       have HS8 : Hid (base ≤ w8.heap.size) := Nat.le_trans HS7.out hba.size
       clear hba hc0 HQ7 HV7 HO7 HR7)
    | (at_builtin; refine pushV _ rfl _ _ 40 22 (.slice none 0 0) 24 rfl Try.underlying40 infoBs rfl (by omega) base vg m (es.map En.g) rfl (by have := HQ8.out.rg; rw [HXG.out] at this; exact this) ⟨w7.heap.size, 0, none⟩ 1 (.slice none 0 0) rfl HC8.out rfl (by omega) HS8.out ?_
       intro g9 c9 w9 hr hp
       obtain ⟨hq, hb, hk, htb⟩ := HQ8.out.pushG HXG.out hr hp HS8.out
       clear y0 y1 y2 yf
       have y0 : w9.cell? ⟨gt, 0, none⟩ = some (.slice (some ⟨g3, 0, none⟩) (m + 1) c3) := by rw [cell_of_row _ _ _ _ _ _ htb]; rfl
       have y1 : w9.cell? ⟨gt, 1, none⟩ = some (.slice (some ⟨g6, 0, none⟩) (m + 1) c6) := by rw [cell_of_row _ _ _ _ _ _ htb]; rfl
       have y2 : w9.cell? ⟨gt, 2, none⟩ = some vg := by rw [cell_of_row _ _ _ _ _ _ htb]; rfl
       have yf : ∀ k, w9.frozen? ⟨gt, k, none⟩ = false := fun k => frozen_of_row _ _ _ _ _ htb
       have yk := yf 2
       obtain ⟨w10, hw10⟩ : ∃ w10, w9.setCell ⟨gt, 2, none⟩ (.slice (some ⟨g9, 0, none⟩) (m + 1) c9) = w10 := ⟨_, rfl⟩
       rw [hw10] at hq hb hk
       have HQ10 := hide hq
       have HV10 := hide (hk _ _ _ HV8.out)
       have HO10 := hide (hk _ _ _ HO8.out)
       have HR10 : Hid (Below base w w10) := HR8.out.trans hb
       have HS10 : Hid (base ≤ w10.heap.size) := Nat.le_trans HS8.out hb.size
       obtain ⟨z0, z1, z2, zf⟩ := HQ10.out.cells
       clear hr hp hq hb hk htb HQ8 HV8 HO8 HR8 HC8))
  all_goals
    have HTK : Hid (TK w10 base gt (.slice (some ⟨g3, 0, none⟩) (m + 1) c3) (.slice (some ⟨g6, 0, none⟩) (m + 1) c6) (.slice (some ⟨g9, 0, none⟩) (m + 1) c9) (es ++ [(⟨.slice va vn vc, .slice ha hn hc, .slice none 0 0, bs⟩ : En)])) :=
      HQ10.out.tk HAP.out HV10.out HFU.out (HO10.out.mono HBW.out) HBS.out HZB.out HVT.out (fun n e he j i e2 => (HTOP.out n e he j i e2).2) H3.out
    have HEN : Hid ((es ++ [(⟨.slice va vn vc, .slice ha hn hc, .slice none 0 0, bs⟩ : En)])[m]? = some (⟨.slice va vn vc, .slice ha hn hc, .slice none 0 0, bs⟩ : En)) := by show _ = _; rw [← HM.out, List.getElem?_append_right (Nat.le_refl _), Nat.sub_self]; rfl
    have HLN : Hid ((es ++ [(⟨.slice va vn vc, .slice ha hn hc, .slice none 0 0, bs⟩ : En)]).length = es.length + 1) := by show _ = _; rw [List.length_append]; rfl
    clear y0 y1 y2 yf yk
  all_goals first
    | (go_end0; exact ⟨rfl, ⟨_, _, _, _, HLN.out, HTK.out⟩, HR10.out⟩)
    | (have HMK := hide (mark_any base gt m _ _ _ _ _ w10 HTK.out HEN.out HS10.out (by omega))
       (try rw [show ((m : Int) + 1 - 1) = (m : Int) by omega])
       refine HMK.out.mono ?_
       rintro e wz ⟨rfl, ⟨gz, htz⟩, hbz⟩
       have HTZ := hide htz
       have HBZ := hide (HR10.out.trans hbz)
       clear htz hbz HMK
       go_wp2_with fail
       go_end0
       exact ⟨rfl, ⟨_, _, _, _, by rw [List.length_set]; exact HLN.out, HTZ.out⟩, HBZ.out⟩)
end Go.Proofs.Ytcchknpgkcmneaa.Curs
