/-
  The program's Check.
-/
import Derived.Test.YtbmbhcjocgbbpaaFaCheck
namespace Go.Proofs.Ytbmbhcjocgbbpaa.Fa
open Go.ChangeShapes Go.WideShapes Go.ChangeAt Go.RowKit Go.Maps
open Go.Proofs.Ytbmbhcjocgbbpaa.Base
set_option linter.unusedVariables false
theorem may_key {f : Flt} (h : may f = true) : ∃ l, keyOf Try.prog 71 (pval f.k f.j f.t f.a) = some l := by
  have hb : (0 ≤ f.k ∧ f.k ≤ 2) ∧ (0 ≤ f.j ∧ f.j ≤ 1) ∧ (0 ≤ f.t ∧ f.t ≤ 65535) ∧ (1 ≤ f.a ∧ f.a ≤ 16) := by
    simp [may, isTk, isMp, isRd] at h
    omega
  obtain ⟨h1, h2, h3, h4⟩ := hb
  exact key_place (wf_small (by omega)) (wf_small (by omega)) (wf_small (by omega)) (wf_small (by omega))
theorem take_all (fs : List Flt) (i : Nat) (f : Flt) (hi : i < fs.length) (hf : fs.getD i f0 = f) : fs.take (i + 1) = fs.take i ++ [f] := by
  rw [List.take_succ_eq_append_getElem hi, ← hf, List.getD_eq_getElem?_getD, List.getElem?_eq_getElem hi]
  rfl
theorem all_false {fs : List Flt} {i : Nat} (hi : i < fs.length) (h : may (fs.getD i f0) = false) : fs.all may = false := by
  rw [List.all_eq_false]
  refine ⟨fs.getD i f0, ?_, by rw [h]; simp⟩
  rw [List.getD_eq_getElem?_getD, List.getElem?_eq_getElem hi]
  exact List.getElem_mem hi
set_option maxHeartbeats 2000000 in
set_option maxRecDepth 100000 in
theorem check_any (a : Option Addr) (n cap : Nat) (fs : List Flt) (w : World) (hr : RdL w a n fs) :
    Calls Try.prog 32 #[.slice a n cap] w fun e w' => e = .returned (.int .i64 (chk fs : Nat)) ∧ Below w.heap.size w w' := by
  have HL := hide hr.1
  have HR := hide hr
  clear hr
  by_cases hn : 256 < n
  · have hc : Hid (chk fs = 2) := by show _ = _; unfold chk; rw [if_pos (by rw [HL.out]; exact hn)]
    rw [hc.out]
    have hni : (256 : Int) < (n : Int) := by omega
    go_enter Try.func32, Try.ntmps32
    go_wp2_with fail
    go_ret
    exact ⟨rfl, b0 _⟩
  · have hni : (n : Int) ≤ 256 := by omega
    have hmk : ∀ W, (Instr.makeMap 88 (some (.int .i64 (n : Int)))).run Try.prog W = .ok (.map (some W.heap.size)) (W.alloc (.map #[] 0)) := fun W => by
      rfl
    have HM : Hid (World.ownsMap (H := Unit) (w.alloc (.map #[] 0)) Try.prog 71 (plainElem Try.prog 3) w.heap.size 0 (.map [])) := World.ownsMap_made _ _ _ _
    go_enter Try.func32, Try.ntmps32
    go_wp2_with fail
    go_loopw [14] (fun si wr => ∃ (i : Nat) (D : DataW Unit), i ≤ n ∧ .int .i64 (i : Int) = si ∧ Hid (wr.ownsMap Try.prog 71 (plainElem Try.prog 3) w.heap.size i D) ∧ Hid (Inv D ((fs.take i).map plc)) ∧ Hid ((fs.take i).all may = true) ∧ Hid (Below w.heap.size w wr)) (fun si _ => n - (intOf si).toNat)
    case atStart => exact ⟨0, _, by omega, rfl, HM.out, inv_empty, rfl, ba (b0 _) _⟩
    case round =>
      obtain ⟨i, D, hi, rfl, HO, HI, HA, HB⟩ := hrel
      by_cases hin : i < n
      · have hii : (i : Int) < (n : Int) := by omega
        obtain ⟨b1, o1, rfl, hl1, hc1⟩ := HR.out.2 (by omega)
        obtain ⟨p0, p1, p2, p3, p4, p5, p6, p7⟩ := (hc1 i hin).same (w' := wr) (fun k => HB.out.cell (p := ⟨b1, k, none⟩) hl1)
        clear hc1
        obtain ⟨f, hf⟩ : ∃ f, fs.getD i f0 = f := ⟨_, rfl⟩
        rw [hf] at p0 p1 p2 p3 p4 p5 p6 p7
        have HF := hide hf
        clear hf
        have hil : i < fs.length := by rw [HL.out]; exact hin
        go_wp2_with fail
        refine (mayBe_any f _).mono ?_
        rintro e w1 ⟨rfl, hb1⟩
        obtain ⟨hc, hz⟩ := bcell hb1
        have HO1 : Hid (w1.ownsMap Try.prog 71 (plainElem Try.prog 3) w.heap.size i D) := (HO.out.alloc _).kept (below_grown hb1) (by simp)
        have HB1 := hide (below_trans (ba HB.out _) hb1)
        clear hb1
        by_cases hm : may f = true
        rotate_left
        · have HM2 : Hid (may f = false) := bool_ff hm
          rw [HM2.out]
          clear hm
          have hc2 : Hid (chk fs = 160) := by
            show _ = _
            unfold chk
            rw [if_neg (by rw [HL.out]; omega), if_neg (fun h => by rw [all_false hil (by rw [HF.out]; exact HM2.out)] at h; cases h.1)]
          go_wp2_with fail
          go_ret
          exact ⟨ret_int (by rw [hc2.out]; rfl), HB1.out⟩
        have HM2 := hide hm
        rw [HM2.out]
        obtain ⟨l, hkey⟩ := may_key hm
        have HK := hide hkey
        clear hm hkey
        go_wp2_with fail
        refine (placeOf_any f _).mono ?_
        rintro e w2 ⟨rfl, hb2⟩
        have HO2 : Hid (w2.ownsMap Try.prog 71 (plainElem Try.prog 3) w.heap.size i D) := HO1.out.kept (below_grown hb2) (by simp)
        have HB2 := hide (below_trans HB1.out hb2)
        clear hb2 hc hz
        go_wp2_with (at_mapUpdate; refine wpList_mapUpdate_own _ rfl _ _ _ 88 rfl 71 3 law_place Try.underlying88 _ w.heap.size i D rfl HO2.out (by unfold maxLen; omega) _ _ l rfl rfl HK.out _ [] (plainElem_int Try.underlying3 (wf_small (by omega))) ?_; intro w3 hown3 hg3)
        have HO3 := hide hown3
        have HB3 := hide (grown_below HB2.out hg3 (Nat.le_refl _))
        clear hown3 hg3
        go_roundw
        case rel =>
          refine ⟨i + 1, _, by omega, by go_num, HO3.out, ?_, ?_, HB3.out⟩
          · show Inv _ _
            rw [take_all fs i f hil HF.out, List.map_append]
            exact HI.out.step (x := plc f) HK.out _
          · show _ = _
            rw [take_all fs i f hil HF.out, List.all_append, HA.out]
            simp [HM2.out]
        case measure => simp [intOf]; omega
      · obtain rfl : i = n := by omega
        have hsz := HO.out.size_le
        have hall : fs.take i = fs := List.take_of_length_le (by rw [HL.out]; exact Nat.le_refl _)
        rw [hall] at HI HA
        have hnl : (fs.map plc).length = i := by rw [List.length_map]; exact HL.out
        by_cases hd : (fs.map plc).Nodup
        · have hs : Maps.size D = i := by rw [HI.out.nd hd, hnl]
          have hc2 : Hid (chk fs = 0) := by
            show _ = _
            unfold chk
            rw [if_neg (by rw [HL.out]; omega), if_pos ⟨HA.out, hd⟩]
          have HS := hide hs
          clear hs hnl hd hsz hall
          go_wp2_with (at_len; refine wpList_len_own _ rfl _ 88 rfl 71 3 Try.underlying88 _ w.heap.size i D rfl HO.out ?_; rw [HS.out])
          go_ret
          exact ⟨ret_int (by rw [hc2.out]; rfl), HB.out⟩
        · have hs : Maps.size D < i := by have := HI.out.dp hd; omega
          have hc2 : Hid (chk fs = 160) := by
            show _ = _
            unfold chk
            rw [if_neg (by rw [HL.out]; omega), if_neg (fun h => hd h.2)]
          obtain ⟨m, hm⟩ : ∃ m, Maps.size D = m := ⟨_, rfl⟩
          rw [hm] at hs
          have HS := hide hm
          have hsi : (m : Int) < (i : Int) := by omega
          clear hs hnl hd hsz hall hm
          go_wp2_with (at_len; refine wpList_len_own _ rfl _ 88 rfl 71 3 Try.underlying88 _ w.heap.size i D rfl HO.out ?_; rw [HS.out])
          go_ret
          exact ⟨ret_int (by rw [hc2.out]; rfl), HB.out⟩
end Go.Proofs.Ytbmbhcjocgbbpaa.Fa
