/-
  The symbols in the order of their words: the program's row.
-/
import Derived.Test.YthdblnfohbldcaaGreatHuffN1
import Derived.Test.YthdblnfohbldcaaGreatHuffC5m
import Derived.Deep.RegionHeld
namespace Go.Proofs.YthdblnfohbldcaaGreat.Huff
open Go.ChangeShapes Go.WideShapes Go.ChangeAt Go.RowKit
open Go.Proofs.YthdblnfohbldcaaGreat.Base
set_option linter.unusedVariables false
/-- Where the next symbol of each length comes to stand, when the first k have been laid. -/
def PlcAt (ls NX : List Int) (k : Nat) : Prop := NX.length = 16 ∧ ∀ l, 0 < l → l < 16 → NX.getD l 0 = ((ahead ls l + cnt ls l k : Nat) : Int)
theorem plcAt_zero (ls : List Int) : PlcAt ls (((wordsOf ls).drop 32).take 16) 0 := by
  refine ⟨by rw [List.length_take, List.length_drop, wordsOf_len]; rfl, fun l h1 h2 => ?_⟩
  rw [List.getD_eq_getElem?_getD, List.getElem?_take, if_pos h2, List.getElem?_drop, ← List.getD_eq_getElem?_getD, wordsOf_ahead ls l h2]
  rfl
theorem plcAt_skip {ls NX : List Int} {k : Nat} (h : PlcAt ls NX k) (hx : ls.getD k 0 = 0) : PlcAt ls NX (k + 1) := by
  refine ⟨h.1, fun l h1 h2 => ?_⟩
  rw [h.2 l h1 h2]
  simp only [cnt]
  rw [if_neg (by rw [hx]; omega)]
  rfl
theorem plcAt_inc {ls NX : List Int} {k q : Nat} (h : PlcAt ls NX k) (hx : ls.getD k 0 = (q : Int)) (hq : 0 < q) (hq2 : q < 16) : PlcAt ls (NX.set q (((ahead ls q + cnt ls q k : Nat) : Int) + 1)) (k + 1) := by
  refine ⟨by rw [List.length_set]; exact h.1, fun l h1 h2 => ?_⟩
  rw [getD_set _ _ _ _ (by rw [h.1]; omega)]
  simp only [cnt]
  by_cases e : q = l
  · subst e
    rw [if_pos rfl, if_pos hx]
    omega
  · rw [if_neg e, h.2 l h1 h2, if_neg (by rw [hx]; omega)]
    rfl
def OrdAt (ls : List Int) (O : List (BitVec 8)) (k : Nat) : Prop := O.length = ahead ls 16 ∧ ∀ i, i < k → 0 < ls.getD i 0 → O.getD (placeOf ls i) 0 = BitVec.ofNat 8 i
theorem ordAt_skip {ls : List Int} {O : List (BitVec 8)} {k : Nat} (h : OrdAt ls O k) (hx : ls.getD k 0 = 0) : OrdAt ls O (k + 1) := by
  refine ⟨h.1, fun i hi hp => ?_⟩
  by_cases e : i = k
  · subst e; omega
  · exact h.2 i (by omega) hp
theorem getD_set8 (L : List (BitVec 8)) (i j : Nat) (v : BitVec 8) (h : i < L.length) : (L.set i v).getD j 0 = if i = j then v else L.getD j 0 := by
  rw [List.getD_eq_getElem?_getD, List.getElem?_set, List.getD_eq_getElem?_getD]
  by_cases e : i = j
  · rw [if_pos e, if_pos e, if_pos h]; rfl
  · rw [if_neg e, if_neg e]
theorem place_all {ls : List Int} {k q : Nat} (hk : k < ls.length) (hx : ls.getD k 0 = (q : Int)) (hq : 0 < q) (hq2 : q < 16) : placeOf ls k = ahead ls q + cnt ls q k ∧ placeOf ls k < ahead ls 16 := by
  have h1 := place_lt ls q k hq hk hx
  have h2 := ahead_mono ls (show q + 1 ≤ 16 by omega)
  refine ⟨by unfold placeOf; rw [hx, Int.toNat_natCast], by omega⟩
theorem ordAt_inc {ls : List Int} {O : List (BitVec 8)} {k q : Nat} (h : OrdAt ls O k) (hin : allIn 15 ls = true) (hk : k < ls.length) (hx : ls.getD k 0 = (q : Int)) (hq : 0 < q) (hq2 : q < 16) : OrdAt ls (O.set (ahead ls q + cnt ls q k) (BitVec.ofNat 8 k)) (k + 1) := by
  obtain ⟨p1, p2⟩ := place_all hk hx hq hq2
  refine ⟨by rw [List.length_set]; exact h.1, fun i hi hp => ?_⟩
  rw [← p1, getD_set8 _ _ _ _ (by rw [h.1]; exact p2)]
  by_cases e : i = k
  · subst e; rw [if_pos rfl]
  · have hil := allIn_get hin i (by omega)
    obtain ⟨m, hm⟩ : ∃ m : Nat, ls.getD i 0 = (m : Int) := ⟨(ls.getD i 0).toNat, by omega⟩
    rw [if_neg (fun e2 => e (place_uniq ls (by omega) hk (by omega) hq hm hx e2.symm)), h.2 i (by omega) hp]
theorem make8 (n : Nat) : madeCells #[Value.int .u8 0] n = (vals (List.replicate n 0)).toArray := by
  apply Array.ext
  · rw [size_madeCells]; simp [vals]
  · intro k h1 h2
    simp [madeCells, vals, V8, Nat.mod_one]
theorem make_row_u8 (n : Nat) (m : Int) (hm : m = (n : Int)) (h : n ≤ 140737488355328) : ∀ W, (Instr.makeSlice 24 (.int .i64 m) (.int .i64 m)).run Tryz.prog W = .ok (.slice (some ⟨W.heap.size, 0, none⟩) n n) (W.alloc (.cells (vals (List.replicate n 0)).toArray 5)) := by
  intro W
  subst hm
  rw [← make8]
  exact run_make_row' 24 5 (.int .u8 0) 1 Tryz.underlying24 info8 rfl .i64 .i64 n (by omega) (by omega) W
set_option maxHeartbeats 1000000 in
set_option maxRecDepth 100000 in
theorem order_any (gw : Nat) (a : Option Addr) (len cap : Nat) (ls : List Int) (w : World) (hw : RowI 81 w gw (wordsOf ls)) (hr : RdI w a len ls) (hl : len ≤ 256) (hin : allIn 15 ls = true) :
    Calls Tryz.prog 46 #[.pointer (some ⟨gw, 0, none⟩), .slice a len cap] w fun e w' => ∃ g n O, e = .returned (.slice (some ⟨g, 0, none⟩) n n) ∧ OrdAt ls O len ∧ Own w' w.heap.size (.slice (some ⟨g, 0, none⟩) n n) O ∧ Below w.heap.size w w' := by
  have HL := hide hr.1
  have HR := hide hr
  have HCN := hide hr.2.2
  have HW := hide hw
  have HLW := hide (wordsOf_len ls)
  have HIN := hide hin
  clear hr hw hin
  have HNL : Hid ((((wordsOf ls).drop 32).take 16).length = 16) := by show _ = _; rw [List.length_take, List.length_drop, HLW.out]; rfl
  have HRGa : Hid (w.rangeAt gw 32 (ivals (((wordsOf ls).drop 32).take 16))) := row_range HW.out 32 16 (by rw [HLW.out]; omega)
  have HRGb : Hid ((w.alloc (.cells Z16 79)).rangeAt gw 32 (ivals (((wordsOf ls).drop 32).take 16))) := World.rangeAt_alloc HRGa.out _
  have HN0 : Hid (RowI 79 (w.alloc (.cells Z16 79)) w.heap.size (List.replicate 16 0)) := rowi_new _ _ _
  have HNX : Hid (RowI 79 ((w.alloc (.cells Z16 79)).setCells w.heap.size 0 (ivals (((wordsOf ls).drop 32).take 16))) w.heap.size (((wordsOf ls).drop 32).take 16)) := row_setAll HN0.out (by rw [List.length_replicate, HNL.out])
  have HONE := hide (ivals_one (((wordsOf ls).drop 32).take 16))
  have HBB : Hid (Below w.heap.size w ((w.alloc (.cells Z16 79)).setCells w.heap.size 0 (ivals (((wordsOf ls).drop 32).take 16)))) :=
    ((Below.refl w.heap.size w).alloc (Nat.le_refl _) _).grown (setCells_grown _ _ _ (World.grownBy.refl _ _)) ((Below.refl w.heap.size w).alloc (Nat.le_refl _) _).size (fun i e => by cases e; exact Nat.le_refl _)
  have HTH : Hid ((w.alloc (.cells Z16 79)).there w.heap.size 0 (ivals (((wordsOf ls).drop 32).take 16)).toArray.size) := hide (by
    have e16 : (ivals (((wordsOf ls).drop 32).take 16)).toArray.size = 16 := by rw [List.size_toArray, length_ivals, HNL.out]
    rw [e16]
    exact row_there HN0.out 0 16 (by rw [List.length_replicate]; omega))
  have I1 : Hid ((Tryz.prog.info? 79).map (·.size) = some (ivals (((wordsOf ls).drop 32).take 16)).length) := by show _ = _; rw [length_ivals, HNL.out]; exact info16
  have I2 : Hid ((Tryz.prog.info? 79).map (·.size) = some (ivals (((wordsOf ls).drop 32).take 16)).toArray.size) := by show _ = _; rw [List.size_toArray, length_ivals, HNL.out]; exact info16
  have HNA := hide (plcAt_zero ls)
  have u16 := Tryz.underlying79
  generalize ((wordsOf ls).drop 32).take 16 = NX at HNL HRGa HRGb HNX HONE HBB HTH I1 I2 HNA
  obtain ⟨V2, hV2⟩ : ∃ V2, ivals NX = V2 := ⟨_, rfl⟩
  rw [hV2] at HRGa HRGb HNX HONE HBB HTH I1 I2
  obtain ⟨w4, hw4⟩ : ∃ w4, (w.alloc (.cells Z16 79)).setCells w.heap.size 0 V2 = w4 := ⟨_, rfl⟩
  have HW4 := hide hw4
  rw [hw4] at HNX HBB
  have HGN : Hid (gw < w.heap.size) := HW.out.lt
  have HRow4 : Hid (RowI 81 w4 gw (wordsOf ls)) := HW.out.below HBB.out
  clear hV2 hw4
  have hs4 : w.heap.size ≤ w4.heap.size := HBB.out.size
  have c1 := HRow4.out.cell 15 (by rw [HLW.out]; omega)
  have c2 := HRow4.out.cell 47 (by rw [HLW.out]; omega)
  rw [wordsOf_count ls 15 (by omega)] at c1
  rw [show 47 = 32 + 15 from rfl, wordsOf_ahead ls 15 (by omega)] at c2
  have HT : Hid (ahead ls 16 = ahead ls 15 + cntW ls ls.length 15) := rfl
  have hcl := cntW_le ls ls.length 15
  have hal := ahead_le ls (by rw [HL.out]; exact hl) 15
  obtain ⟨C, hC⟩ : ∃ C, cntW ls ls.length 15 = C := ⟨_, rfl⟩
  obtain ⟨A, hA⟩ : ∃ A, ahead ls 15 = A := ⟨_, rfl⟩
  rw [hC] at c1 HT hcl
  rw [hA] at c2 HT hal
  have hCi : (C : Int) ≤ 256 := by rw [HL.out] at hcl; omega
  have hAi : (A : Int) ≤ 3840 := by omega
  obtain ⟨T, hT⟩ : ∃ T, A + C = T := ⟨_, rfl⟩
  have hT1 : IntKind.i64.wrap ((A : Int) + (C : Int)) = (T : Int) := by rw [IntKind.wrap_i64]; omega
  have HTT : Hid (ahead ls 16 = T) := by show _ = _; rw [HT.out, hT]
  have hTi : (T : Int) ≤ 4096 := by omega
  have hTn : T ≤ 4096 := by omega
  clear hC hA hcl hal hT HT
  have hmk := make_row_u8 T (T : Int) rfl (by omega)
  have HMO : Hid (∀ W : World, w.heap.size ≤ W.heap.size → Own (W.alloc (.cells (vals (List.replicate T 0)).toArray 5)) w.heap.size (.slice (some ⟨W.heap.size, 0, none⟩) T T) (List.replicate T 0)) := by
    show ∀ W : World, _
    intro W hW
    have h := own_heap (base := w.heap.size) (bs := List.replicate T 0) (heap_alloc_new W _) hW (by unfold maxLen; simp; omega)
    rw [List.length_replicate] at h
    exact h
  generalize (vals (List.replicate T 0)).toArray = ZT at hmk HMO
  go_enter Tryz.func46, Tryz.ntmps46
  go_wp2_with (first
    | (refine wpList_load_mid rfl 79 (.tmp 11) rfl gw 32 rfl V2 _ (by first | exact HRGb.out | exact HRGa.out) u16 rfl I1.out ?_)
    | (refine wpList_store_mid rfl 79 (.tmp 5) (.tmp 12) rfl w.heap.size 0 V2.toArray rfl rfl HTH.out I2.out (all_oneCell_toArray HONE.out) ?_
       rw [z16, List.toList_toArray, HW4.out]))
  go_region_held (fun V => V.cell? ⟨gw, 15, none⟩ = some (.int .i64 (C : Int)) ∧ V.cell? ⟨gw, 32 + 15, none⟩ = some (.int .i64 (A : Int))) (go_keep) (fail)
  go_wp2_with fail
  obtain ⟨w5, hw5⟩ : ∃ w5, (w4.alloc (.cells ZT 5)).drew = w5 := ⟨_, rfl⟩
  have HB45 : Hid (Below w4.heap.size w4 w5) := by rw [← hw5]; exact ((Below.refl w4.heap.size w4).alloc (Nat.le_refl _) _).drew
  have HO5 : Hid (Own w5 w.heap.size (.slice (some ⟨w4.heap.size, 0, none⟩) T T) (List.replicate T 0)) := by
    rw [← hw5]
    exact (HMO.out w4 hs4).below ((Below.refl _ _).drew)
  have HN5 : Hid (RowI 79 w5 w.heap.size NX) := HNX.out.below HB45.out
  have HB5 : Hid (Below w.heap.size w w5) := below_trans HBB.out HB45.out
  have HGC : Hid (w.heap.size < w4.heap.size) := HNX.out.lt
  have HOA : Hid (OrdAt ls (List.replicate T 0) 0) := ⟨by rw [List.length_replicate, HTT.out], fun i h => by omega⟩
  rw [hw5]
  obtain ⟨gn, hgn⟩ : ∃ gn, w.heap.size = gn := ⟨_, rfl⟩
  obtain ⟨gc, hgc⟩ : ∃ gc, w4.heap.size = gc := ⟨_, rfl⟩
  have HLO : Hid (w.heap.size ≤ gn ∧ w.heap.size ≤ gc) := by rw [← hgn, ← hgc]; exact ⟨Nat.le_refl _, hs4⟩
  have HNC : Hid (gn ≠ gc) := by have := HGC.out; show _ ≠ _; omega
  have HO6 : Hid (Own w5 w.heap.size (.slice (some ⟨gc, 0, none⟩) T T) (List.replicate T 0)) := by rw [← hgc]; exact HO5.out
  have HN6 : Hid (RowI 79 w5 gn NX) := by rw [← hgn]; exact HN5.out
  simp only [hgn, hgc]
  clear HO5 HN5 hw5 HB45 HMO hmk HNX HBB HN0 HTH HW4 HRGa HRGb HONE I1 I2 hs4 u16 hgn hgc HGC c1 c2 HRow4 HW HGN HNL
  go_loopw [27] (fun i wr => ∃ (k : Nat) (NX : List Int) (O : List (BitVec 8)), k ≤ len ∧ i = .int .i64 (k : Int) ∧ Hid (PlcAt ls NX k) ∧ Hid (OrdAt ls O k) ∧ Hid (RowI 79 wr gn NX) ∧ Hid (Own wr w.heap.size (.slice (some ⟨gc, 0, none⟩) T T) O) ∧ Hid (Below w.heap.size w wr)) (fun i _ => len - (intOf i).toNat)
  case atStart => exact ⟨0, NX, _, Nat.zero_le _, rfl, HNA, HOA, HN6, HO6, HB5⟩
  case round =>
    clear HNA HN6 HO6 HB5 HOA
    obtain ⟨k, NX, O, hk, rfl, HNA, HOA, HNR, HOW, HB⟩ := hrel
    by_cases hlt : k < len
    · obtain ⟨b1, o1, rfl, hb1, hc1⟩ := unhide HCN (by omega)
      have g1 := hc1 k hlt
      have hx := allIn_get HIN.out k (by have := HL.out; omega)
      rw [← HB.out.cell (p := ⟨b1, o1 + k, none⟩) hb1] at g1
      clear hc1
      have hki : (k : Int) < (len : Int) := by omega
      obtain ⟨x, hxe⟩ : ∃ x, ls.getD k 0 = x := ⟨_, rfl⟩
      rw [hxe] at g1 hx
      by_cases hp : 0 < x
      · obtain ⟨q, hq⟩ : ∃ q : Nat, x = (q : Int) := ⟨x.toNat, by omega⟩
        subst hq
        have HNI := hide (plcAt_inc HNA.out hxe (by omega) (by omega))
        have HOI := hide (ordAt_inc HOA.out HIN.out (by rw [HL.out]; exact hlt) hxe (by omega) (by omega))
        have hpl := place_all (ls := ls) (k := k) (by rw [HL.out]; exact hlt) hxe (by omega) (by omega)
        have g2 := HNR.out.cell q (by rw [HNA.out.1]; omega)
        rw [HNA.out.2 q (by omega) (by omega)] at g2
        have f2 := HNR.out.frozen q
        obtain ⟨U, hU⟩ : ∃ U, ahead ls q + cnt ls q k = U := ⟨_, rfl⟩
        rw [hU] at g2 HNI HOI
        have hUT : U < T := by rw [← HTT.out]; omega
        have hUi : (U : Int) < (T : Int) := by omega
        have c1 := HOW.out.cell U hUT
        have f3 := HOW.out.frozen U
        generalize O.getD U 0 = d at c1
        have HST := hide (HOW.out.store U (BitVec.ofNat 8 k)).1
        have hkc : ((BitVec.ofNat 8 k).toNat : Int) = (k : Int) := by rw [BitVec.toNat_ofNat]; omega
        rw [hkc] at HST
        have hgne := HNC.out
        have HG2 : Hid (wr.grownBy (wr.setCell ⟨gc, U, none⟩ (.int .u8 (k : Int))) (some gc)) := grown_cell (World.grownBy.refl _ _) _ _
        have HBS : Hid (Below w.heap.size w (wr.setCell ⟨gc, U, none⟩ (.int .u8 (k : Int)))) := HB.out.setCell HLO.out.2 _
        have HNS : Hid (RowI 79 (wr.setCell ⟨gc, U, none⟩ (.int .u8 (k : Int))) gn NX) := HNR.out.grown HG2.out (fun e => hgne (Option.some.inj e).symm)
        have g5 := HNS.out.cell q (by rw [HNA.out.1]; omega)
        rw [HNA.out.2 q (by omega) (by omega), hU] at g5
        have f5 := HNS.out.frozen q
        have hq1 : (q : Int) < 16 := by omega
        have hq0 : 0 < (q : Int) := hp
        have hk8 : (k : Int) % 256 = (k : Int) := by omega
        have hk7 : (k : Int) < 256 := by omega
        clear hxe hx hp hU hpl hkc
        go_wp2_with fail
        go_roundw
        case rel =>
          refine ⟨k + 1, _, _, by omega, by go_num, HNI, HOI, HNS.out.store q _, ?_, HBS.out.setCell HLO.out.1 _⟩
          exact keep HST.out (grown_cell (World.grownBy.refl _ _) _ _) (fun i j e e2 => by have h1 := blk_eq e; have h2 := Option.some.inj e2; omega)
        case measure => simp [intOf]; omega
      · obtain rfl : x = 0 := by omega
        have HNI := hide (plcAt_skip HNA.out hxe)
        have HOI := hide (ordAt_skip HOA.out hxe)
        clear hxe hx hp
        go_wp2_with fail
        go_roundw
        case rel => exact ⟨k + 1, NX, O, by omega, by go_num, HNI, HOI, HNR, HOW, HB⟩
        case measure => simp [intOf]; omega
    · obtain rfl : k = len := by omega
      go_wp2_with fail
      go_ret
      exact ⟨_, _, O, rfl, HOA.out, HOW.out, HB.out⟩
end Go.Proofs.YthdblnfohbldcaaGreat.Huff
