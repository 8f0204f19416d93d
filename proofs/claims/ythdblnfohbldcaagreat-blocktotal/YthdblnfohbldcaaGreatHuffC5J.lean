/-
  A block's builder in memory; New, Len, Size, atRestart.
-/
import Derived.Test.YthdblnfohbldcaaGreatCzTileJ
import Derived.Test.YthdblnfohbldcaaGreatPaStrsJ
import Derived.Deep.DeepCutAuto
import Derived.Deep.RegionHeld
namespace Go.Proofs.YthdblnfohbldcaaGreat.Bl
open Go.ChangeShapes Go.WideShapes Go.ChangeAt Go.RowKit
open Go.Proofs.YthdblnfohbldcaaGreat.Base Go.Proofs.YthdblnfohbldcaaGreat.Nums
set_option linter.unusedVariables false
/-- A builder stands at q. -/
def BB (w : World) (q : Nat) (r m : Int) (ev pv : Value) (n : Int) (last : ByteArray) : Prop := w.heap[q]? = some (.cells #[.int .i64 r, .int .i64 m, ev, pv, .int .i64 n, .string last] 108)
/-- Its six cells. -/
def C6 (w : World) (q : Nat) (r m : Int) (ev pv : Value) (n : Int) (last : ByteArray) : Prop := w.cell? ⟨q, 0, none⟩ = some (.int .i64 r) ∧ w.cell? ⟨q, 1, none⟩ = some (.int .i64 m) ∧ w.cell? ⟨q, 2, none⟩ = some ev ∧ w.cell? ⟨q, 3, none⟩ = some pv ∧ w.cell? ⟨q, 4, none⟩ = some (.int .i64 n) ∧ w.cell? ⟨q, 5, none⟩ = some (.string last)
theorem BB.cells {w : World} {q : Nat} {r m : Int} {ev pv : Value} {n : Int} {last : ByteArray} (h : BB w q r m ev pv n last) : C6 w q r m ev pv n last := by
  unfold C6
  refine ⟨?_, ?_, ?_, ?_, ?_, ?_⟩ <;> (rw [cell_of_row _ _ _ _ _ _ h]; rfl)
theorem BB.fz {w : World} {q : Nat} {r m : Int} {ev pv : Value} {n : Int} {last : ByteArray} (h : BB w q r m ev pv n last) (k : Nat) : w.frozen? ⟨q, k, none⟩ = false := frozen_of_row _ _ _ _ _ h
theorem BB.lt {w : World} {q : Nat} {r m : Int} {ev pv : Value} {n : Int} {last : ByteArray} (h : BB w q r m ev pv n last) : q < w.heap.size := (Array.getElem?_eq_some_iff.1 h).1
theorem BB.same {w w' : World} {q : Nat} {r m : Int} {ev pv : Value} {n : Int} {last : ByteArray} (h : BB w q r m ev pv n last) (e : w'.heap[q]? = w.heap[q]?) : BB w' q r m ev pv n last := by
  unfold BB at h ⊢; rw [e]; exact h
theorem BB.below {w w' : World} {q : Nat} {r m : Int} {ev pv : Value} {n : Int} {last : ByteArray} (h : BB w q r m ev pv n last) (hb : Below w.heap.size w w') : BB w' q r m ev pv n last := h.same (hb.block q h.lt)
theorem BB.grown {w w' : World} {q : Nat} {r m : Int} {ev pv : Value} {n : Int} {last : ByteArray} {o : Option Nat} (h : BB w q r m ev pv n last) (hb : w.grownBy w' o) (hne : o ≠ some q) : BB w' q r m ev pv n last := h.same (hb.block q h.lt (fun e => hne e.symm))
theorem BB.set2 {w : World} {q : Nat} {r m : Int} {ev pv : Value} {n : Int} {last : ByteArray} (h : BB w q r m ev pv n last) (v : Value) : BB (w.setCell ⟨q, 2, none⟩ v) q r m v pv n last := by
  unfold BB; rw [heap_setCell_same _ _ _ _ _ _ h]; rfl
theorem BB.set3 {w : World} {q : Nat} {r m : Int} {ev pv : Value} {n : Int} {last : ByteArray} (h : BB w q r m ev pv n last) (v : Value) : BB (w.setCell ⟨q, 3, none⟩ v) q r m ev v n last := by
  unfold BB; rw [heap_setCell_same _ _ _ _ _ _ h]; rfl
theorem BB.set4 {w : World} {q : Nat} {r m : Int} {ev pv : Value} {n : Int} {last : ByteArray} (h : BB w q r m ev pv n last) (n' : Int) : BB (w.setCell ⟨q, 4, none⟩ (.int .i64 n')) q r m ev pv n' last := by
  unfold BB; rw [heap_setCell_same _ _ _ _ _ _ h]; rfl
theorem BB.set5 {w : World} {q : Nat} {r m : Int} {ev pv : Value} {n : Int} {last : ByteArray} (h : BB w q r m ev pv n last) (s : ByteArray) : BB (w.setCell ⟨q, 5, none⟩ (.string s)) q r m ev pv n s := by
  unfold BB; rw [heap_setCell_same _ _ _ _ _ _ h]; rfl
/-- Len. -/
theorem blen_any (q : Nat) (r m : Int) (ev pv : Value) (n : Int) (last : ByteArray) (w : World) (h : BB w q r m ev pv n last) :
    Calls Tryz.prog 31 #[.pointer (some ⟨q, 0, none⟩)] w fun e w' => e = .returned (.int .i64 n) ∧ w' = w := by
  obtain ⟨c0, c1, c2, c3, c4, c5⟩ := h.cells
  clear h
  go_enter Tryz.func31, Tryz.ntmps31
  go_wp2_with fail
  go_ret
  exact ⟨rfl, rfl⟩
/-- How many raw bytes there would be. -/
def sizeB (el pl n : Nat) : Nat := if n = 0 then 0 else el + 4 * pl + 8
set_option maxHeartbeats 1000000 in
/-- Size. -/
theorem bsize_any (q : Nat) (r m : Int) (ea pa : Option Addr) (el ec pl pc n : Nat) (last : ByteArray) (w : World) (h : BB w q r m (.slice ea el ec) (.slice pa pl pc) (n : Int) last) (h1 : el ≤ 140737488355328) (h2 : pl ≤ 140737488355328) (h3 : n ≤ 140737488355328) :
    Calls Tryz.prog 22 #[.pointer (some ⟨q, 0, none⟩)] w fun e w' => e = .returned (.int .i64 (sizeB el pl n : Nat)) ∧ ∃ k, w' = w.drewN k := by
  have HC := hide h.cells
  obtain ⟨c0, c1, c2, c3, c4, c5⟩ := h.cells
  clear h
  go_enter Tryz.func22, Tryz.ntmps22
  by_cases hn : n = 0
  · subst hn
    go_wp2_with fail
    try go_quiet (fail)
    go_wp2_with fail
    go_ret
    exact ⟨rfl, 0, rfl⟩
  · have hnz : ((n : Int) == 0) = false := by simpa using hn
    go_wp2_with fail
    try go_quiet (fail)
    go_wp2_with fail
    go_ret
    exact ⟨ret_int (by unfold sizeB; rw [if_neg hn]; omega), _, rfl⟩
/-- Whether the next entry is a restart. -/
theorem bat_any (q : Nat) (r m : Int) (ev : Value) (pa : Option Addr) (pl pc n : Nat) (last : ByteArray) (w : World) (h : BB w q r m ev (.slice pa pl pc) (n : Int) last) (h2 : pl ≤ 1048576) (h3 : 1 ≤ r) (h4 : r ≤ 64) :
    Calls Tryz.prog 60 #[.pointer (some ⟨q, 0, none⟩)] w fun e w' => e = .returned (.bool ((n : Int) == (pl : Int) * r)) ∧ Below w.heap.size w w' := by
  obtain ⟨c0, c1, c2, c3, c4, c5⟩ := h.cells
  clear h
  have hp : 0 ≤ (pl : Int) * r ∧ (pl : Int) * r ≤ 67108864 := by
    refine ⟨Int.mul_nonneg (by omega) (by omega), ?_⟩
    calc (pl : Int) * r ≤ 1048576 * r := Int.mul_le_mul_of_nonneg_right (by omega) (by omega)
      _ ≤ 1048576 * 64 := Int.mul_le_mul_of_nonneg_left h4 (by omega)
      _ = 67108864 := by rfl
  have hw : IntKind.i64.wrap ((pl : Int) * r) = (pl : Int) * r := by rw [IntKind.wrap_i64]; omega
  go_enter Tryz.func60, Tryz.ntmps60
  go_wp2_with fail
  try go_quiet (fail)
  all_goals
    go_wp2_with fail
    go_ret
    exact ⟨rfl, below_drewN' _ _ _⟩
end Go.Proofs.YthdblnfohbldcaaGreat.Bl
/-
  Codes, at any lengths.
-/
namespace Go.Proofs.YthdblnfohbldcaaGreat.Huff
open Go.ChangeShapes Go.WideShapes Go.ChangeAt Go.RowKit
open Go.Proofs.YthdblnfohbldcaaGreat.Base
set_option linter.unusedVariables false
/-- The number of the next word of each length, ahead of symbol k. -/
def NextAt (ls NX : List Int) (k : Nat) : Prop := NX.length = 16 ∧ ∀ l, 0 < l → l < 16 → NX.getD l 0 = ((first ls l + cnt ls l k : Nat) : Int)
theorem nextAt_zero (ls : List Int) : NextAt ls (((wordsOf ls).drop 16).take 16) 0 := by
  refine ⟨by rw [List.length_take, List.length_drop, wordsOf_len]; rfl, fun l h0 h1 => ?_⟩
  rw [List.getD_eq_getElem?_getD, List.getElem?_take, if_pos h1, List.getElem?_drop, ← List.getD_eq_getElem?_getD, wordsOf_first ls l h1]
  simp [cnt]
theorem nextAt_skip {ls NX : List Int} {k : Nat} (h : NextAt ls NX k) (hx : ls.getD k 0 = 0) : NextAt ls NX (k + 1) := by
  refine ⟨h.1, fun l h0 h1 => ?_⟩
  rw [h.2 l h0 h1]
  simp only [cnt]
  rw [if_neg (by rw [hx]; omega)]
  rfl
theorem nextAt_inc {ls NX : List Int} {k q : Nat} (h : NextAt ls NX k) (hx : ls.getD k 0 = (q : Int)) (hq : 0 < q) (hq2 : q < 16) : NextAt ls (NX.set q (((first ls q + cnt ls q k : Nat) : Int) + 1)) (k + 1) := by
  refine ⟨by rw [List.length_set]; exact h.1, fun l h0 h1 => ?_⟩
  rw [getD_set _ _ _ _ (by rw [h.1]; omega)]
  simp only [cnt]
  by_cases e : q = l
  · subst e
    rw [if_pos rfl, if_pos hx]
    omega
  · rw [if_neg e, h.2 l h0 h1, if_neg (by rw [hx]; omega)]
    rfl
/-- What Codes answers. -/
def coded (ls : List Int) : List (Int × Nat) × Int :=
  if 256 < ls.length then ([], 2) else if allIn 15 ls = false then ([], 3) else if right ls = true then (codesOf ls, 0) else ([], 41)
theorem infoC : (Tryz.prog.info? 163).map (fun i => (i.zero, i.size, i.bytes)) = some (some (.agg #[.int .i64 0, .int .u32 0]), 2, 16) := by kernel_rfl
theorem info16 : (Tryz.prog.info? 79).map (·.size) = some 16 := by kernel_rfl
def Z16 : Array Value := (ivals (List.replicate 16 0)).toArray
theorem z16 : #[Value.int .i64 0, Value.int .i64 0, Value.int .i64 0, Value.int .i64 0, Value.int .i64 0, Value.int .i64 0, Value.int .i64 0, Value.int .i64 0, Value.int .i64 0, Value.int .i64 0, Value.int .i64 0, Value.int .i64 0, Value.int .i64 0, Value.int .i64 0, Value.int .i64 0, Value.int .i64 0] = Z16 := by rfl
end Go.Proofs.YthdblnfohbldcaaGreat.Huff
/-
  The symbols in the order of their words: the program's row.
-/
namespace Go.Proofs.YthdblnfohbldcaaGreat.Huff
open Go.ChangeShapes Go.WideShapes Go.ChangeAt Go.RowKit
open Go.Proofs.YthdblnfohbldcaaGreat.Base
set_option linter.unusedVariables false
/-- Where the next symbol of each length comes to stand, when the first k have been laid. -/
def PlcAt (ls NX : List Int) (k : Nat) : Prop := NX.length = 16 ∧ ∀ l, 0 < l → l < 16 → NX.getD l 0 = ((ahead ls l + cnt ls l k : Nat) : Int)
theorem plcAt_zero (ls : List Int) : PlcAt ls (((wordsOf ls).drop 32).take 16) 0 := by
  refine ⟨by rw [List.length_take, List.length_drop, wordsOf_len]; rfl, fun l h1 h2 => ?_⟩
  rw [List.getD_eq_getElem?_getD, List.getElem?_take, if_pos h2, List.getElem?_drop, ← List.getD_eq_getElem?_getD, wordsOf_ahead ls l h2]
  rfl
theorem plcAt_skip {ls NX : List Int} {k : Nat} (h : PlcAt ls NX k) (hx : ls.getD k 0 = 0) : PlcAt ls NX (k + 1) := by
  refine ⟨h.1, fun l h1 h2 => ?_⟩
  rw [h.2 l h1 h2]
  simp only [cnt]
  rw [if_neg (by rw [hx]; omega)]
  rfl
theorem plcAt_inc {ls NX : List Int} {k q : Nat} (h : PlcAt ls NX k) (hx : ls.getD k 0 = (q : Int)) (hq : 0 < q) (hq2 : q < 16) : PlcAt ls (NX.set q (((ahead ls q + cnt ls q k : Nat) : Int) + 1)) (k + 1) := by
  refine ⟨by rw [List.length_set]; exact h.1, fun l h1 h2 => ?_⟩
  rw [getD_set _ _ _ _ (by rw [h.1]; omega)]
  simp only [cnt]
  by_cases e : q = l
  · subst e
    rw [if_pos rfl, if_pos hx]
    omega
  · rw [if_neg e, h.2 l h1 h2, if_neg (by rw [hx]; omega)]
    rfl
def OrdAt (ls : List Int) (O : List (BitVec 8)) (k : Nat) : Prop := O.length = ahead ls 16 ∧ ∀ i, i < k → 0 < ls.getD i 0 → O.getD (placeOf ls i) 0 = BitVec.ofNat 8 i
theorem ordAt_skip {ls : List Int} {O : List (BitVec 8)} {k : Nat} (h : OrdAt ls O k) (hx : ls.getD k 0 = 0) : OrdAt ls O (k + 1) := by
  refine ⟨h.1, fun i hi hp => ?_⟩
  by_cases e : i = k
  · subst e; omega
  · exact h.2 i (by omega) hp
theorem getD_set8 (L : List (BitVec 8)) (i j : Nat) (v : BitVec 8) (h : i < L.length) : (L.set i v).getD j 0 = if i = j then v else L.getD j 0 := by
  rw [List.getD_eq_getElem?_getD, List.getElem?_set, List.getD_eq_getElem?_getD]
  by_cases e : i = j
  · rw [if_pos e, if_pos e, if_pos h]; rfl
  · rw [if_neg e, if_neg e]
theorem place_all {ls : List Int} {k q : Nat} (hk : k < ls.length) (hx : ls.getD k 0 = (q : Int)) (hq : 0 < q) (hq2 : q < 16) : placeOf ls k = ahead ls q + cnt ls q k ∧ placeOf ls k < ahead ls 16 := by
  have h1 := place_lt ls q k hq hk hx
  have h2 := ahead_mono ls (show q + 1 ≤ 16 by omega)
  refine ⟨by unfold placeOf; rw [hx, Int.toNat_natCast], by omega⟩
theorem ordAt_inc {ls : List Int} {O : List (BitVec 8)} {k q : Nat} (h : OrdAt ls O k) (hin : allIn 15 ls = true) (hk : k < ls.length) (hx : ls.getD k 0 = (q : Int)) (hq : 0 < q) (hq2 : q < 16) : OrdAt ls (O.set (ahead ls q + cnt ls q k) (BitVec.ofNat 8 k)) (k + 1) := by
  obtain ⟨p1, p2⟩ := place_all hk hx hq hq2
  refine ⟨by rw [List.length_set]; exact h.1, fun i hi hp => ?_⟩
  rw [← p1, getD_set8 _ _ _ _ (by rw [h.1]; exact p2)]
  by_cases e : i = k
  · subst e; rw [if_pos rfl]
  · have hil := allIn_get hin i (by omega)
    obtain ⟨m, hm⟩ : ∃ m : Nat, ls.getD i 0 = (m : Int) := ⟨(ls.getD i 0).toNat, by omega⟩
    rw [if_neg (fun e2 => e (place_uniq ls (by omega) hk (by omega) hq hm hx e2.symm)), h.2 i (by omega) hp]
theorem make8 (n : Nat) : madeCells #[Value.int .u8 0] n = (vals (List.replicate n 0)).toArray := by
  apply Array.ext
  · rw [size_madeCells]; simp [vals]
  · intro k h1 h2
    simp [madeCells, vals, V8, Nat.mod_one]
theorem make_row_u8 (n : Nat) (m : Int) (hm : m = (n : Int)) (h : n ≤ 140737488355328) : ∀ W, (Instr.makeSlice 24 (.int .i64 m) (.int .i64 m)).run Tryz.prog W = .ok (.slice (some ⟨W.heap.size, 0, none⟩) n n) (W.alloc (.cells (vals (List.replicate n 0)).toArray 5)) := by
  intro W
  subst hm
  rw [← make8]
  exact run_make_row' 24 5 (.int .u8 0) 1 Tryz.underlying24 info8 rfl .i64 .i64 n (by omega) (by omega) W
set_option maxHeartbeats 1000000 in
set_option maxRecDepth 100000 in
theorem order_any (gw : Nat) (a : Option Addr) (len cap : Nat) (ls : List Int) (w : World) (hw : RowI 81 w gw (wordsOf ls)) (hr : RdI w a len ls) (hl : len ≤ 256) (hin : allIn 15 ls = true) :
    Calls Tryz.prog 46 #[.pointer (some ⟨gw, 0, none⟩), .slice a len cap] w fun e w' => ∃ g n O, e = .returned (.slice (some ⟨g, 0, none⟩) n n) ∧ OrdAt ls O len ∧ Own w' w.heap.size (.slice (some ⟨g, 0, none⟩) n n) O ∧ Below w.heap.size w w' := by
  have HL := hide hr.1
  have HR := hide hr
  have HCN := hide hr.2.2
  have HW := hide hw
  have HLW := hide (wordsOf_len ls)
  have HIN := hide hin
  clear hr hw hin
  have HNL : Hid ((((wordsOf ls).drop 32).take 16).length = 16) := by show _ = _; rw [List.length_take, List.length_drop, HLW.out]; rfl
  have HRGa : Hid (w.rangeAt gw 32 (ivals (((wordsOf ls).drop 32).take 16))) := row_range HW.out 32 16 (by rw [HLW.out]; omega)
  have HRGb : Hid ((w.alloc (.cells Z16 79)).rangeAt gw 32 (ivals (((wordsOf ls).drop 32).take 16))) := World.rangeAt_alloc HRGa.out _
  have HN0 : Hid (RowI 79 (w.alloc (.cells Z16 79)) w.heap.size (List.replicate 16 0)) := rowi_new _ _ _
  have HNX : Hid (RowI 79 ((w.alloc (.cells Z16 79)).setCells w.heap.size 0 (ivals (((wordsOf ls).drop 32).take 16))) w.heap.size (((wordsOf ls).drop 32).take 16)) := row_setAll HN0.out (by rw [List.length_replicate, HNL.out])
  have HONE := hide (ivals_one (((wordsOf ls).drop 32).take 16))
  have HBB : Hid (Below w.heap.size w ((w.alloc (.cells Z16 79)).setCells w.heap.size 0 (ivals (((wordsOf ls).drop 32).take 16)))) :=
    ((Below.refl w.heap.size w).alloc (Nat.le_refl _) _).grown (setCells_grown _ _ _ (World.grownBy.refl _ _)) ((Below.refl w.heap.size w).alloc (Nat.le_refl _) _).size (fun i e => by cases e; exact Nat.le_refl _)
  have HTH : Hid ((w.alloc (.cells Z16 79)).there w.heap.size 0 (ivals (((wordsOf ls).drop 32).take 16)).toArray.size) := hide (by
    have e16 : (ivals (((wordsOf ls).drop 32).take 16)).toArray.size = 16 := by rw [List.size_toArray, length_ivals, HNL.out]
    rw [e16]
    exact row_there HN0.out 0 16 (by rw [List.length_replicate]; omega))
  have I1 : Hid ((Tryz.prog.info? 79).map (·.size) = some (ivals (((wordsOf ls).drop 32).take 16)).length) := by show _ = _; rw [length_ivals, HNL.out]; exact info16
  have I2 : Hid ((Tryz.prog.info? 79).map (·.size) = some (ivals (((wordsOf ls).drop 32).take 16)).toArray.size) := by show _ = _; rw [List.size_toArray, length_ivals, HNL.out]; exact info16
  have HNA := hide (plcAt_zero ls)
  have u16 := Tryz.underlying79
  generalize ((wordsOf ls).drop 32).take 16 = NX at HNL HRGa HRGb HNX HONE HBB HTH I1 I2 HNA
  obtain ⟨V2, hV2⟩ : ∃ V2, ivals NX = V2 := ⟨_, rfl⟩
  rw [hV2] at HRGa HRGb HNX HONE HBB HTH I1 I2
  obtain ⟨w4, hw4⟩ : ∃ w4, (w.alloc (.cells Z16 79)).setCells w.heap.size 0 V2 = w4 := ⟨_, rfl⟩
  have HW4 := hide hw4
  rw [hw4] at HNX HBB
  have HGN : Hid (gw < w.heap.size) := HW.out.lt
  have HRow4 : Hid (RowI 81 w4 gw (wordsOf ls)) := HW.out.below HBB.out
  clear hV2 hw4
  have hs4 : w.heap.size ≤ w4.heap.size := HBB.out.size
  have c1 := HRow4.out.cell 15 (by rw [HLW.out]; omega)
  have c2 := HRow4.out.cell 47 (by rw [HLW.out]; omega)
  rw [wordsOf_count ls 15 (by omega)] at c1
  rw [show 47 = 32 + 15 from rfl, wordsOf_ahead ls 15 (by omega)] at c2
  have HT : Hid (ahead ls 16 = ahead ls 15 + cntW ls ls.length 15) := rfl
  have hcl := cntW_le ls ls.length 15
  have hal := ahead_le ls (by rw [HL.out]; exact hl) 15
  obtain ⟨C, hC⟩ : ∃ C, cntW ls ls.length 15 = C := ⟨_, rfl⟩
  obtain ⟨A, hA⟩ : ∃ A, ahead ls 15 = A := ⟨_, rfl⟩
  rw [hC] at c1 HT hcl
  rw [hA] at c2 HT hal
  have hCi : (C : Int) ≤ 256 := by rw [HL.out] at hcl; omega
  have hAi : (A : Int) ≤ 3840 := by omega
  obtain ⟨T, hT⟩ : ∃ T, A + C = T := ⟨_, rfl⟩
  have hT1 : IntKind.i64.wrap ((A : Int) + (C : Int)) = (T : Int) := by rw [IntKind.wrap_i64]; omega
  have HTT : Hid (ahead ls 16 = T) := by show _ = _; rw [HT.out, hT]
  have hTi : (T : Int) ≤ 4096 := by omega
  have hTn : T ≤ 4096 := by omega
  clear hC hA hcl hal hT HT
  have hmk := make_row_u8 T (T : Int) rfl (by omega)
  have HMO : Hid (∀ W : World, w.heap.size ≤ W.heap.size → Own (W.alloc (.cells (vals (List.replicate T 0)).toArray 5)) w.heap.size (.slice (some ⟨W.heap.size, 0, none⟩) T T) (List.replicate T 0)) := by
    show ∀ W : World, _
    intro W hW
    have h := own_heap (base := w.heap.size) (bs := List.replicate T 0) (heap_alloc_new W _) hW (by unfold maxLen; simp; omega)
    rw [List.length_replicate] at h
    exact h
  generalize (vals (List.replicate T 0)).toArray = ZT at hmk HMO
  go_enter Tryz.func46, Tryz.ntmps46
  go_wp2_with (first
    | (refine wpList_load_mid rfl 79 (.tmp 11) rfl gw 32 rfl V2 _ (by first | exact HRGb.out | exact HRGa.out) u16 rfl I1.out ?_)
    | (refine wpList_store_mid rfl 79 (.tmp 5) (.tmp 12) rfl w.heap.size 0 V2.toArray rfl rfl HTH.out I2.out (all_oneCell_toArray HONE.out) ?_
       rw [z16, List.toList_toArray, HW4.out]))
  go_region_held (fun V => V.cell? ⟨gw, 15, none⟩ = some (.int .i64 (C : Int)) ∧ V.cell? ⟨gw, 32 + 15, none⟩ = some (.int .i64 (A : Int))) (go_keep) (fail)
  go_wp2_with fail
  obtain ⟨w5, hw5⟩ : ∃ w5, (w4.alloc (.cells ZT 5)).drew = w5 := ⟨_, rfl⟩
  have HB45 : Hid (Below w4.heap.size w4 w5) := by rw [← hw5]; exact ((Below.refl w4.heap.size w4).alloc (Nat.le_refl _) _).drew
  have HO5 : Hid (Own w5 w.heap.size (.slice (some ⟨w4.heap.size, 0, none⟩) T T) (List.replicate T 0)) := by
    rw [← hw5]
    exact (HMO.out w4 hs4).below ((Below.refl _ _).drew)
  have HN5 : Hid (RowI 79 w5 w.heap.size NX) := HNX.out.below HB45.out
  have HB5 : Hid (Below w.heap.size w w5) := below_trans HBB.out HB45.out
  have HGC : Hid (w.heap.size < w4.heap.size) := HNX.out.lt
  have HOA : Hid (OrdAt ls (List.replicate T 0) 0) := ⟨by rw [List.length_replicate, HTT.out], fun i h => by omega⟩
  rw [hw5]
  obtain ⟨gn, hgn⟩ : ∃ gn, w.heap.size = gn := ⟨_, rfl⟩
  obtain ⟨gc, hgc⟩ : ∃ gc, w4.heap.size = gc := ⟨_, rfl⟩
  have HLO : Hid (w.heap.size ≤ gn ∧ w.heap.size ≤ gc) := by rw [← hgn, ← hgc]; exact ⟨Nat.le_refl _, hs4⟩
  have HNC : Hid (gn ≠ gc) := by have := HGC.out; show _ ≠ _; omega
  have HO6 : Hid (Own w5 w.heap.size (.slice (some ⟨gc, 0, none⟩) T T) (List.replicate T 0)) := by rw [← hgc]; exact HO5.out
  have HN6 : Hid (RowI 79 w5 gn NX) := by rw [← hgn]; exact HN5.out
  simp only [hgn, hgc]
  clear HO5 HN5 hw5 HB45 HMO hmk HNX HBB HN0 HTH HW4 HRGa HRGb HONE I1 I2 hs4 u16 hgn hgc HGC c1 c2 HRow4 HW HGN HNL
  go_loopw [27] (fun i wr => ∃ (k : Nat) (NX : List Int) (O : List (BitVec 8)), k ≤ len ∧ i = .int .i64 (k : Int) ∧ Hid (PlcAt ls NX k) ∧ Hid (OrdAt ls O k) ∧ Hid (RowI 79 wr gn NX) ∧ Hid (Own wr w.heap.size (.slice (some ⟨gc, 0, none⟩) T T) O) ∧ Hid (Below w.heap.size w wr)) (fun i _ => len - (intOf i).toNat)
  case atStart => exact ⟨0, NX, _, Nat.zero_le _, rfl, HNA, HOA, HN6, HO6, HB5⟩
  case round =>
    clear HNA HN6 HO6 HB5 HOA
    obtain ⟨k, NX, O, hk, rfl, HNA, HOA, HNR, HOW, HB⟩ := hrel
    by_cases hlt : k < len
    · obtain ⟨b1, o1, rfl, hb1, hc1⟩ := unhide HCN (by omega)
      have g1 := hc1 k hlt
      have hx := allIn_get HIN.out k (by have := HL.out; omega)
      rw [← HB.out.cell (p := ⟨b1, o1 + k, none⟩) hb1] at g1
      clear hc1
      have hki : (k : Int) < (len : Int) := by omega
      obtain ⟨x, hxe⟩ : ∃ x, ls.getD k 0 = x := ⟨_, rfl⟩
      rw [hxe] at g1 hx
      by_cases hp : 0 < x
      · obtain ⟨q, hq⟩ : ∃ q : Nat, x = (q : Int) := ⟨x.toNat, by omega⟩
        subst hq
        have HNI := hide (plcAt_inc HNA.out hxe (by omega) (by omega))
        have HOI := hide (ordAt_inc HOA.out HIN.out (by rw [HL.out]; exact hlt) hxe (by omega) (by omega))
        have hpl := place_all (ls := ls) (k := k) (by rw [HL.out]; exact hlt) hxe (by omega) (by omega)
        have g2 := HNR.out.cell q (by rw [HNA.out.1]; omega)
        rw [HNA.out.2 q (by omega) (by omega)] at g2
        have f2 := HNR.out.frozen q
        obtain ⟨U, hU⟩ : ∃ U, ahead ls q + cnt ls q k = U := ⟨_, rfl⟩
        rw [hU] at g2 HNI HOI
        have hUT : U < T := by rw [← HTT.out]; omega
        have hUi : (U : Int) < (T : Int) := by omega
        have c1 := HOW.out.cell U hUT
        have f3 := HOW.out.frozen U
        generalize O.getD U 0 = d at c1
        have HST := hide (HOW.out.store U (BitVec.ofNat 8 k)).1
        have hkc : ((BitVec.ofNat 8 k).toNat : Int) = (k : Int) := by rw [BitVec.toNat_ofNat]; omega
        rw [hkc] at HST
        have hgne := HNC.out
        have HG2 : Hid (wr.grownBy (wr.setCell ⟨gc, U, none⟩ (.int .u8 (k : Int))) (some gc)) := grown_cell (World.grownBy.refl _ _) _ _
        have HBS : Hid (Below w.heap.size w (wr.setCell ⟨gc, U, none⟩ (.int .u8 (k : Int)))) := HB.out.setCell HLO.out.2 _
        have HNS : Hid (RowI 79 (wr.setCell ⟨gc, U, none⟩ (.int .u8 (k : Int))) gn NX) := HNR.out.grown HG2.out (fun e => hgne (Option.some.inj e).symm)
        have g5 := HNS.out.cell q (by rw [HNA.out.1]; omega)
        rw [HNA.out.2 q (by omega) (by omega), hU] at g5
        have f5 := HNS.out.frozen q
        have hq1 : (q : Int) < 16 := by omega
        have hq0 : 0 < (q : Int) := hp
        have hk8 : (k : Int) % 256 = (k : Int) := by omega
        have hk7 : (k : Int) < 256 := by omega
        clear hxe hx hp hU hpl hkc
        go_wp2_with fail
        go_roundw
        case rel =>
          refine ⟨k + 1, _, _, by omega, by go_num, HNI, HOI, HNS.out.store q _, ?_, HBS.out.setCell HLO.out.1 _⟩
          exact keep HST.out (grown_cell (World.grownBy.refl _ _) _ _) (fun i j e e2 => by have h1 := blk_eq e; have h2 := Option.some.inj e2; omega)
        case measure => simp [intOf]; omega
      · obtain rfl : x = 0 := by omega
        have HNI := hide (plcAt_skip HNA.out hxe)
        have HOI := hide (ordAt_skip HOA.out hxe)
        clear hxe hx hp
        go_wp2_with fail
        go_roundw
        case rel => exact ⟨k + 1, NX, O, by omega, by go_num, HNI, HOI, HNR, HOW, HB⟩
        case measure => simp [intOf]; omega
    · obtain rfl : k = len := by omega
      go_wp2_with fail
      go_ret
      exact ⟨_, _, O, rfl, HOA.out, HOW.out, HB.out⟩
end Go.Proofs.YthdblnfohbldcaaGreat.Huff
/-
  The text that bytes tell: the program's Decode.
-/
namespace Go.Proofs.YthdblnfohbldcaaGreat.Huff
open Go.ChangeShapes Go.WideShapes Go.ChangeAt Go.RowKit
open Go.Proofs.YthdblnfohbldcaaGreat.Base
set_option linter.unusedVariables false
theorem text_set (t : List (BitVec 8)) (N k : Nat) (c : BitVec 8) (h : t.length = k) (hk : k < N) : (t ++ List.replicate (N - k) 0).set k c = (t ++ [c]) ++ List.replicate (N - (k + 1)) 0 := by
  rw [List.set_append_right _ _ (by omega), h, Nat.sub_self, show N - k = (N - (k + 1)) + 1 by omega, List.replicate_succ, List.set_cons_zero, List.append_assoc]
  rfl
theorem dec_arg (bs : List (BitVec 8)) (n : Int) (h : n < 0 ∨ 65536 < n) : decoded bs n = ([], 3) := by unfold decoded; rw [if_pos h]
theorem dec_none (bs : List (BitVec 8)) (N : Nat) (hN : N ≤ 65536) (h : lensOf bs = none) : decoded bs (N : Int) = ([], 40) := by unfold decoded; rw [if_neg (by omega), h]
theorem dec_wrong (bs r : List (BitVec 8)) (ls : List Int) (N : Nat) (hN : N ≤ 65536) (h : lensOf bs = some (ls, r)) (hr : right ls = false) : decoded bs (N : Int) = ([], 40) := by unfold decoded; rw [if_neg (by omega), h]; simp only []; rw [if_pos hr]
theorem dec_stop (bs r : List (BitVec 8)) (ls : List Int) (N : Nat) (hN : N ≤ 65536) (h : lensOf bs = some (ls, r)) (ht : textTo ls r N = none) : decoded bs (N : Int) = ([], 40) := by
  unfold decoded; rw [if_neg (by omega), h]; simp only [Int.toNat_natCast, ht]; split <;> rfl
theorem dec_text (bs r t : List (BitVec 8)) (ls : List Int) (N i : Nat) (hN : N ≤ 65536) (h : lensOf bs = some (ls, r)) (hr : right ls = true) (ht : textTo ls r N = some (t, i)) : decoded bs (N : Int) = if isEnd r i = true then (t, 0) else ([], 40) := by
  unfold decoded; rw [if_neg (by omega), h]; simp only [Int.toNat_natCast, ht]; rw [if_neg (by rw [hr]; decide)]
set_option maxHeartbeats 2000000 in
set_option maxRecDepth 100000 in
theorem decode_any (a : Option Addr) (len cap : Nat) (bs : List (BitVec 8)) (n : Int) (w : World) (hr : Rd w a len bs) (hcap : len ≤ cap) (hm : cap ≤ 9223372036854775807) :
    Calls Tryz.prog 13 #[.slice a len cap, .int .i64 n] w fun e w' => ∃ v, e = .returned (.tuple #[v, .int .i64 (decoded bs n).2]) ∧ Own w' w.heap.size v (decoded bs n).1 ∧ Below w.heap.size w w' := by
  have HR := hide hr
  have HCAP := hide hcap
  have hlen := hr.2.1
  by_cases hn : n < 0 ∨ 65536 < n
  · rw [dec_arg bs n hn]
    clear hr hcap
    rcases Int.lt_or_le n 0 with h0 | h0
    · clear hn
      go_enter Tryz.func13, Tryz.ntmps13
      go_wp2_with fail
      go_ret2
      exact ⟨_, rfl, own_none _ _, Below.refl _ _⟩
    · have h1 : ¬ n < 0 := by omega
      have h2 : 65536 < n := by omega
      clear hn
      go_enter Tryz.func13, Tryz.ntmps13
      go_wp2_with fail
      go_ret2
      exact ⟨_, rfl, own_none _ _, Below.refl _ _⟩
  obtain ⟨N, rfl⟩ : ∃ N : Nat, n = (N : Int) := ⟨n.toNat, by omega⟩
  have hN : N ≤ 65536 := by omega
  have hNi : (N : Int) ≤ 65536 := by omega
  have hN0 : ¬ (N : Int) < 0 := by omega
  have hN1 : ¬ 65536 < (N : Int) := by omega
  have HLN := hide (lengths_any a len cap bs w hr hcap hm)
  clear hr hcap hn
  obtain ⟨D, hD⟩ : ∃ D, decoded bs (N : Int) = D := ⟨_, rfl⟩
  have HD := hide hD
  rw [hD]
  clear hD
  go_enter Tryz.func13, Tryz.ntmps13
  go_wp2_with fail
  refine HLN.out.mono ?_
  rintro e w1 ⟨v1, v2, ok, rfl, hb1, hcase⟩
  rcases hcase with ⟨rfl, hno⟩ | ⟨rfl, ls, r, a1, c1, a2, l2, c2, hyes, rfl, ho1, rfl, hr2, hl2, hc2⟩
  · obtain rfl : D = ([], 40) := HD.out.symm.trans (dec_none bs N hN hno)
    clear hno
    go_wp2_with fail
    go_ret2
    exact ⟨_, rfl, own_none _ _, hb1⟩
  obtain ⟨hin, hls, hrl⟩ := lensOf_ok hyes
  have HY := hide hyes
  have HIN := hide hin
  have HB1 := hide hb1
  have HO1 := hide ho1
  have HR2 := hide hr2
  have HRL := hide hr2.1
  have hl2b : l2 ≤ 140737488355328 := hr2.2.1
  have hl2i : (l2 : Int) ≤ 140737488355328 := by omega
  obtain ⟨m, hmm⟩ : ∃ m, ls.length = m := ⟨_, rfl⟩
  have HM := hide hmm
  rw [hmm] at hls HO1 ⊢
  have hs1 : w.heap.size ≤ w1.heap.size := hb1.size
  clear hyes hin hb1 ho1 hr2 hrl hmm HLN
  have HNW := hide (newWords_any a1 m c1 ls w1 (HO1.out.rd (by rw [HM.out]; omega)) hls HIN.out)
  go_wp2_with fail
  refine HNW.out.mono ?_
  rintro e w2 ⟨rfl, hb2⟩
  have HB2 := hide (below_trans HB1.out hb2)
  have HO2 := hide (HO1.out.below hb2)
  have HLW := hide (wordsOf_len ls)
  have HN : Hid (RowI 81 (w2.alloc (.cells Z48 81)) w2.heap.size (List.replicate 48 0)) := rowi_new _ _ _
  have HRS : Hid (RowI 81 ((w2.alloc (.cells Z48 81)).setCells w2.heap.size 0 (ivals (wordsOf ls))) w2.heap.size (wordsOf ls)) := row_setAll HN.out (by rw [List.length_replicate, HLW.out])
  have HONE := hide (ivals_one (wordsOf ls))
  have HBX : Hid (Below w2.heap.size w2 ((w2.alloc (.cells Z48 81)).setCells w2.heap.size 0 (ivals (wordsOf ls)))) :=
    ((Below.refl w2.heap.size w2).alloc (Nat.le_refl _) _).grown (setCells_grown _ _ _ (World.grownBy.refl _ _)) ((Below.refl w2.heap.size w2).alloc (Nat.le_refl _) _).size (fun i e => by cases e; exact Nat.le_refl _)
  have HTH : Hid ((w2.alloc (.cells Z48 81)).there w2.heap.size 0 (ivals (wordsOf ls)).toArray.size) := hide (by
    have e48 : (ivals (wordsOf ls)).toArray.size = 48 := by rw [List.size_toArray, length_ivals, HLW.out]
    rw [e48]
    exact row_there HN.out 0 48 (by rw [List.length_replicate]; omega))
  have I2 : Hid ((Tryz.prog.info? 81).map (·.size) = some (ivals (wordsOf ls)).toArray.size) := by show _ = _; rw [List.size_toArray, length_ivals, HLW.out]; exact info48
  obtain ⟨V, hV⟩ : ∃ V, ivals (wordsOf ls) = V := ⟨_, rfl⟩
  rw [hV] at HRS HONE HBX HTH I2 ⊢
  obtain ⟨w3, hw3⟩ : ∃ w3, (w2.alloc (.cells Z48 81)).setCells w2.heap.size 0 V = w3 := ⟨_, rfl⟩
  have HW3 := hide hw3
  rw [hw3] at HRS HBX
  have HB3 := hide (below_trans HB2.out HBX.out)
  have HO3 := hide (HO2.out.below HBX.out)
  obtain ⟨RT, hRT⟩ : ∃ RT, right ls = RT := ⟨_, rfl⟩
  have HRT := hide hRT
  rw [hRT]
  clear hb2 hV hw3 hRT HNW HBX HO2
  by_cases hsmall : RT = true ∧ N ≤ 8 * l2
  · obtain ⟨rfl, h8⟩ := hsmall
    have h8i : ¬ 8 * (l2 : Int) < (N : Int) := by omega
    go_wp2_with (refine wpList_store_mid rfl 81 (.tmp 9) (.tmp 34) rfl w2.heap.size 0 V.toArray rfl rfl HTH.out I2.out (all_oneCell_toArray HONE.out) ?_
                 rw [z48, List.toList_toArray, HW3.out])
    obtain ⟨gw, hgw⟩ : ∃ gw, w2.heap.size = gw := ⟨_, rfl⟩
    have HRW : Hid (RowI 81 w3 gw (wordsOf ls)) := by rw [← hgw]; exact HRS.out
    rw [hgw]
    have HORD := hide (order_any gw a1 m c1 ls w3 HRW.out (HO3.out.rd (by rw [HM.out]; omega)) hls HIN.out)
    clear hgw HRS HN HTH HW3 I2 HONE HO1
    refine HORD.out.mono ?_
    rintro e w4 ⟨gq, nq0, O, rfl, hord, hown, hb4⟩
    have HB4 := hide (below_trans HB3.out hb4)
    have HRW4 := hide (HRW.out.below hb4)
    have HQ4 := hide hown
    have HOD := hide hord
    have hs4 : w.heap.size ≤ w4.heap.size := HB4.out.size
    have HGQ : Hid (gq < w4.heap.size) := hown.lt'.2
    have HGW : Hid (gw < w4.heap.size) := HRW4.out.lt
    have HNQ : Hid (nq0 = ahead ls 16) := by show _ = _; rw [hown.len]; exact hord.1
    clear hord hown hb4 HORD HO3 HRW
    obtain ⟨i0, hi, hz0, hz1, hz2⟩ := info_parts info8
    go_wp2_with (at_make; refine wpList_make_full _ rfl _ _ 24 rfl w.heap.size 5 i0 (.int .u8 0) 1 Tryz.underlying24 hi hz0 hz1 .i64 .i64 _ _ N rfl rfl rfl rfl (by rw [hz2]; omega) (by unfold maxLen; omega) hs4 ?_
                 intro w5 hown5 hgrow5)
    have HT5 : Hid (Own w5 w.heap.size (.slice (some ⟨w4.heap.size, 0, none⟩) N N) ([] ++ List.replicate (N - 0) 0)) := by
      show Own _ _ _ _
      rw [List.nil_append, Nat.sub_zero]
      unfold Own
      rw [List.length_replicate, show (0 : BitVec 8) = BitVec.ofNat 8 0 from rfl, ← vals_replicate]
      exact hown5
    have HB5 : Hid (Below w.heap.size w w5) := HB4.out.grown hgrow5 hs4 (fun i e => by cases e)
    have HRW5 : Hid (RowI 81 w5 gw (wordsOf ls)) := HRW4.out.grown hgrow5 (by simp)
    have HQ5 : Hid (Own w5 w3.heap.size (.slice (some ⟨gq, 0, none⟩) nq0 nq0) O) := keep HQ4.out hgrow5 (fun i j _ e => by cases e)
    obtain ⟨gt, hgt⟩ : ∃ gt, w4.heap.size = gt := ⟨_, rfl⟩
    have HGT : Hid (gq ≠ gt ∧ gw ≠ gt ∧ w.heap.size ≤ gt) := by have h1 := HGQ.out; have h2 := HGW.out; refine ⟨?_, ?_, ?_⟩ <;> omega
    have HT6 : Hid (Own w5 w.heap.size (.slice (some ⟨gt, 0, none⟩) N N) ([] ++ List.replicate (N - 0) 0)) := by rw [← hgt]; exact HT5.out
    rw [hgt]
    clear hown5 hgrow5 hi hz0 hz1 hz2 HB4 HRW4 HQ4 hgt HT5 HGQ HGW hs4 HB3 HB2
    go_loopw [13, 51] (fun sp si wr => ∃ (k i : Nat) (t : List (BitVec 8)), k ≤ N ∧ i ≤ 8 * l2 ∧ sp = .int .i64 (i : Int) ∧ si = .int .i64 (k : Int) ∧ Hid (textTo ls r k = some (t, i) ∧ Own wr w.heap.size (.slice (some ⟨gt, 0, none⟩) N N) (t ++ List.replicate (N - k) 0) ∧ RowI 81 wr gw (wordsOf ls) ∧ Own wr w3.heap.size (.slice (some ⟨gq, 0, none⟩) nq0 nq0) O ∧ Below w.heap.size w wr)) (fun _ si _ => N - (intOf si).toNat)
    case atStart => exact ⟨0, 0, [], Nat.zero_le _, Nat.zero_le _, rfl, rfl, rfl, HT6.out, HRW5.out, HQ5.out, HB5.out⟩
    case round =>
      clear HT6 HRW5 HQ5 HB5
      obtain ⟨k, i, t, hk, hi8, rfl, rfl, H⟩ := hrel
      have hii : (i : Int) ≤ 1125899906842624 := by omega
      have HRr := hide (HR2.out.below H.out.2.2.2.2)
      by_cases hlt : (k : Int) < (N : Int)
      · have HRD := hide (read_any gw a2 l2 c2 ls r i wr H.out.2.2.1 HRr.out hi8 (by rw [HM.out]; exact hls))
        go_wp2_with fail
        refine HRD.out.mono ?_
        rintro e w6 ⟨p, s, rfl, hcase, rfl⟩
        rcases hcase with ⟨rfl, hno⟩ | ⟨hs, M, hyes, rfl⟩
        · obtain rfl : D = ([], 40) := HD.out.symm.trans (dec_stop bs r ls N hN HY.out (textTo_stop H.out.1 hno (by omega)))
          rw [show ((0 : Nat) : Int) = 0 from rfl]
          clear hno HRD
          go_wp2_with fail
          go_ret2
          exact ⟨_, rfl, own_none _ _, H.out.2.2.2.2⟩
        · obtain ⟨q1, q2, q3, q4, q5⟩ := wordAt_ok hyes
          obtain ⟨y1, y2, y3, y4⟩ := symOf_there (ls := ls) hs q4 q5
          have HTN := hide (textTo_next H.out.1 hyes)
          have hpl := place_all y1 y3 hs (by omega)
          have hod := HOD.out.2 (symOf ls s M) (by rw [← HM.out]; exact y1) (by rw [y3]; omega)
          rw [y4] at hod hpl
          obtain ⟨P, hP⟩ : ∃ P, ahead ls s + (M - first ls s) = P := ⟨_, rfl⟩
          rw [hP] at hod hpl ⊢
          have hPn : P < nq0 := by rw [HNQ.out]; exact hpl.2
          have hPi : (P : Int) < (nq0 : Int) := by omega
          have cq := H.out.2.2.2.1.cell P hPn
          rw [hod] at cq
          obtain ⟨c, hc⟩ : ∃ c, BitVec.ofNat 8 (symOf ls s M) = c := ⟨_, rfl⟩
          rw [hc] at cq HTN
          have ct := H.out.2.1.cell k (by omega)
          have ft := H.out.2.1.frozen k
          generalize (t ++ List.replicate (N - k) 0).getD k 0 = d at ct
          have HST := hide (H.out.2.1.store k c)
          rw [text_set t N k c (textTo_ok _ _ _ _ _ H.out.1).1 (by omega)] at HST
          have hsi : ((s : Int) == 0) = false := by rw [beq_eq_false_iff_ne]; omega
          have hsb : (s : Int) ≤ 15 := by omega
          have HBS : Hid (Below w.heap.size w (w6.setCell ⟨gt, k, none⟩ (.int .u8 (c.toNat : Int)))) := H.out.2.2.2.2.setCell HGT.out.2.2 _
          have HI9 : Hid (i + s ≤ 8 * l2) := by show _ ≤ _; rw [HRL.out] at q3; exact q3
          clear hyes q1 q2 q3 q4 q5 y1 y2 y3 y4 hpl hod hP hc HRD hs
          go_wp2_with fail
          go_roundw
          case rel =>
            refine ⟨k + 1, i + s, t ++ [c], by omega, HI9.out, by go_num, by go_num, HTN.out, HST.out.1, H.out.2.2.1.grown HST.out.2 (fun e => HGT.out.2.1 (Option.some.inj e).symm), keep H.out.2.2.2.1 HST.out.2 (fun i j e e2 => by have h1 := blk_eq e; have h2 := Option.some.inj e2; have := HGT.out.1; omega), HBS.out⟩
          case measure => simp [intOf]; omega
      · obtain rfl : k = N := by omega
        have HIE := hide (isEnd_any a2 l2 c2 r i wr HRr.out hi8)
        have HDT := hide (HD.out.symm.trans (dec_text bs r t ls k i hN HY.out HRT.out H.out.1))
        have HTX : Hid (Own wr w.heap.size (.slice (some ⟨gt, 0, none⟩) k k) t) := by
          have h := H.out.2.1
          rw [Nat.sub_self, List.replicate_zero, List.append_nil] at h
          exact h
        obtain ⟨E, hE⟩ : ∃ E, isEnd r i = E := ⟨_, rfl⟩
        rw [hE] at HIE HDT
        cases E with
        | true =>
          obtain rfl : D = (t, 0) := by have h := HDT.out; rw [if_pos rfl] at h; exact h
          clear hE HDT
          go_wp2_with fail
          refine HIE.out.mono ?_
          rintro e w6 ⟨rfl, rfl⟩
          go_wp2_with fail
          go_ret2
          exact ⟨_, rfl, HTX.out, H.out.2.2.2.2⟩
        | false =>
          obtain rfl : D = ([], 40) := by have h := HDT.out; rw [if_neg (by decide)] at h; exact h
          clear hE HDT
          go_wp2_with fail
          refine HIE.out.mono ?_
          rintro e w6 ⟨rfl, rfl⟩
          go_wp2_with fail
          go_ret2
          exact ⟨_, rfl, own_none _ _, H.out.2.2.2.2⟩
  · obtain rfl : D = ([], 40) := by
      refine HD.out.symm.trans ?_
      by_cases h1 : RT = true
      · exact dec_stop bs r ls N hN HY.out (textTo_far (by rw [HRL.out]; have : ¬ N ≤ 8 * l2 := fun h => hsmall ⟨h1, h⟩; omega))
      · exact dec_wrong bs r ls N hN HY.out (by rw [HRT.out]; simpa using h1)
    cases RT with
    | false =>
      clear hsmall
      go_wp2_with (refine wpList_store_mid rfl 81 (.tmp 9) (.tmp 34) rfl w2.heap.size 0 V.toArray rfl rfl HTH.out I2.out (all_oneCell_toArray HONE.out) ?_
                   rw [z48, List.toList_toArray, HW3.out])
      go_ret2
      exact ⟨_, rfl, own_none _ _, HB3.out⟩
    | true =>
      have h8i : 8 * (l2 : Int) < (N : Int) := by have : ¬ N ≤ 8 * l2 := fun h => hsmall ⟨rfl, h⟩; omega
      clear hsmall
      go_wp2_with (refine wpList_store_mid rfl 81 (.tmp 9) (.tmp 34) rfl w2.heap.size 0 V.toArray rfl rfl HTH.out I2.out (all_oneCell_toArray HONE.out) ?_
                   rw [z48, List.toList_toArray, HW3.out])
      go_ret2
      exact ⟨_, rfl, own_none _ _, HB3.out⟩
end Go.Proofs.YthdblnfohbldcaaGreat.Huff
/-
  Codes, of any lengths.
-/
namespace Go.Proofs.YthdblnfohbldcaaGreat.Huff
open Go.ChangeShapes Go.WideShapes Go.ChangeAt Go.RowKit
open Go.Proofs.YthdblnfohbldcaaGreat.Base
set_option linter.unusedVariables false
set_option maxHeartbeats 1000000 in
set_option maxRecDepth 100000 in
theorem codes_any (a : Option Addr) (len cap : Nat) (ls : List Int) (w : World) (hr : RdI w a len ls) :
    Calls Tryz.prog 54 #[.slice a len cap] w fun e w' => ∃ v, e = .returned (.tuple #[v, .int .i64 (coded ls).2]) ∧ OwnC w' w.heap.size v (coded ls).1 ∧ Below w.heap.size w w' := by
  have HL := hide hr.1
  have HR := hide hr
  have hm := hr.2.1
  clear hr
  by_cases h1 : 256 < len
  · have e : coded ls = ([], 2) := by unfold coded; rw [if_pos (by rw [HL.out]; exact h1)]
    rw [e]
    have h1i : (256 : Int) < (len : Int) := by omega
    go_enter Tryz.func54, Tryz.ntmps54
    go_wp2_with fail
    go_ret2
    exact ⟨_, rfl, ownC_none _ _, Below.refl _ _⟩
  have h1i : ¬ (256 : Int) < (len : Int) := by omega
  have HA := hide (areLengths_any a len cap ls w HR.out)
  cases hA : allIn 15 ls with
  | false =>
    have e : coded ls = ([], 3) := by unfold coded; rw [if_neg (by rw [HL.out]; exact h1), if_pos hA]
    rw [e]
    rw [hA] at HA
    clear hA e
    go_enter Tryz.func54, Tryz.ntmps54
    go_wp2_with fail
    refine HA.out.mono ?_
    rintro e w1 ⟨rfl, rfl⟩
    go_wp2_with fail
    go_ret2
    exact ⟨_, rfl, ownC_none _ _, Below.refl _ _⟩
  | true =>
  rw [hA] at HA
  have HAT := hide hA
  have HE : Hid (coded ls = if right ls = true then (codesOf ls, 0) else ([], 41)) := by
    show _ = _
    unfold coded; rw [if_neg (by rw [HL.out]; exact h1), if_neg (by rw [hA]; decide)]
  clear hA
  rw [HE.out]
  have HNW := hide (fun wx h => newWords_any a len cap ls wx h (by omega) HAT.out)
  obtain ⟨R, hR⟩ : ∃ R, right ls = R := ⟨_, rfl⟩
  rw [hR] at HNW ⊢
  have HCO : Hid ((if R = true then (codesOf ls, (0 : Int)) else ([], 41)) = if R = true then (codesOf ls, (0 : Int)) else ([], 41)) := rfl
  cases R with
  | false =>
    rw [if_neg (by decide)]
    clear hR HCO
    go_enter Tryz.func54, Tryz.ntmps54
    go_wp2_with fail
    refine HA.out.mono ?_
    rintro e w1 ⟨rfl, rfl⟩
    go_wp2_with fail
    refine (HNW.out w1 HR.out).mono ?_
    rintro e w2 ⟨rfl, hb2⟩
    have HB2 := hide hb2
    have HRd2 := hide (HR.out.below hb2)
    have HLW := hide (wordsOf_len ls)
    have HN : Hid (RowI 81 (w2.alloc (.cells Z48 81)) w2.heap.size (List.replicate 48 0)) := rowi_new _ _ _
    have HRS : Hid (RowI 81 ((w2.alloc (.cells Z48 81)).setCells w2.heap.size 0 (ivals (wordsOf ls))) w2.heap.size (wordsOf ls)) := row_setAll HN.out (by rw [List.length_replicate, HLW.out])
    have HONE := hide (ivals_one (wordsOf ls))
    have HBA : Hid (Below w1.heap.size w1 ((w2.alloc (.cells Z48 81)).setCells w2.heap.size 0 (ivals (wordsOf ls)))) :=
      (HB2.out.alloc HB2.out.size _).grown (setCells_grown _ _ _ (World.grownBy.refl _ _)) (HB2.out.alloc HB2.out.size _).size (fun i e => by cases e; exact HB2.out.size)
    have HTH : Hid ((w2.alloc (.cells Z48 81)).there w2.heap.size 0 (ivals (wordsOf ls)).toArray.size) := hide (by
      have e48 : (ivals (wordsOf ls)).toArray.size = 48 := by rw [List.size_toArray, length_ivals, HLW.out]
      rw [e48]
      exact row_there HN.out 0 48 (by rw [List.length_replicate]; omega))
    have I2 : Hid ((Tryz.prog.info? 81).map (·.size) = some (ivals (wordsOf ls)).toArray.size) := by show _ = _; rw [List.size_toArray, length_ivals, HLW.out]; exact info48
    have HSZ : Hid (w2.heap.size < ((w2.alloc (.cells Z48 81)).setCells w2.heap.size 0 (ivals (wordsOf ls))).heap.size) := HRS.out.lt
    obtain ⟨V, hV⟩ : ∃ V, ivals (wordsOf ls) = V := ⟨_, rfl⟩
    rw [hV] at HRS HONE HBA HTH I2 HSZ ⊢
    obtain ⟨w3, hw3⟩ : ∃ w3, (w2.alloc (.cells Z48 81)).setCells w2.heap.size 0 V = w3 := ⟨_, rfl⟩
    have HW3 := hide hw3
    rw [hw3] at HRS HBA HSZ
    have HRd3 : Hid (RdI w3 a len ls) := HR.out.below HBA.out
    clear hb2 hV hw3 HRd2
    go_wp2_with (refine wpList_store_mid rfl 81 (.tmp 4) (.tmp 19) rfl w2.heap.size 0 V.toArray rfl rfl HTH.out I2.out (all_oneCell_toArray HONE.out) ?_
                 rw [z48, List.toList_toArray, HW3.out])
    go_ret2
    exact ⟨_, rfl, ownC_none _ _, HBA.out⟩
  | true =>
  rw [if_pos rfl]
  clear hR HCO
  go_enter Tryz.func54, Tryz.ntmps54
  go_wp2_with fail
  refine HA.out.mono ?_
  rintro e w1 ⟨rfl, rfl⟩
  go_wp2_with fail
  refine (HNW.out w1 HR.out).mono ?_
  rintro e w2 ⟨rfl, hb2⟩
  have HB2 := hide hb2
  have HRd2 := hide (HR.out.below hb2)
  have HLW := hide (wordsOf_len ls)
  have HN : Hid (RowI 81 (w2.alloc (.cells Z48 81)) w2.heap.size (List.replicate 48 0)) := rowi_new _ _ _
  have HRS : Hid (RowI 81 ((w2.alloc (.cells Z48 81)).setCells w2.heap.size 0 (ivals (wordsOf ls))) w2.heap.size (wordsOf ls)) := row_setAll HN.out (by rw [List.length_replicate, HLW.out])
  have HONE := hide (ivals_one (wordsOf ls))
  have HBA : Hid (Below w1.heap.size w1 ((w2.alloc (.cells Z48 81)).setCells w2.heap.size 0 (ivals (wordsOf ls)))) :=
    (HB2.out.alloc HB2.out.size _).grown (setCells_grown _ _ _ (World.grownBy.refl _ _)) (HB2.out.alloc HB2.out.size _).size (fun i e => by cases e; exact HB2.out.size)
  have HTH : Hid ((w2.alloc (.cells Z48 81)).there w2.heap.size 0 (ivals (wordsOf ls)).toArray.size) := hide (by
    have e48 : (ivals (wordsOf ls)).toArray.size = 48 := by rw [List.size_toArray, length_ivals, HLW.out]
    rw [e48]
    exact row_there HN.out 0 48 (by rw [List.length_replicate]; omega))
  have I2 : Hid ((Tryz.prog.info? 81).map (·.size) = some (ivals (wordsOf ls)).toArray.size) := by show _ = _; rw [List.size_toArray, length_ivals, HLW.out]; exact info48
  have HSZ : Hid (w2.heap.size < ((w2.alloc (.cells Z48 81)).setCells w2.heap.size 0 (ivals (wordsOf ls))).heap.size) := HRS.out.lt
  obtain ⟨V, hV⟩ : ∃ V, ivals (wordsOf ls) = V := ⟨_, rfl⟩
  rw [hV] at HRS HONE HBA HTH I2 HSZ ⊢
  obtain ⟨w3, hw3⟩ : ∃ w3, (w2.alloc (.cells Z48 81)).setCells w2.heap.size 0 V = w3 := ⟨_, rfl⟩
  have HW3 := hide hw3
  rw [hw3] at HRS HBA HSZ
  have HRd3 : Hid (RdI w3 a len ls) := HR.out.below HBA.out
  clear hb2 hV hw3 HRd2
  go_upto_region 6 with (refine wpList_store_mid rfl 81 (.tmp 4) (.tmp 19) rfl w2.heap.size 0 V.toArray rfl rfl HTH.out I2.out (all_oneCell_toArray HONE.out) ?_
                         rw [z48, List.toList_toArray, HW3.out])
  obtain ⟨gw, hgw⟩ : ∃ gw, w2.heap.size = gw := ⟨_, rfl⟩
  rw [hgw] at HRS HSZ ⊢
  have HGW : Hid (w1.heap.size ≤ gw) := by rw [← hgw]; exact HB2.out.size
  clear HN HTH HW3 I2 HONE hgw HB2
  have HNL : Hid ((((wordsOf ls).drop 16).take 16).length = 16) := by show _ = _; rw [List.length_take, List.length_drop, HLW.out]; rfl
  have HRGa : Hid (w3.rangeAt gw 16 (ivals (((wordsOf ls).drop 16).take 16))) := row_range HRS.out 16 16 (by rw [HLW.out]; omega)
  have HRGb : Hid ((w3.alloc (.cells Z16 79)).rangeAt gw 16 (ivals (((wordsOf ls).drop 16).take 16))) := World.rangeAt_alloc HRGa.out _
  have HN0 : Hid (RowI 79 (w3.alloc (.cells Z16 79)) w3.heap.size (List.replicate 16 0)) := rowi_new _ _ _
  have HNX : Hid (RowI 79 ((w3.alloc (.cells Z16 79)).setCells w3.heap.size 0 (ivals (((wordsOf ls).drop 16).take 16))) w3.heap.size (((wordsOf ls).drop 16).take 16)) := row_setAll HN0.out (by rw [List.length_replicate, HNL.out])
  have HONE := hide (ivals_one (((wordsOf ls).drop 16).take 16))
  have HBB : Hid (Below w1.heap.size w1 ((w3.alloc (.cells Z16 79)).setCells w3.heap.size 0 (ivals (((wordsOf ls).drop 16).take 16)))) :=
    (HBA.out.alloc HBA.out.size _).grown (setCells_grown _ _ _ (World.grownBy.refl _ _)) (HBA.out.alloc HBA.out.size _).size (fun i e => by cases e; exact HBA.out.size)
  have HTH : Hid ((w3.alloc (.cells Z16 79)).there w3.heap.size 0 (ivals (((wordsOf ls).drop 16).take 16)).toArray.size) := hide (by
    have e16 : (ivals (((wordsOf ls).drop 16).take 16)).toArray.size = 16 := by rw [List.size_toArray, length_ivals, HNL.out]
    rw [e16]
    exact row_there HN0.out 0 16 (by rw [List.length_replicate]; omega))
  have I1 : Hid ((Tryz.prog.info? 79).map (·.size) = some (ivals (((wordsOf ls).drop 16).take 16)).length) := by show _ = _; rw [length_ivals, HNL.out]; exact info16
  have I2 : Hid ((Tryz.prog.info? 79).map (·.size) = some (ivals (((wordsOf ls).drop 16).take 16)).toArray.size) := by show _ = _; rw [List.size_toArray, length_ivals, HNL.out]; exact info16
  have HNA := hide (nextAt_zero ls)
  have u16 := Tryz.underlying79
  generalize ((wordsOf ls).drop 16).take 16 = NX at HNL HRGa HRGb HNX HONE HBB HTH I1 I2 HNA
  obtain ⟨V2, hV2⟩ : ∃ V2, ivals NX = V2 := ⟨_, rfl⟩
  rw [hV2] at HRGa HRGb HNX HONE HBB HTH I1 I2
  obtain ⟨w4, hw4⟩ : ∃ w4, (w3.alloc (.cells Z16 79)).setCells w3.heap.size 0 V2 = w4 := ⟨_, rfl⟩
  have HW4 := hide hw4
  rw [hw4] at HNX HBB
  have HGN : Hid (gw < w3.heap.size) := HSZ.out
  clear hV2 hw4
  obtain ⟨i0, hi, hz0, hz1, hz2⟩ := info_parts infoC
  have hs4 : w1.heap.size ≤ w4.heap.size := HBB.out.size
  go_wp2_with (first
    | (refine wpList_load_mid rfl 79 (.tmp 23) rfl gw 16 rfl V2 _ (by first | exact HRGb.out | exact HRGa.out) u16 rfl I1.out ?_)
    | (refine wpList_store_mid rfl 79 (.tmp 6) (.tmp 24) rfl w3.heap.size 0 V2.toArray rfl rfl HTH.out I2.out (all_oneCell_toArray HONE.out) ?_
       rw [z16, List.toList_toArray, HW4.out])
    | (at_make; refine wpList_make_full _ rfl _ _ 99 rfl w1.heap.size 163 i0 (.agg #[.int .i64 0, .int .u32 0]) 2 Tryz.underlying99 hi hz0 hz1 .i64 .i64 _ _ len rfl rfl rfl rfl (by rw [hz2]; omega) (by unfold maxLen; omega) hs4 ?_
       intro w5 hown hgrow))
  have HC0 : Hid (OwnC w5 w1.heap.size (.slice (some ⟨w4.heap.size, 0, none⟩) len len) (codesTo ls 0)) := by
    show OwnC _ _ _ _
    rw [codesTo_zero, HL.out]
    exact ownC_zero hown
  have HN5 : Hid (RowI 79 w5 w3.heap.size NX) := HNX.out.grown hgrow (by simp)
  have HB5 : Hid (Below w1.heap.size w1 w5) := HBB.out.grown hgrow hs4 (fun i e => by cases e)
  have HGC : Hid (w3.heap.size < w4.heap.size) := HNX.out.lt
  have HCN := hide HR.out.2.2
  have HIN := hide (fun k h => allIn_get HAT.out k h)
  obtain ⟨gn, hgn⟩ : ∃ gn, w3.heap.size = gn := ⟨_, rfl⟩
  obtain ⟨gc, hgc⟩ : ∃ gc, w4.heap.size = gc := ⟨_, rfl⟩
  have HLO : Hid (w1.heap.size ≤ gn ∧ w1.heap.size ≤ gc) := by rw [← hgn, ← hgc]; exact ⟨HBA.out.size, hs4⟩
  rw [hgn] at HN5 HGC ⊢
  rw [hgc] at HC0 HGC ⊢
  clear hown hgrow hgn hgc HNX HBB HN0 HTH HW4 HRGa HRGb HONE I1 I2 hi hz0 hz1 hz2 HBA HSZ HRS hs4 u16
  go_loopw [30] (fun i wr => ∃ (k : Nat) (NX : List Int), k ≤ len ∧ i = .int .i64 (k : Int) ∧ Hid (NextAt ls NX k) ∧ Hid (RowI 79 wr gn NX) ∧ Hid (OwnC wr w1.heap.size (.slice (some ⟨gc, 0, none⟩) len len) (codesTo ls k)) ∧ Hid (Below w1.heap.size w1 wr)) (fun i _ => len - (intOf i).toNat)
  case atStart => exact ⟨0, NX, Nat.zero_le _, rfl, HNA, HN5, HC0, HB5⟩
  case round =>
    clear HNA HN5 HC0 HB5 HNL
    obtain ⟨k, NX, hk, rfl, HNA, HNR, HOC, HB⟩ := hrel
    by_cases hlt : k < len
    · obtain ⟨b1, o1, rfl, hb1, hc1⟩ := unhide HCN (by omega)
      have g1 := hc1 k hlt
      have hx := HIN.out k (by have := HL.out; omega)
      rw [← HB.out.cell (p := ⟨b1, o1 + k, none⟩) hb1] at g1
      clear hc1
      have hki : (k : Int) < (len : Int) := by omega
      obtain ⟨x, hxe⟩ : ∃ x, ls.getD k 0 = x := ⟨_, rfl⟩
      rw [hxe] at g1 hx
      by_cases hp : 0 < x
      · obtain ⟨q, hq⟩ : ∃ q : Nat, x = (q : Int) := ⟨x.toNat, by omega⟩
        subst hq
        have HNI := hide (nextAt_inc HNA.out hxe (by omega) (by omega))
        have g2 := HNR.out.cell q (by rw [HNA.out.1]; omega)
        rw [HNA.out.2 q (by omega) (by omega)] at g2
        have f2 := HNR.out.frozen q
        have hcl := cnt_le ls q k
        have hfl := first_le ls (by rw [HL.out]; omega) q
        have hpw : 512 * 2 ^ q ≤ 512 * 2 ^ 15 := Nat.mul_le_mul_left _ (Nat.pow_le_pow_right (by decide) (by omega))
        have HCA : Hid (codeAt ls k = ((q : Int), first ls q + cnt ls q k)) := by
          show _ = _
          unfold codeAt
          rw [hxe, if_neg (by omega), Int.toNat_natCast]
        have HCS := hide (codesTo_set ls k (by rw [HL.out]; exact hlt))
        rw [HCA.out] at HCS
        obtain ⟨U, hU⟩ : ∃ U, first ls q + cnt ls q k = U := ⟨_, rfl⟩
        rw [hU] at g2 HNI HCS
        have hUi : (U : Int) ≤ 16777472 := by omega
        obtain ⟨c1, c2⟩ := HOC.out.cells (by rw [codesTo_len, HL.out]) k hlt
        have f3 := HOC.out.frozen (by rw [codesTo_len, HL.out]) (k * 2)
        have f4 := HOC.out.frozen (by rw [codesTo_len, HL.out]) (k * 2 + 1)
        generalize ((codesTo ls k).getD k (0, 0)).1 = C1 at c1
        generalize ((codesTo ls k).getD k (0, 0)).2 = C2 at c2
        have HST := hide (HOC.out.store (by rw [codesTo_len, HL.out]) k (q : Int) U)
        rw [HCS.out] at HST
        have HBS : Hid (Below w1.heap.size w1 ((wr.setCell ⟨gc, k * 2, none⟩ (.int .i64 (q : Int))).setCell ⟨gc, k * 2 + 1, none⟩ (.int .u32 (U : Int)))) := (HB.out.setCell HLO.out.2 _).setCell HLO.out.2 _
        have hgne : gn ≠ gc := by have := HGC.out; omega
        have HG2 : Hid (wr.grownBy ((wr.setCell ⟨gc, k * 2, none⟩ (.int .i64 (q : Int))).setCell ⟨gc, k * 2 + 1, none⟩ (.int .u32 (U : Int))) (some gc)) := grown_cell (grown_cell (World.grownBy.refl _ _) _ _) _ _
        have HNS : Hid (RowI 79 ((wr.setCell ⟨gc, k * 2, none⟩ (.int .i64 (q : Int))).setCell ⟨gc, k * 2 + 1, none⟩ (.int .u32 (U : Int))) gn NX) := HNR.out.grown HG2.out (fun e => hgne (Option.some.inj e).symm)
        have g5 := HNS.out.cell q (by rw [HNA.out.1]; omega)
        rw [HNA.out.2 q (by omega) (by omega), hU] at g5
        have f5 := HNS.out.frozen q
        have hq1 : (q : Int) < 16 := by omega
        have hq0 : 0 < (q : Int) := hp
        clear hxe hx hp hcl hfl hpw hU HCA HCS
        go_wp2_with fail
        go_roundw
        case rel =>
          refine ⟨k + 1, _, by omega, by go_num, HNI, HNS.out.store q _, ?_, HBS.out.setCell HLO.out.1 _⟩
          exact ownC_keep HST.out (grown_cell (World.grownBy.refl _ _) _ _) (fun i e e2 => hgne (by have h1 := blk_eq e; have h2 := Option.some.inj e2; omega))
        case measure => simp [intOf]; omega
      · obtain rfl : x = 0 := by omega
        have HNI := hide (nextAt_skip HNA.out hxe)
        have HCI := hide (codesTo_skip ls k hxe)
        rw [HCI.out] at HOC
        clear hxe hx hp
        go_wp2_with fail
        go_roundw
        case rel => exact ⟨k + 1, NX, by omega, by go_num, HNI, HNR, HOC, HB⟩
        case measure => simp [intOf]; omega
    · obtain rfl : k = len := by omega
      have HOF : Hid (OwnC wr w1.heap.size (.slice (some ⟨gc, 0, none⟩) k k) (codesOf ls)) := by
        have h := HOC.out
        rw [← HL.out, codesTo_all, HL.out] at h
        exact h
      go_wp2_with fail
      go_ret2
      exact ⟨_, rfl, HOF.out, HB.out⟩
end Go.Proofs.YthdblnfohbldcaaGreat.Huff
