/-
  The program's Trailer.
-/
import Derived.Test.YtjikoamchbmhjaaFtTrail
import Derived.Test.YtjikoamchbmhjaaCzTile
import Derived.Test.YtjikoamchbmhjaaNumsCur2
import Derived.Test.YtjikoamchbmhjaaNumsCur3
import Derived.Laws.ResultCell
import Derived.Laws.Rows
namespace Go.Proofs.Ytjikoamchbmhjaa.Foot
open Go.ChangeShapes Go.WideShapes Go.ChangeAt Go.RowKit
open Go.Proofs.Ytjikoamchbmhjaa.Base Go.Proofs.Ytjikoamchbmhjaa.Nums Go.Proofs.Ytjikoamchbmhjaa.Curs Go.Proofs.Ytjikoamchbmhjaa.Crc
set_option linter.unusedVariables false
/-- The magic's bytes. -/
def magicL : List (BitVec 8) := [119, 110, 119, 49]
/-- A number of eight bytes as a signed one. -/
def wordI (bs : List (BitVec 8)) : Int := wrap64 (word bs : Nat)
theorem magic_eq (l : List (BitVec 8)) : ((str l).toList == [119, 110, 119, 49]) = decide (l = magicL) := by
  rw [ByteArray.toList_eq]
  show (l.map UInt8.ofBitVec == magicL.map UInt8.ofBitVec) = _
  by_cases h : l = magicL
  · subst h; decide
  · rw [decide_eq_false h, beq_eq_false_iff_ne]
    intro e
    have h2 := congrArg (List.map UInt8.toBitVec) e
    rw [List.map_map, List.map_map, show UInt8.toBitVec ∘ UInt8.ofBitVec = id from rfl, List.map_id, List.map_id] at h2
    exact h h2
/-- What Trailer tells: both numbers, the error. -/
def trailOf (bs : List (BitVec 8)) (size : Int) : Int × Int × Int :=
  if bs.length ≠ 24 ∨ openErr bs ≠ 0 then (0, 0, 81)
  else if bs.take 4 ≠ magicL ∨ okT (wordI ((bs.drop 4).take 8)) (wordI ((bs.drop 12).take 8)) = false then (0, 0, 81)
  else if wordI ((bs.drop 4).take 8) + wordI ((bs.drop 12).take 8) + 24 ≠ size then (0, 0, 82)
  else (wordI ((bs.drop 4).take 8), wordI ((bs.drop 12).take 8), 0)
/-- A Trail lies in the block g. -/
def TB (w : World) (g : Nat) (B P : Int) : Prop := w.heap[g]? = some (.cells #[.int .i64 B, .int .i64 P] 24)
theorem TB.lt {w : World} {g : Nat} {B P : Int} (h : TB w g B P) : g < w.heap.size := (Array.getElem?_eq_some_iff.1 h).1
theorem TB.c0 {w : World} {g : Nat} {B P : Int} (h : TB w g B P) : w.cell? ⟨g, 0, none⟩ = some (.int .i64 B) := by rw [cell_of_row _ _ _ _ _ _ h]; rfl
theorem TB.c1 {w : World} {g : Nat} {B P : Int} (h : TB w g B P) : w.cell? ⟨g, 1, none⟩ = some (.int .i64 P) := by rw [cell_of_row _ _ _ _ _ _ h]; rfl
theorem TB.fz {w : World} {g : Nat} {B P : Int} (h : TB w g B P) (k : Nat) : w.frozen? ⟨g, k, none⟩ = false := frozen_of_row _ _ _ _ _ h
theorem TB.new (w : World) (B P : Int) : TB (w.alloc (.cells #[.int .i64 B, .int .i64 P] 24)) w.heap.size B P := heap_alloc_new _ _
theorem TB.below {w w' : World} {g : Nat} {B P : Int} (h : TB w g B P) (hb : Below w.heap.size w w') : TB w' g B P := (hb.block g h.lt).trans h
theorem TB.grown {w w' : World} {g : Nat} {B P : Int} {q : Option Nat} (h : TB w g B P) (hb : w.grownBy w' q) (hne : q ≠ some g) : TB w' g B P := (hb.block g h.lt (fun e => hne e.symm)).trans h
theorem TB.set2 {w : World} {g : Nat} {B P : Int} (h : TB w g B P) (B' P' : Int) : TB ((w.setCell ⟨g, 0, none⟩ (.int .i64 B')).setCell ⟨g, 1, none⟩ (.int .i64 P')) g B' P' := by
  unfold TB
  rw [heap_setCell_same _ _ 1 _ _ _ (heap_setCell_same _ _ 0 _ _ _ h)]; rfl
theorem tb_ret2 {fn : Func} {p u : Tmp} (h : fn.results = #[.cell p 24, .tmp u]) (tmps : Array Value) (w : World) (g : Nat) (B P : Int) (hp : tmps.getD p undef = .pointer (some ⟨g, 0, none⟩)) (hf : TB w g B P) :
    (results fn tmps).run Try.prog w = .ok (.tuple #[.agg #[.int .i64 B, .int .i64 P], tmps.getD u undef]) w := by
  rw [results_cell_tmp h, hp]
  simp [asAddr, run_loadVar_row w g 24 24 _ (0, 0) _ hf Try.underlying24 rfl (by kernel_rfl)]
theorem grown2 (w : World) (g : Nat) (a b : Value) : w.grownBy ((w.setCell ⟨g, 0, none⟩ a).setCell ⟨g, 1, none⟩ b) (some g) :=
  grown_cell (grown_cell (World.grownBy.refl _ _) _ _) _ _
theorem below2 {B : Nat} {w0 w : World} (h : Below B w0 w) {g : Nat} (hg : B ≤ g) (a b : Value) : Below B w0 ((w.setCell ⟨g, 0, none⟩ a).setCell ⟨g, 1, none⟩ b) :=
  (h.setCell hg _).setCell hg _
theorem ret_trail {t : Int × Int × Int} {B P E : Int} (h : t = (B, P, E)) : Ending.returned (.tuple #[.agg #[.int .i64 B, .int .i64 P], .int .i64 E]) = .returned (.tuple #[.agg #[.int .i64 t.1, .int .i64 t.2.1], .int .i64 t.2.2]) := by rw [h]
set_option maxHeartbeats 1000000 in
set_option maxRecDepth 100000 in
theorem trailer_any (a : Option Addr) (n c : Nat) (bs : List (BitVec 8)) (size : Int) (w : World) (hr : Rd w a n bs) (hn : n ≤ c) (hc : c ≤ 9223372036854775807) :
    Calls Try.prog 4 #[.slice a n c, .int .i64 size] w fun e w' => e = .returned (.tuple #[.agg #[.int .i64 (trailOf bs size).1, .int .i64 (trailOf bs size).2.1], .int .i64 (trailOf bs size).2.2]) ∧ Below w.heap.size w w' := by
  have HR := hide hr
  have HL := hide hr.1
  clear hr
  have HE : Hid (trailOf bs size = if bs.length ≠ 24 ∨ openErr bs ≠ 0 then (0, 0, 81)
    else if bs.take 4 ≠ magicL ∨ okT (wordI ((bs.drop 4).take 8)) (wordI ((bs.drop 12).take 8)) = false then (0, 0, 81)
    else if wordI ((bs.drop 4).take 8) + wordI ((bs.drop 12).take 8) + 24 ≠ size then (0, 0, 82)
    else (wordI ((bs.drop 4).take 8), wordI ((bs.drop 12).take 8), 0)) := rfl
  by_cases h24 : n = 24
  · subst h24
    obtain ⟨w0, hw0⟩ : ∃ w0, w.alloc (.cells #[.int .i64 0, .int .i64 0] 24) = w0 := ⟨_, rfl⟩
    have hT0 : TB w0 w.heap.size 0 0 := by rw [← hw0]; exact TB.new _ _ _
    have hB0 : Below w.heap.size w w0 := by rw [← hw0]; exact (Below.refl _ _).alloc (Nat.le_refl _) _
    obtain ⟨r, hr0⟩ : ∃ r, w.heap.size = r := ⟨_, rfl⟩
    rw [hr0] at hT0
    have HRS := hide hr0
    have HT0 := hide hT0
    have HB0 := hide hB0
    have HR0 := hide (HR.out.below hB0)
    clear hT0 hB0
    go_enter Try.func4, Try.ntmps4
    go_wp2_with fail
    refine (open_fits a 24 c bs w0 HR0.out hn hc).mono ?_
    rintro e w1 ⟨v, rfl, ⟨va, vn, rfl, hvn, hov⟩, hb1⟩
    have HT1 := hide (HT0.out.below hb1)
    have HB1 := hide (below_trans HB0.out hb1)
    have HO1 := hide hov
    have HVN := hide hvn
    clear hvn hov hb1
    by_cases hop : openErr bs = 0
    · have EB : Hid (openBody bs = bs.take 20) := by show _ = _; unfold openBody; rw [if_pos hop, HL.out]
      obtain ⟨L, hLd⟩ : ∃ L, bs.take 20 = L := ⟨_, rfl⟩
      have HLL : Hid (L.length = 20) := by show _ = _; rw [← hLd, List.length_take, HL.out]; omega
      have F1 : Hid (L.take 4 = bs.take 4) := by show _ = _; rw [← hLd, List.take_take]; rfl
      have F2 : Hid ((L.drop 4).take 8 = (bs.drop 4).take 8) := by show _ = _; rw [← hLd, List.drop_take, List.take_take]; rfl
      have F3 : Hid (((L.drop 4).drop 8).take 8 = (bs.drop 12).take 8) := by show _ = _; rw [← hLd, List.drop_drop, List.drop_take, List.take_take]; rfl
      rw [EB.out, hLd] at HO1 HVN
      have hv20 : vn = 20 := by have := HVN.out; have := HLL.out; omega
      subst hv20
      have HTK : Hid (takeAt L 4 = (4, 0)) := by show _ = _; unfold takeAt; rw [if_neg (by omega), if_neg (by rw [HLL.out]; omega)]; rfl
      have HF1 : Hid (fixAt (L.drop 4) 8 = (word ((L.drop 4).take 8), 8, 0)) := by show _ = _; unfold fixAt; rw [if_neg (by omega), if_neg (by rw [List.length_drop, HLL.out]; omega)]; rfl
      have HF2 : Hid (fixAt ((L.drop 4).drop 8) 8 = (word (((L.drop 4).drop 8).take 8), 8, 0)) := by show _ = _; unfold fixAt; rw [if_neg (by omega), if_neg (by rw [List.length_drop, List.length_drop, HLL.out]; omega)]; rfl
      have HX1 := hide (word_lt ((bs.drop 4).take 8))
      have HX2 := hide (word_lt ((bs.drop 12).take 8))
      rw [F2.out] at HF1
      rw [F3.out] at HF2
      have HE2 : Hid (trailOf bs size = if bs.take 4 ≠ magicL ∨ okT (wordI ((bs.drop 4).take 8)) (wordI ((bs.drop 12).take 8)) = false then (0, 0, 81)
        else if wordI ((bs.drop 4).take 8) + wordI ((bs.drop 12).take 8) + 24 ≠ size then (0, 0, 82)
        else (wordI ((bs.drop 4).take 8), wordI ((bs.drop 12).take 8), 0)) := by show _ = _; rw [HE.out, if_neg (by rw [HL.out]; intro h; rcases h with h | h; exact h rfl; exact h hop)]
      unfold wordI at HE2
      generalize word ((bs.drop 4).take 8) = X at HF1 HX1 HE2
      generalize word ((bs.drop 12).take 8) = Y at HF2 HX2 HE2
      have HRV := hide (Got.rd HO1.out (by rw [HLL.out]; omega))
      have HNV : Hid (va = none → 20 = 0 ∧ 20 = 0) := Got.nil HO1.out
      clear hLd EB HE F2 F3 HVN
      have HGE : Hid (∀ g, w1.heap.size ≤ g → w.heap.size ≤ g ∧ g ≠ r) := fun g h => by
        have h1 := HB1.out.size; have h2 := HT1.out.lt; have h3 := HRS.out; omega
      go_wp2_with fail
      refine (newCursor_any va 20 20 L w1 HRV.out (Nat.le_refl _) (by omega) HNV.out).mono ?_
      rintro e w2 ⟨g, rfl, hg, hcur, hb2⟩
      obtain ⟨hgw, hgr⟩ := HGE.out g hg
      have HT2 := hide (HT1.out.below hb2)
      have HB2 := hide (below_trans HB1.out hb2)
      have HC2 := hide hcur
      have HGW := hide hgw
      have HGR : Hid (some g ≠ some r) := fun e => hgr (Option.some.inj e)
      clear hcur hb2 hg hgw hgr
      go_wp2_with fail
      refine (take_any g 0 L 4 w2 HC2.out).mono ?_
      rintro e w3 ⟨⟨v, rfl, hov⟩, hg3, hc3⟩
      rw [HTK.out] at hov hc3
      have HC3 : Hid (Cur w3 g (L.drop 4) (0 + 4)) := by have h := hc3; rw [if_pos rfl] at h; exact h
      have HT3 := hide (HT2.out.grown hg3 HGR.out)
      have HB3 := hide (grown_below HB2.out hg3 HGW.out)
      have hov2 : Own w3 w2.heap.size v (L.take 4) := hov
      rw [F1.out] at hov2
      obtain ⟨xa, xc, rfl⟩ := hov2.shape
      have hl4 : (bs.take 4).length = 4 := by rw [List.length_take, HL.out]; omega
      rw [hl4] at hov2
      rcases xa with _ | xad
      · exfalso
        have h := Got.nil hov2 rfl
        omega
      have hcv := conv_str (c := xc) (Got.rd hov2 (by rw [hl4]; omega))
      rw [hl4]
      have HL4 := hide hl4
      clear hov hc3 hg3 hov2 hl4
      obtain ⟨S, hS⟩ : ∃ S, str (bs.take 4) = S := ⟨_, rfl⟩
      rw [hS] at hcv
      have HS := hide hS
      clear hS
      go_wp2_with fail
      refine (fixedC_any g (0 + 4) (L.drop 4) 8 w3 HC3.out).mono ?_
      rintro e w4 ⟨rfl, hg4, hc4⟩
      rw [HF1.out] at hc4 ⊢
      have HC4 : Hid (Cur w4 g ((L.drop 4).drop 8) (0 + 4 + 8)) := by have h := hc4; rw [if_pos rfl] at h; exact h
      have HT4 := hide (HT3.out.grown hg4 HGR.out)
      have HB4 := hide (grown_below HB3.out hg4 HGW.out)
      clear hg4 hc4 hcv
      have hX := HX1.out
      go_wp2_with fail
      refine (fixedC_any g (0 + 4 + 8) ((L.drop 4).drop 8) 8 w4 HC4.out).mono ?_
      rintro e w5 ⟨rfl, hg5, hc5⟩
      rw [HF2.out]
      have HT5 := hide (HT4.out.grown hg5 HGR.out)
      have HB5 := hide (grown_below HB4.out hg5 HGW.out)
      clear hg5 hc5
      have hY := HX2.out
      have HMG := hide (magic_eq (bs.take 4))
      rw [HS.out] at HMG
      obtain ⟨BX, hBX⟩ : ∃ BX, wrap64 (X : Int) = BX := ⟨_, rfl⟩
      obtain ⟨BY, hBY⟩ : ∃ BY, wrap64 (Y : Int) = BY := ⟨_, rfl⟩
      rw [hBX, hBY] at HE2
      obtain ⟨w6, hw6⟩ : ∃ w6, w5.alloc (.cells #[.int .i64 BX, .int .i64 BY] 24) = w6 := ⟨_, rfl⟩
      have hb56 : Below w5.heap.size w5 w6 := by rw [← hw6]; exact (Below.refl _ _).alloc (Nat.le_refl _) _
      have HN6 : Hid (TB w6 w5.heap.size BX BY) := by rw [← hw6]; exact TB.new _ _ _
      have HT6 := hide (HT5.out.below hb56)
      have HB6 := hide (below_trans HB5.out hb56)
      obtain ⟨q, hq⟩ : ∃ q, w5.heap.size = q := ⟨_, rfl⟩
      rw [hq] at HN6
      clear hb56
      by_cases hm : bs.take 4 = magicL
      · have hmg : (S.toList == [119, 110, 119, 49]) = true := by rw [HMG.out]; exact decide_eq_true hm
        have HE3 : Hid (trailOf bs size = if okT BX BY = false then (0, 0, 81) else if BX + BY + 24 ≠ size then (0, 0, 82) else (BX, BY, 0)) := by
          show _ = _
          rw [HE2.out]
          by_cases h : okT BX BY = false
          · rw [if_pos (.inr h), if_pos h]
          · rw [if_neg (by rintro (h1 | h1); exact h1 hm; exact h h1), if_neg h]
        have n0 := HN6.out.c0
        have n1 := HN6.out.c1
        clear hm HMG HE2
        go_wp2_with fail
        refine (isTrail_any BX BY w6).mono ?_
        rintro e w7 ⟨rfl, hb7⟩
        have HT7 := hide (HT6.out.below hb7)
        have HN7 := hide (HN6.out.below hb7)
        have HB7 := hide (below_trans HB6.out hb7)
        clear hb7 n0 n1
        have t0 := HT7.out.c0
        have t1 := HT7.out.c1
        have z0 := HT7.out.fz 0
        have z1 := HT7.out.fz 1
        have n0 := HN7.out.c0
        have n1 := HN7.out.c1
        have HOK : Hid (okT BX BY = true → 0 ≤ BX ∧ BX ≤ 268435456 ∧ 1 ≤ BY ∧ BY ≤ 16793600) := fun h => by
          unfold okT at h; have := of_decide_eq_true h; omega
        by_cases hk : okT BX BY = true
        · obtain ⟨k1, k2, k3, k4⟩ := HOK.out hk
          have HE4 : Hid (trailOf bs size = if BX + BY + 24 ≠ size then (0, 0, 82) else (BX, BY, 0)) := by
            show _ = _; rw [HE3.out, if_neg (by rw [hk]; simp)]
          rw [hk]
          clear hk HOK HE3
          by_cases hz : BX + BY + 24 = size
          · have HE5 : Hid (trailOf bs size = (BX, BY, 0)) := by show _ = _; rw [HE4.out, if_neg (by simp [hz])]
            have hzb : (BX + BY + 24 != size) = false := by rw [hz]; simp
            clear HE4
            go_wp2_with fail
            refine bodyPost_ret (tb_ret2 rfl _ _ r BX BY rfl (HT7.out.set2 BX BY)) rfl ?_
            exact ⟨ret_trail HE5.out, by first | exact below2 HB7.out (by rw [HRS.out]; exact Nat.le_refl _) _ _ | (rw [← HRS.out]; exact below2 HB7.out (by rw [HRS.out]; exact Nat.le_refl _) _ _)⟩
          · have HE5 : Hid (trailOf bs size = (0, 0, 82)) := by show _ = _; rw [HE4.out, if_pos hz]
            have hzb : (BX + BY + 24 != size) = true := by rw [bne_iff_ne]; exact hz
            clear HE4 hz
            go_wp2_with fail
            refine bodyPost_ret (tb_ret2 rfl _ _ r 0 0 rfl (HT7.out.set2 0 0)) rfl ?_
            exact ⟨ret_trail HE5.out, by first | exact below2 HB7.out (by rw [HRS.out]; exact Nat.le_refl _) _ _ | (rw [← HRS.out]; exact below2 HB7.out (by rw [HRS.out]; exact Nat.le_refl _) _ _)⟩
        · have hk2 : okT BX BY = false := by simpa using hk
          have HE5 : Hid (trailOf bs size = (0, 0, 81)) := by show _ = _; rw [HE3.out, if_pos hk2]
          rw [hk2]
          clear hk hk2 HOK HE3
          go_wp2_with fail
          refine bodyPost_ret (tb_ret2 rfl _ _ r 0 0 rfl (HT7.out.set2 0 0)) rfl ?_
          exact ⟨ret_trail HE5.out, by first | exact below2 HB7.out (by rw [HRS.out]; exact Nat.le_refl _) _ _ | (rw [← HRS.out]; exact below2 HB7.out (by rw [HRS.out]; exact Nat.le_refl _) _ _)⟩
      · have hmg : (S.toList == [119, 110, 119, 49]) = false := by rw [HMG.out]; exact decide_eq_false hm
        have HE5 : Hid (trailOf bs size = (0, 0, 81)) := by show _ = _; rw [HE2.out, if_pos (.inl hm)]
        have t0 := HT6.out.c0
        have t1 := HT6.out.c1
        have z0 := HT6.out.fz 0
        have z1 := HT6.out.fz 1
        clear hm HMG HE2
        go_wp2_with fail
        refine bodyPost_ret (tb_ret2 rfl _ _ r 0 0 rfl (HT6.out.set2 0 0)) rfl ?_
        exact ⟨ret_trail HE5.out, by first | exact below2 HB6.out (by rw [HRS.out]; exact Nat.le_refl _) _ _ | (rw [← HRS.out]; exact below2 HB6.out (by rw [HRS.out]; exact Nat.le_refl _) _ _)⟩
    · have d2 : (((openErr bs : Nat) : Int) != 0) = true := by rw [bne_iff_ne]; omega
      generalize openErr bs = oe at d2 hop HE
      have t0 := HT1.out.c0
      have t1 := HT1.out.c1
      have z0 := HT1.out.fz 0
      have z1 := HT1.out.fz 1
      have HF : Hid (trailOf bs size = (0, 0, 81)) := by show _ = _; rw [HE.out, if_pos (.inr hop)]
      go_wp2_with fail
      refine bodyPost_ret (tb_ret2 rfl _ _ r 0 0 rfl (HT1.out.set2 0 0)) rfl ?_
      exact ⟨ret_trail HF.out, by first | exact below2 HB1.out (by rw [HRS.out]; exact Nat.le_refl _) _ _ | (rw [← HRS.out]; exact below2 HB1.out (by rw [HRS.out]; exact Nat.le_refl _) _ _)⟩
  · have d1 : ((n : Int) != 24) = true := by rw [bne_iff_ne]; omega
    have HF : Hid (trailOf bs size = (0, 0, 81)) := by show _ = _; rw [HE.out, if_pos (.inl (by rw [HL.out]; exact h24))]
    go_enter Try.func4, Try.ntmps4
    go_wp2_with fail
    refine bodyPost_ret (tb_ret2 rfl _ _ w.heap.size 0 0 rfl (TB.new _ _ _)) rfl ?_
    exact ⟨ret_trail HF.out, (Below.refl _ _).alloc (Nat.le_refl _) _⟩
end Go.Proofs.Ytjikoamchbmhjaa.Foot
