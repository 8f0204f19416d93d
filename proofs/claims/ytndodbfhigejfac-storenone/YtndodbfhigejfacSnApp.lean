/-
  Bytes are appended to nil stores, out of memory with marks behind them, which is written over then.
-/
import Derived.Test.YtndodbfhigejfacSnKeep
import Derived.Deep.RegionHeld
namespace Go.Proofs.Ytndodbfhigejfac.Sn
open Go.ChangeShapes Go.WideShapes Go.ChangeAt Go.RowKit
open Go.Proofs.Ytndodbfhigejfac.Base
set_option linter.unusedVariables false
theorem make8 (n : Nat) : madeCells #[Value.int .u8 0] n = (vals (List.replicate n 0)).toArray := by
  apply Array.ext
  · rw [size_madeCells]; simp [vals]
  · intro k h1 h2
    simp [madeCells, vals, V8, Nat.mod_one]
theorem make_row_u8 (n : Nat) (m : Int) (hm : m = (n : Int)) (h : n ≤ 140737488355328) : ∀ W, (Instr.makeSlice 25 (.int .i64 m) (.int .i64 m)).run Try.prog W = .ok (.slice (some ⟨W.heap.size, 0, none⟩) n n) (W.alloc (.cells (vals (List.replicate n 0)).toArray 5)) := by
  intro W
  subst hm
  rw [← make8]
  exact run_make_row' 25 5 (.int .u8 0) 1 Try.underlying25 info8 rfl .i64 .i64 n (by omega) (by omega) W
/-- The first k are laid, the rest are zeros. -/
def laid8 (zs : List (BitVec 8)) (k : Nat) : List (BitVec 8) := zs.take k ++ List.replicate (zs.length - k) 0
theorem laid8_zero (zs : List (BitVec 8)) : laid8 zs 0 = List.replicate zs.length 0 := by unfold laid8; simp
theorem laid8_all (zs : List (BitVec 8)) : laid8 zs zs.length = zs := by unfold laid8; simp
theorem laid8_succ (zs : List (BitVec 8)) (k : Nat) (h : k < zs.length) : (laid8 zs k).set k (zs.getD k 0) = laid8 zs (k + 1) := by
  unfold laid8
  have hl : (zs.take k).length = k := by rw [List.length_take]; omega
  rw [List.set_append_right _ _ (by omega), hl, Nat.sub_self, show zs.length - k = (zs.length - (k + 1)) + 1 by omega, List.replicate_succ, List.set_cons_zero,
    List.take_succ_eq_append_getElem h, List.append_assoc, List.getD_eq_getElem?_getD, List.getElem?_eq_getElem h]
  rfl
/-- The first k are written over. -/
def over8 (zs : List (BitVec 8)) (k : Nat) : List (BitVec 8) := List.replicate k 93 ++ zs.drop k
theorem over8_get (zs : List (BitVec 8)) (k : Nat) (h : k < zs.length) : (over8 zs k).getD k 0 = zs.getD k 0 := by
  unfold over8
  rw [List.getD_eq_getElem?_getD, List.getElem?_append_right (by simp), List.length_replicate, Nat.sub_self, List.getElem?_drop, Nat.add_zero, List.getD_eq_getElem?_getD]
theorem over8_succ (zs : List (BitVec 8)) (k : Nat) (h : k < zs.length) : (over8 zs k).set k 93 = over8 zs (k + 1) := by
  unfold over8
  rw [List.set_append_right _ _ (by simp), List.length_replicate, Nat.sub_self, List.drop_eq_getElem_cons h, List.set_cons_zero, List.replicate_succ', List.append_assoc]
  rfl
def marks92 : List (BitVec 8) := List.replicate 8 92
theorem marked_in (bs : List (BitVec 8)) (k : Nat) (h : k < bs.length) : (bs ++ marks92).getD k 0 = bs.getD k 0 := by
  rw [List.getD_eq_getElem?_getD, List.getElem?_append_left h, List.getD_eq_getElem?_getD]
theorem marked_out (bs : List (BitVec 8)) (k : Nat) (h : bs.length ≤ k) (h2 : k < bs.length + 8) : (bs ++ marks92).getD k 0 = 92 := by
  rw [List.getD_eq_getElem?_getD, List.getElem?_append_right h]
  unfold marks92
  rw [List.getElem?_replicate, if_pos (by omega)]
  rfl
/-- The block x is a step. -/
def SB (w : World) (x : Nat) (op : Int) (nm : ByteArray) (n k : Int) (d : Value) (m : Int) : Prop := w.heap[x]? = some (.cells #[.int .i64 op, .string nm, .int .i64 n, .int .i64 k, d, .int .u32 m] 49)
theorem SB.cells {w : World} {x : Nat} {op : Int} {nm : ByteArray} {n k : Int} {d : Value} {m : Int} (h : SB w x op nm n k d m) : w.cell? ⟨x, 0, none⟩ = some (.int .i64 op) ∧ w.cell? ⟨x, 1, none⟩ = some (.string nm) ∧ w.cell? ⟨x, 2, none⟩ = some (.int .i64 n) ∧ w.cell? ⟨x, 3, none⟩ = some (.int .i64 k) ∧ w.cell? ⟨x, 4, none⟩ = some d ∧ w.cell? ⟨x, 5, none⟩ = some (.int .u32 m) := by
  refine ⟨?_, ?_, ?_, ?_, ?_, ?_⟩ <;> (rw [cell_of_row _ _ _ _ _ _ h]; rfl)
theorem SB.lt {w : World} {x : Nat} {op : Int} {nm : ByteArray} {n k : Int} {d : Value} {m : Int} (h : SB w x op nm n k d m) : x < w.heap.size := by
  by_cases hg : x < w.heap.size
  · exact hg
  · unfold SB at h
    rw [Array.getElem?_eq_none (by omega)] at h
    cases h
theorem SB.grown {w w' : World} {x : Nat} {op : Int} {nm : ByteArray} {n k : Int} {d : Value} {m : Int} {q : Option Nat} (h : SB w x op nm n k d m) (hg : w.grownBy w' q) (hq : q ≠ some x) : SB w' x op nm n k d m := by
  unfold SB
  rw [hg.block x h.lt (fun e => hq e.symm)]
  exact h
theorem SB.below {w w' : World} {x : Nat} {op : Int} {nm : ByteArray} {n k : Int} {d : Value} {m : Int} (h : SB w x op nm n k d m) (hb : Below w.heap.size w w') : SB w' x op nm n k d m := h.grown (below_grown hb) (by simp)
set_option maxHeartbeats 2000000 in
set_option maxRecDepth 100000 in
theorem appended_any (g base : Nat) (c2 c3 c4 c5 : Value) (op : Int) (nm : ByteArray) (n k : Int) (a : Option Addr) (len cap : Nat) (bs : List (BitVec 8)) (m : Int) (w : World) (hk : KW w g base c2 c3 c4 c5) (hr : Rd w a len bs) (hl : len ≤ 140737488351232) :
    Calls Try.prog 38 #[.pointer (some ⟨g, 0, none⟩), .agg #[.int .i64 op, .string nm, .int .i64 n, .int .i64 k, .slice a len cap, .int .u32 m]] w fun e w' => e = .returned (.bool true) ∧ Below w.heap.size w w' := by
  have HK := hide hk
  have HR := hide hr
  have HL := hide hr.1
  have HC := hide hr.2.2
  have hli : (len : Int) ≤ 140737488351232 := by omega
  have hmk := make_row_u8 (len + 8) ((len : Int) + 8) (by omega) (by omega)
  have HZL : Hid ((bs ++ marks92).length = len + 8) := by show _ = _; rw [List.length_append, HL.out]; rfl
  have HGL : Hid (g < w.heap.size) := by have h1 := hk.2.1; have h2 := hk.2.2; show _ < _; omega
  clear hk hr
  obtain ⟨x, hx⟩ : ∃ x, w.heap.size = x := ⟨_, rfl⟩
  have HX := hide hx
  obtain ⟨w1, hw1⟩ : ∃ w1, w.alloc (.cells #[.int .i64 op, .string nm, .int .i64 n, .int .i64 k, .slice a len cap, .int .u32 m] 49) = w1 := ⟨_, rfl⟩
  have HSB : Hid (SB w1 x op nm n k (.slice a len cap) m) := by rw [← hw1, ← hx]; exact heap_alloc_new _ _
  have HB1 : Hid (Below x w w1) := by rw [← hw1, ← hx]; exact (Below.refl _ _).alloc (Nat.le_refl _) _
  have HS1 : Hid (w1.heap.size = x + 1) := by show _ = _; rw [← hw1, ← hx]; simp
  obtain ⟨q0, q1, q2, q3, q4, q5⟩ := HSB.out.cells
  have HO0 : Hid (Own (w1.alloc (.cells (vals (List.replicate (len + 8) 0)).toArray 5)) (x + 1) (.slice (some ⟨x + 1, 0, none⟩) (len + 8) (len + 8)) (laid8 (bs ++ marks92) 0)) := by
    show Own _ _ _ _
    rw [laid8_zero, HZL.out, ← HS1.out]
    have h := own_heap (base := w1.heap.size) (bs := List.replicate (len + 8) 0) (heap_alloc_new w1 _) (Nat.le_refl _) (by unfold maxLen; simp; omega)
    rw [List.length_replicate] at h
    exact h
  have HSB2 : Hid (SB (w1.alloc (.cells (vals (List.replicate (len + 8) 0)).toArray 5)) x op nm n k (.slice a len cap) m) := HSB.out.below ((Below.refl _ _).alloc (Nat.le_refl _) _)
  have HB2 : Hid (Below x w (w1.alloc (.cells (vals (List.replicate (len + 8) 0)).toArray 5))) := HB1.out.alloc (by rw [HS1.out]; omega) _
  generalize (vals (List.replicate (len + 8) 0)).toArray = ZT at hmk HO0 HSB2 HB2
  go_enter Try.func38, Try.ntmps38
  go_wp2_with fail
  obtain ⟨G, hG⟩ : ∃ G, x + 1 = G := ⟨_, rfl⟩
  rw [HS1.out, hG]
  rw [hG] at HO0
  have hxG : x < G := by omega
  have HGX : Hid (g < x) := by rw [← HX.out]; exact HGL.out
  obtain ⟨w2, hw2⟩ : ∃ w2, w1.alloc (.cells ZT 5) = w2 := ⟨_, rfl⟩
  rw [hw2] at HO0 HSB2 HB2 ⊢
  clear hw2 hG q0 q1 q2 q3 q4 q5 HSB hmk HS1 HB1 hw1 hx
  go_loopw [6] (fun i wr => ∃ j : Nat, j ≤ len + 8 ∧ i = .int .i64 (j : Int) ∧ Hid (Own wr G (.slice (some ⟨G, 0, none⟩) (len + 8) (len + 8)) (laid8 (bs ++ marks92) j) ∧ SB wr x op nm n k (.slice a len cap) m ∧ Below x w wr)) (fun i _ => len + 8 - (intOf i).toNat)
  case atStart => exact ⟨0, Nat.zero_le _, rfl, HO0.out, HSB2.out, HB2.out⟩
  case round =>
    clear HO0 HSB2 HB2
    obtain ⟨j, hj, rfl, H⟩ := hrel
    obtain ⟨q0, q1, q2, q3, q4, q5⟩ := H.out.2.1.cells
    by_cases hlt : (j : Int) < (len : Int) + 8
    · have c1 := H.out.1.cell j (by omega)
      have f1 := H.out.1.frozen j
      generalize (laid8 (bs ++ marks92) j).getD j 0 = d at c1
      have HS1 := hide (H.out.1.store j 92)
      have HLS := hide (laid8_succ (bs ++ marks92) j (by rw [HZL.out]; omega))
      have hltn : (j : Int) < ((len + 8 : Nat) : Int) := by omega
      have HSB1 := hide (H.out.2.1.grown HS1.out.2 (fun e => by have := Option.some.inj e; omega))
      have HBX : Hid (Below x w (wr.setCell ⟨G, j, none⟩ (.int .u8 92))) := H.out.2.2.setCell (show x ≤ G by omega) _
      obtain ⟨p0, p1, p2, p3, p4, p5⟩ := HSB1.out.cells
      by_cases hin : (j : Int) < (len : Int)
      · obtain ⟨b1, o1, rfl, hb1, hc1⟩ := HC.out (by omega)
        have g1 := hc1 j (by omega)
        rw [HX.out] at hb1
        rw [marked_in bs j (by rw [HL.out]; omega)] at HLS
        have g2 : (wr.setCell ⟨G, j, none⟩ (.int .u8 92)).cell? ⟨b1, o1 + j, none⟩ = some (.int .u8 ((bs.getD j 0).toNat : Int)) := by
          have h := HBX.out.cell (p := ⟨b1, o1 + j, none⟩) hb1
          exact h.trans g1
        generalize bs.getD j 0 = y at g1 g2 HLS
        have HS2 := hide (HS1.out.1.store j y)
        rw [List.set_set, HLS.out] at HS2
        have c2 := HS1.out.1.cell j (by omega)
        have f2 := HS1.out.1.frozen j
        generalize ((laid8 (bs ++ marks92) j).set j 92).getD j 0 = d2 at c2
        clear hc1 g1
        go_wp2_with fail
        go_roundw
        case rel => exact ⟨j + 1, by omega, by go_num, HS2.out.1, HSB1.out.grown HS2.out.2 (fun e => by have := Option.some.inj e; omega), HBX.out.setCell (show x ≤ G by omega) _⟩
        case measure => simp [intOf]; omega
      · rw [marked_out bs j (by rw [HL.out]; omega) (by rw [HL.out]; omega)] at HLS
        rw [HLS.out] at HS1
        go_wp2_with fail
        go_roundw
        case rel => exact ⟨j + 1, by omega, by go_num, HS1.out.1, HSB1.out, HBX.out⟩
        case measure => simp [intOf]; omega
    · obtain rfl : j = len + 8 := by omega
      have HOE : Hid (Own wr G (.slice (some ⟨G, 0, none⟩) (len + 8) (len + 8)) (bs ++ marks92)) := by
        have h := H.out.1
        rw [← HZL.out, laid8_all] at h
        rw [HZL.out] at h
        exact h
      have k0 : wr.cell? ⟨g, 0, none⟩ = some (.pointer none) := by rw [H.out.2.2.cell (p := ⟨g, 0, none⟩) HGX.out]; exact HK.out.cells.1
      have k1 : wr.cell? ⟨g, 1, none⟩ = some (.pointer none) := by rw [H.out.2.2.cell (p := ⟨g, 1, none⟩) HGX.out]; exact HK.out.cells.2.1
      have hlc : (len : Int) ≤ ((len + 8 : Nat) : Int) := by omega
      have hlc2 : len ≤ len + 8 := by omega
      have HXS : Hid (x < wr.heap.size) := H.out.2.1.lt
      have HGS : Hid (g < wr.heap.size) := by have h1 := HGX.out; have h2 := HXS.out; show _ < _; omega
      go_wp2_with fail
      go_region_held (fun V => V.cell? ⟨g, 0, none⟩ = some (.pointer none) ∧ V.cell? ⟨x, 1, none⟩ = some (.string nm) ∧ V.cell? ⟨x, 4, none⟩ = some (.slice a len cap)) (go_keep) (first
        | (go_at_call 11; refine (append_nil _ _ _ _ _).mono ?_; rintro e w6 ⟨rfl, hb6⟩; have hbb := below_trans ((Below.refl wr.heap.size wr).drew) hb6; have HB6 := hide hbb; have a0 : w6.cell? ⟨g, 0, none⟩ = some (.pointer none) := (hbb.cell (p := ⟨g, 0, none⟩) HGS.out).trans k0; have a1 : w6.cell? ⟨x, 1, none⟩ = some (.string nm) := (hbb.cell (p := ⟨x, 1, none⟩) HXS.out).trans q1; have a2 : w6.cell? ⟨x, 4, none⟩ = some (.slice a len cap) := (hbb.cell (p := ⟨x, 4, none⟩) HXS.out).trans q4; have a3 : w6.cell? ⟨g, 1, none⟩ = some (.pointer none) := (hbb.cell (p := ⟨g, 1, none⟩) HGS.out).trans k1; clear hb6 hbb))
      have HO6 := hide (HOE.out.below HB6.out)
      have HS6 := hide (H.out.2.1.below HB6.out)
      have HBB6 : Hid (Below x w w6) := H.out.2.2.trans (HB6.out.mono (by have := HXS.out; omega))
      clear HOE H k0 k1 q0 q1 q2 q3 q4 q5 HB6
      go_wp2_with fail
      go_quiet ((go_at_call 67; exact Calls.quiet_of_same (refAppend_nil _ _ _ _ _)))
      clear a0 a1 a2 a3
      go_wp2_with fail
      have HO7 : Hid (Own (w6.drewN nq) G (.slice (some ⟨G, 0, none⟩) (len + 8) (len + 8)) (over8 (bs ++ marks92) 0)) := HO6.out.below (below_drewN' _ _ _)
      have HS7 := hide (HS6.out.below (below_drewN' _ _ nq))
      have HB7 : Hid (Below x w (w6.drewN nq)) := HBB6.out.trans (below_drewN' _ _ _)
      generalize w6.drewN nq = w7 at HO7 HS7 HB7
      clear HO6 HS6 HBB6 HXS HGS
      go_loopw [9] (fun i wr => ∃ j : Nat, j ≤ len + 8 ∧ i = .int .i64 (j : Int) ∧ Hid (Own wr G (.slice (some ⟨G, 0, none⟩) (len + 8) (len + 8)) (over8 (bs ++ marks92) j) ∧ SB wr x op nm n k (.slice a len cap) m ∧ Below x w wr)) (fun i _ => len + 8 - (intOf i).toNat)
      case atStart => exact ⟨0, Nat.zero_le _, rfl, HO7.out, HS7.out, HB7.out⟩
      case round =>
        clear HO7 HS7 HB7
        obtain ⟨j, hj, rfl, H⟩ := hrel
        obtain ⟨q0, q1, q2, q3, q4, q5⟩ := H.out.2.1.cells
        by_cases hlt : (j : Int) < (len : Int) + 8
        · have c1 := H.out.1.cell j (by omega)
          rw [over8_get _ _ (by rw [HZL.out]; omega)] at c1
          have hltn : (j : Int) < ((len + 8 : Nat) : Int) := by omega
          have HOD : Hid (∀ nq, Own ((wr.drewN nq).setCell ⟨G, j, none⟩ (.int .u8 93)) G (.slice (some ⟨G, 0, none⟩) (len + 8) (len + 8)) (over8 (bs ++ marks92) (j + 1)) ∧ (wr.drewN nq).grownBy ((wr.drewN nq).setCell ⟨G, j, none⟩ (.int .u8 93)) (some G) ∧ (∃ d : BitVec 8, (wr.drewN nq).cell? ⟨G, j, none⟩ = some (.int .u8 (d.toNat : Int))) ∧ (wr.drewN nq).frozen? ⟨G, j, none⟩ = false) := by
            show ∀ nq, _
            intro nq
            have h := H.out.1.below (below_drewN' _ wr nq)
            have h2 := h.store j 93
            rw [over8_succ _ _ (by rw [HZL.out]; omega)] at h2
            exact ⟨h2.1, h2.2, ⟨_, h.cell j (by omega)⟩, h.frozen j⟩
          by_cases hin : (j : Int) < (len : Int)
          · obtain ⟨b1, o1, rfl, hb1, hc1⟩ := HC.out (by omega)
            have g1 := hc1 j (by omega)
            rw [HX.out] at hb1
            rw [marked_in bs j (by rw [HL.out]; omega)] at c1
            rw [← H.out.2.2.cell (p := ⟨b1, o1 + j, none⟩) hb1] at g1
            generalize bs.getD j 0 = y at g1 c1
            have d1 : decide ((j : Int) < (len : Int)) = true := by rw [decide_eq_true_iff]; exact hin
            have d2 : decide ((len : Int) ≤ (j : Int)) = false := by rw [decide_eq_false_iff_not]; omega
            have d3 : ((y.toNat : Int) != (y.toNat : Int)) = false := by simp
            have d4 : decide (len ≤ j) = false := by rw [decide_eq_false_iff_not]; omega
            have d5 : decide (j < len) = true := by rw [decide_eq_true_iff]; omega
            have d6 : (y.toNat != y.toNat) = false := by simp
            clear hc1
            go_wp2_with fail
            go_quiet (fail)
            obtain ⟨z1, z2, ⟨d, z3⟩, z4⟩ := HOD.out nq
            have HZ1 := hide z1
            have HZ2 := hide z2
            clear z1 z2
            go_wp2_with fail
            go_roundw
            case rel => exact ⟨j + 1, by omega, by go_num, HZ1.out, (H.out.2.1.below (below_drewN' _ _ _)).grown HZ2.out (fun e => by have := Option.some.inj e; omega), (H.out.2.2.trans (below_drewN' _ _ _)).setCell (show x ≤ G by omega) _⟩
            case measure => simp [intOf]; omega
          · rw [marked_out bs j (by rw [HL.out]; omega) (by rw [HL.out]; omega)] at c1
            rw [show (((92 : BitVec 8)).toNat : Int) = 92 from rfl] at c1
            have d1 : decide ((j : Int) < (len : Int)) = false := by rw [decide_eq_false_iff_not]; exact hin
            have d2 : decide ((len : Int) ≤ (j : Int)) = true := by rw [decide_eq_true_iff]; omega
            have d4 : decide (len ≤ j) = true := by rw [decide_eq_true_iff]; omega
            have d5 : decide (j < len) = false := by rw [decide_eq_false_iff_not]; omega
            have hge : (len : Int) ≤ (j : Int) := by omega
            go_wp2_with fail
            go_quiet (fail)
            obtain ⟨z1, z2, ⟨d, z3⟩, z4⟩ := HOD.out nq
            have HZ1 := hide z1
            have HZ2 := hide z2
            clear z1 z2
            go_wp2_with fail
            go_roundw
            case rel => exact ⟨j + 1, by omega, by go_num, HZ1.out, (H.out.2.1.below (below_drewN' _ _ _)).grown HZ2.out (fun e => by have := Option.some.inj e; omega), (H.out.2.2.trans (below_drewN' _ _ _)).setCell (show x ≤ G by omega) _⟩
            case measure => simp [intOf]; omega
        · go_wp2_with fail
          go_ret
          exact ⟨rfl, by rw [HX.out]; exact H.out.2.2⟩
end Go.Proofs.Ytndodbfhigejfac.Sn
