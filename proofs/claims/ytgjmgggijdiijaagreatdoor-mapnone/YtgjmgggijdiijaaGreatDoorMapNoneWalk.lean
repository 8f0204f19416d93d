/-
  The walk of the statement MapNone.
-/
import Derived.Test.YtgjmgggijdiijaaGreatDoorMnRun
namespace Go.Proofs.YtgjmgggijdiijaaGreatDoor.mapNone
open Go.ChangeShapes Go.WideShapes Go.ChangeAt Go.RowKit
open Go.Lib hiding intOf
open Go.Proofs.YtgjmgggijdiijaaGreatDoor.Base Go.Proofs.YtgjmgggijdiijaaGreatDoor.Jb
set_option linter.unusedVariables false
theorem eq_report (W : World) : (binOp .eql 32 (.agg #[.int .i64 0, .int .i64 0, .string ⟨#[]⟩, .int .i64 0, .int .i64 0, .int .i64 0]) (.agg #[.int .i64 0, .int .i64 0, .string ⟨#[]⟩, .int .i64 0, .int .i64 0, .int .i64 0])).run Tryz.prog W = .ok (.bool true) W := by
  have u3 := Tryz.underlying3
  have a3 := Tryz.isAgg3
  have z3 := Tryz.sizeOf3
  have u2 := Tryz.underlying2
  have a2 := Tryz.isAgg2
  have z2 := Tryz.sizeOf2
  have u9 := Tryz.underlying9
  have a9 := Tryz.isAgg9
  have z9 := Tryz.sizeOf9
  have hS : Tryz.prog.underlying 32 = some (.struct (Tryz.prog.fieldsOf 32)) := by kernel_rfl
  have hp : Tryz.prog.stoodInHeld 32 = false := by kernel_rfl
  rw [run_eql_struct, show (10000 : Nat) = 9999 + 1 from rfl, run_equalIn_agg W 9999 32 _ _ hS hp]
  simp only [Program.fieldsOf, Tryz.underlying32]
  go_simp
set_option maxHeartbeats 2000000 in
set_option maxRecDepth 100000 in
theorem walk (t : Tr) (w : World) (ho : t.out.size ≤ 140737488355328) (ht : In64 t.task) (ha : In64 t.att) (hT : Lib.TabIs Tryz.prog w "internal/strconv.uint64pow10" .u64 Lib.pow10Tab) :
    Calls Tryz.prog 3 #[t.val] w fun e w' => e = .returned (.bool true) ∧ Below w.heap.size w w' := by
  obtain ⟨w1, hw1⟩ : ∃ w1, w.alloc (.cells #[.string t.out, .int .i64 t.k, .int .i64 t.n, .slice t.a t.l t.c, .bool t.cb, .int .i64 t.bu, .int .i64 t.fa, .int .i64 t.tr, .int .i64 t.s0, .int .i64 t.s1, .int .i64 t.s2, .int .i64 t.task, .int .i64 t.att, .int .i64 t.off, .string t.text, .int .i64 t.pos, .bool t.st] 30) = w1 := ⟨_, rfl⟩
  have HB1 := hide (below_new hw1)
  have HN1 := hide (new_at hw1 (Below.refl _ _))
  have HRN := hide (run_none t w1 ho ht ha (tab_below hT HB1.out))
  have HNM := hide (fun W hW => name_any t.out t.task t.att W ho ht ha hW)
  have HRM := hide (fun W => rname_any t.out t.task t.att W ho ht ha)
  have HT1 := hide (tab_below hT HB1.out)
  generalize nm t.out t.task t.att = NM at HNM HRM
  unfold Tr.job Tr.split at HRN
  unfold Tr.val
  clear ho ht ha hT
  have p0 : w1.cell? ⟨w.heap.size, 0, none⟩ = some (.string t.out) := by rw [cell_of_row _ _ _ _ _ _ HN1.out]; rfl
  have p1 : w1.cell? ⟨w.heap.size, 1, none⟩ = some (.int .i64 t.k) := by rw [cell_of_row _ _ _ _ _ _ HN1.out]; rfl
  have p2 : w1.cell? ⟨w.heap.size, 2, none⟩ = some (.int .i64 t.n) := by rw [cell_of_row _ _ _ _ _ _ HN1.out]; rfl
  have p3 : w1.cell? ⟨w.heap.size, 3, none⟩ = some (.slice t.a t.l t.c) := by rw [cell_of_row _ _ _ _ _ _ HN1.out]; rfl
  have p4 : w1.cell? ⟨w.heap.size, 4, none⟩ = some (.bool t.cb) := by rw [cell_of_row _ _ _ _ _ _ HN1.out]; rfl
  have p5 : w1.cell? ⟨w.heap.size, 5, none⟩ = some (.int .i64 t.bu) := by rw [cell_of_row _ _ _ _ _ _ HN1.out]; rfl
  have p6 : w1.cell? ⟨w.heap.size, 6, none⟩ = some (.int .i64 t.fa) := by rw [cell_of_row _ _ _ _ _ _ HN1.out]; rfl
  have p7 : w1.cell? ⟨w.heap.size, 7, none⟩ = some (.int .i64 t.tr) := by rw [cell_of_row _ _ _ _ _ _ HN1.out]; rfl
  have p8 : w1.cell? ⟨w.heap.size, 8, none⟩ = some (.int .i64 t.s0) := by rw [cell_of_row _ _ _ _ _ _ HN1.out]; rfl
  have p9 : w1.cell? ⟨w.heap.size, 9, none⟩ = some (.int .i64 t.s1) := by rw [cell_of_row _ _ _ _ _ _ HN1.out]; rfl
  have p10 : w1.cell? ⟨w.heap.size, 10, none⟩ = some (.int .i64 t.s2) := by rw [cell_of_row _ _ _ _ _ _ HN1.out]; rfl
  have p11 : w1.cell? ⟨w.heap.size, 11, none⟩ = some (.int .i64 t.task) := by rw [cell_of_row _ _ _ _ _ _ HN1.out]; rfl
  have p12 : w1.cell? ⟨w.heap.size, 12, none⟩ = some (.int .i64 t.att) := by rw [cell_of_row _ _ _ _ _ _ HN1.out]; rfl
  have p13 : w1.cell? ⟨w.heap.size, 13, none⟩ = some (.int .i64 t.off) := by rw [cell_of_row _ _ _ _ _ _ HN1.out]; rfl
  have p14 : w1.cell? ⟨w.heap.size, 14, none⟩ = some (.string t.text) := by rw [cell_of_row _ _ _ _ _ _ HN1.out]; rfl
  have p15 : w1.cell? ⟨w.heap.size, 15, none⟩ = some (.int .i64 t.pos) := by rw [cell_of_row _ _ _ _ _ _ HN1.out]; rfl
  have p16 : w1.cell? ⟨w.heap.size, 16, none⟩ = some (.bool t.st) := by rw [cell_of_row _ _ _ _ _ _ HN1.out]; rfl
  go_enter Tryz.func3, Tryz.ntmps3
  go_upto_region 2 with (go_at_call 4; refine HRN.out.mono ?_; rintro e w2 ⟨rfl, hb⟩; have B2 := hide hb; clear hb)
  obtain ⟨w3, hw3⟩ : ∃ w3, w2.alloc (.cells #[.int .i64 0, .int .i64 0, .string ⟨#[]⟩, .int .i64 0, .int .i64 0, .int .i64 0] 32) = w3 := ⟨_, rfl⟩
  rw [hw3]
  have B13 := hide (below_trans B2.out (below_new hw3))
  have N3 := hide (new_at hw3 (Below.refl _ _))
  have A3 := hide ((B13.out.block _ (lt_row HN1.out)).trans HN1.out)
  have HT3 := hide (tab_below HT1.out B13.out)
  obtain ⟨g1, hg1⟩ : ∃ g, w.heap.size = g := ⟨_, rfl⟩
  obtain ⟨g2, hg2⟩ : ∃ g, w2.heap.size = g := ⟨_, rfl⟩
  have HB3 := hide (below_trans HB1.out B13.out)
  clear hw1 hw3 p0 p1 p2 p3 p4 p5 p6 p7 p8 p9 p10 p11 p12 p13 p14 p15 p16 B2 B13 HN1 HT1 HRN
  rw [hg1] at A3 ⊢
  rw [hg2] at N3 ⊢
  have HCC : Hid (∀ V, Below w3.heap.size w3 V → V.cell? ⟨g1, 0, none⟩ = some (.string t.out) ∧ V.cell? ⟨g1, 11, none⟩ = some (.int .i64 t.task) ∧ V.cell? ⟨g1, 12, none⟩ = some (.int .i64 t.att) ∧ V.cell? ⟨g2, 0, none⟩ = some (.int .i64 0) ∧ V.cell? ⟨g2, 1, none⟩ = some (.int .i64 0) ∧ V.cell? ⟨g2, 2, none⟩ = some (.string ⟨#[]⟩) ∧ V.cell? ⟨g2, 3, none⟩ = some (.int .i64 0) ∧ V.cell? ⟨g2, 4, none⟩ = some (.int .i64 0) ∧ V.cell? ⟨g2, 5, none⟩ = some (.int .i64 0)) := fun V hV => by
    have a := (hV.block _ (lt_row A3.out)).trans A3.out
    have b := (hV.block _ (lt_row N3.out)).trans N3.out
    refine ⟨?_, ?_, ?_, ?_, ?_, ?_, ?_, ?_, ?_⟩
    · rw [cell_of_row _ _ _ _ _ _ a]; rfl
    · rw [cell_of_row _ _ _ _ _ _ a]; rfl
    · rw [cell_of_row _ _ _ _ _ _ a]; rfl
    · rw [cell_of_row _ _ _ _ _ _ b]; rfl
    · rw [cell_of_row _ _ _ _ _ _ b]; rfl
    · rw [cell_of_row _ _ _ _ _ _ b]; rfl
    · rw [cell_of_row _ _ _ _ _ _ b]; rfl
    · rw [cell_of_row _ _ _ _ _ _ b]; rfl
    · rw [cell_of_row _ _ _ _ _ _ b]; rfl
  obtain ⟨c0, c1, c2, d0, d1, d2, d3, d4, d5⟩ := HCC.out w3 (Below.refl _ _)
  have heq := eq_report
  clear hg1 hg2
  go_region_held (fun V => V.cell? ⟨g1, 0, none⟩ = some (.string t.out) ∧ V.cell? ⟨g1, 11, none⟩ = some (.int .i64 t.task) ∧ V.cell? ⟨g1, 12, none⟩ = some (.int .i64 t.att) ∧ V.cell? ⟨g2, 0, none⟩ = some (.int .i64 0) ∧ V.cell? ⟨g2, 1, none⟩ = some (.int .i64 0) ∧ V.cell? ⟨g2, 2, none⟩ = some (.string ⟨#[]⟩) ∧ V.cell? ⟨g2, 3, none⟩ = some (.int .i64 0) ∧ V.cell? ⟨g2, 4, none⟩ = some (.int .i64 0) ∧ V.cell? ⟨g2, 5, none⟩ = some (.int .i64 0)) (first | go_keep | exact E4.out) (first
    | (go_at_call 5; refine (HNM.out _ (tab_below HT3.out (by first | exact Below.refl _ _ | exact (Below.refl _ _).drew | exact below_drewN' _ _ _))).mono ?_; rintro e w4 ⟨rfl, hb⟩; have B4 := hide (below_trans (show Below w3.heap.size w3 _ from by first | exact Below.refl _ _ | exact (Below.refl _ _).drew | exact below_drewN' _ _ _) hb); have E4 := hide (HCC.out _ B4.out); clear hb)
    | (go_at_call 6; refine (HRM.out _).mono ?_; rintro e w5 ⟨rfl, hq⟩; obtain rfl := hq.symm))
  all_goals (go_wp2_with fail; go_ret; exact ⟨by simp, below_trans HB3.out B4.out⟩)
end Go.Proofs.YtgjmgggijdiijaaGreatDoor.mapNone
