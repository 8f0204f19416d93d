/-
  For LinesOnce: a part of a list of texts; where lines lie in splits.
-/
import Derived.Test.YtmhebaknoginhaaLinesAllWalk
import Derived.Test.YtmhebaknoginhaaLnSplits
import Derived.Test.YtmhebaknoginhaaLnRcut2
import Derived.Test.YtmhebaknoginhaaLnHelp
import Derived.Test.YtmhebaknoginhaaLnWorks
namespace Go.Proofs.Ytmhebaknoginhaa.Ln
open Go.ChangeShapes Go.WideShapes Go.ChangeAt Go.RowKit Go.Shelf
open Go.Proofs.Ytmhebaknoginhaa.Base Go.Proofs.Ytmhebaknoginhaa.Rf Go.Proofs.Ytmhebaknoginhaa.Rg
set_option linter.unusedVariables false
/-- Ahead of a region that draws: it ends plainly, and in no other way. -/
def onlyNormal (Q : Exit → Act → World → Prop) : Exit → Act → World → Prop
  | .normal, a, w => Q .normal a w
  | _, _, _ => False
theorem only_normal {P : Program} {c : Code} {Q : Exit → Act → World → Prop} {a : Act} {w : World} (h : c.wp P (onlyNormal Q) a w) : c.wp P Q a w :=
  Code.wp_mono (fun e a w q => by cases e <;> first | exact q | exact q.elim) h
theorem elemS : Try.prog.underlying 34 = some (.slice (Try.prog.elem 34)) := by kernel_rfl
theorem sizeS (W : World) : (sizeOf (Try.prog.elem 34)).run Try.prog W = .ok 1 W := by
  have h : (Try.prog.info? (Try.prog.elem 34)).map (·.size) = some 1 := by kernel_rfl
  cases hq : Try.prog.info? (Try.prog.elem 34) with
  | none => simp [hq] at h
  | some i => simp [hq] at h; simp [sizeOf, typeInfo, hq, h]
theorem slice_lh_s (ua : Option Addr) (len cap e f : Nat) (h : e ≤ f) (hc : f ≤ cap) (W : World) : (Instr.sliceAt 34 (.slice ua len cap) (some (.int .i64 (e : Int))) (some (.int .i64 (f : Int))) none).run Try.prog W = .ok (.slice (laE ua cap e) (f - e) (cap - e)) W := by
  rw [run_sliceAt_slice (h := elemS), run_slice_lh (ht := elemS) (h0 := by omega) (h1 := by omega) (h2 := by omega), sizeS]
  simp only [Result.andThen, sliced, Int.toNat_natCast, Nat.mul_one]
  rfl
theorem rdf_part {w : World} {a : Option Addr} {n cap e f : Nat} {T : ByteArray} (h : RdF w a 1 n (sf T 0)) (he : e ≤ f) (hf : f ≤ n) (hn : n ≤ cap) : RdF w (laE a cap e) 1 (f - e) (fun k => [.string (ln T (e + k))]) := by
  have h1 := RdF.cut (RdF.from1 h (Nat.le_trans he hf) hn) (f - e) (by omega)
  have e1 : (fun k => sf T 0 (e + k)) = fun k => [.string (ln T (e + k))] := by funext k; unfold sf; rw [Nat.zero_add]
  rwa [e1] at h1
/-- The lines of a split: how many, where each lies, its text. -/
theorem in_split (T : ByteArray) (xs : List Int) (k : Nat) (hk : k ≤ xs.length) :
    cnt (T.extract (lo T xs k) (hi T xs k)) = ix T (pe T.size xs k) - ix T (pb T.size xs k) ∧ ix T (pb T.size xs k) ≤ ix T (pe T.size xs k) ∧ ix T (pe T.size xs k) ≤ cnt T ∧
    ∀ j, j < ix T (pe T.size xs k) - ix T (pb T.size xs k) → so T xs k + pl (T.extract (lo T xs k) (hi T xs k)) j = pl T (ix T (pb T.size xs k) + j) ∧ ln (T.extract (lo T xs k) (hi T xs k)) j = ln T (ix T (pb T.size xs k) + j) := by
  have h1 := pb_le T.size xs k hk
  have h2 := (pe_int T.size xs k hk).2
  have e1 : lo T xs k = pl T (ix T (pb T.size xs k)) := lf_ix T _ (by omega)
  have e2 : hi T xs k = pl T (ix T (pe T.size xs k)) := lf_ix T _ h2
  have h3 := ix_mono T _ _ h1
  have h4 := ix_le T (pe T.size xs k)
  refine ⟨by rw [e1, e2, cnt_extract T _ _ h3 h4], h3, h4, fun j hj => ⟨?_, by rw [e1, e2, ln_extract T _ _ j h4 (by omega)]⟩⟩
  have h5 := pl_lt_pl T (ix T (pb T.size xs k)) (ix T (pe T.size xs k)) (by omega) h4
  have h6 := pl_le_pl T (ix T (pb T.size xs k)) (ix T (pb T.size xs k) + j) (by omega) (by omega)
  unfold so
  rw [e1, e2, if_neg (by omega), pl_extract T _ _ h3 h4 j (by omega)]
  omega
/-- What is asked of a line. -/
theorem line_place (T : ByteArray) (n : Nat) (h : n < cnt T) : pl T n + (ln T n).size ≤ T.size ∧ T.extract (pl T n) (pl T n + (ln T n).size) = ln T n ∧ (0 < pl T n → bt T (pl T n - 1) = 10) ∧ pl T n < T.size := by
  obtain ⟨g1, g2, g3, _⟩ := en_spec T n h
  have hz := ln_size T n h
  refine ⟨by omega, ?_, fun hp => ?_, pl_lt T n h⟩
  · rw [hz]
    unfold ln
    congr 1
    omega
  · cases n with
    | zero => rw [pl_zero] at hp; omega
    | succ n =>
      have := pl_lt T n (by omega)
      obtain ⟨q1, q2, q3, q4⟩ := nx_spec T (pl T n) this
      rw [← pl_succ] at q4
      have := pl_lt T (n + 1) h
      exact q4.resolve_right (by omega)
set_option maxRecDepth 100000 in
/-- A frame of 258 slots, written out. -/
theorem spread (t : Array Value) (h : t.size = 258) : ∃ U : Nat → Value, (∀ i, U i = t.getD i undef) ∧ t = #[U 0, U 1, U 2, U 3, U 4, U 5, U 6, U 7, U 8, U 9, U 10, U 11, U 12, U 13, U 14, U 15, U 16, U 17, U 18, U 19, U 20, U 21, U 22, U 23, U 24, U 25, U 26, U 27, U 28, U 29, U 30, U 31, U 32, U 33, U 34, U 35, U 36, U 37, U 38, U 39, U 40, U 41, U 42, U 43, U 44, U 45, U 46, U 47, U 48, U 49, U 50, U 51, U 52, U 53, U 54, U 55, U 56, U 57, U 58, U 59, U 60, U 61, U 62, U 63, U 64, U 65, U 66, U 67, U 68, U 69, U 70, U 71, U 72, U 73, U 74, U 75, U 76, U 77, U 78, U 79, U 80, U 81, U 82, U 83, U 84, U 85, U 86, U 87, U 88, U 89, U 90, U 91, U 92, U 93, U 94, U 95, U 96, U 97, U 98, U 99, U 100, U 101, U 102, U 103, U 104, U 105, U 106, U 107, U 108, U 109, U 110, U 111, U 112, U 113, U 114, U 115, U 116, U 117, U 118, U 119, U 120, U 121, U 122, U 123, U 124, U 125, U 126, U 127, U 128, U 129, U 130, U 131, U 132, U 133, U 134, U 135, U 136, U 137, U 138, U 139, U 140, U 141, U 142, U 143, U 144, U 145, U 146, U 147, U 148, U 149, U 150, U 151, U 152, U 153, U 154, U 155, U 156, U 157, U 158, U 159, U 160, U 161, U 162, U 163, U 164, U 165, U 166, U 167, U 168, U 169, U 170, U 171, U 172, U 173, U 174, U 175, U 176, U 177, U 178, U 179, U 180, U 181, U 182, U 183, U 184, U 185, U 186, U 187, U 188, U 189, U 190, U 191, U 192, U 193, U 194, U 195, U 196, U 197, U 198, U 199, U 200, U 201, U 202, U 203, U 204, U 205, U 206, U 207, U 208, U 209, U 210, U 211, U 212, U 213, U 214, U 215, U 216, U 217, U 218, U 219, U 220, U 221, U 222, U 223, U 224, U 225, U 226, U 227, U 228, U 229, U 230, U 231, U 232, U 233, U 234, U 235, U 236, U 237, U 238, U 239, U 240, U 241, U 242, U 243, U 244, U 245, U 246, U 247, U 248, U 249, U 250, U 251, U 252, U 253, U 254, U 255, U 256, U 257] := by
  refine ⟨fun i => t.getD i undef, fun _ => rfl, ?_⟩
  have e : t = ((List.range 258).map fun i => t.getD i undef).toArray := by
    apply Array.ext
    · simp [h]
    · intro i h1 h2
      simp [h1]
  exact e
/-- The slots that live through the second loop. -/
def Frm (gx gr ga gn gs cs len fr k : Nat) (t : Array Value) : Prop :=
  t.size = 258 ∧ t.getD 2 undef = .pointer (some ⟨gx, 0, none⟩) ∧ t.getD 4 undef = .pointer (some ⟨gr, 0, none⟩) ∧ t.getD 5 undef = .pointer (some ⟨ga, 0, none⟩) ∧ t.getD 9 undef = .pointer (some ⟨gn, 0, none⟩) ∧
  t.getD 13 undef = .slice (some ⟨gs, 0, none⟩) (len + 1) cs ∧ t.getD 15 undef = .int .i64 (fr : Int) ∧ t.getD 16 undef = .int .i64 (k : Int)
/-- The end: true is laid into the result's box. -/
theorem leave_true {fn : Func} {tmps : Array Value} {w w4 W : World} {gr : Nat} {ds : List Deferred} (hfn : fn.results = #[.cell 4 4]) (ht : tmps.getD 4 undef = .pointer (some ⟨gr, 0, none⟩)) {v : Value} (hb : Boxed W gr 4 v) (hgr : w.heap.size ≤ gr) (hg4 : gr < w4.heap.size) (hW : w4.heap.size ≤ W.heap.size) (hB : Below w.heap.size w W) (hm : Marks w4.heap.size W ds) :
    LeavesInM Fence.wide 1 Try.prog fn tmps (fun e w' => e = .returned (.bool true) ∧ Below w.heap.size w w') ds .returning (W.setCell ⟨gr, 0, none⟩ (.bool true)) := by
  have hgs := grownBy_setCell' W gr (.bool true)
  refine leaves_marks (B := w4.heap.size) (v := .bool true) (gc := gr) hg4 (load_bool (p := 4) hfn gr true ht) _ _ ?_ ?_ (hb.set (.bool true)).cell ?_
  · exact Nat.le_trans hW hgs.size
  · exact hm.kept (fun E hE h => (hgs.block E (Array.getElem?_eq_some_iff.1 h).1 (fun e => by have e2 : E = gr := Option.some.inj e; omega)).trans h)
  · intro V hV
    refine ⟨rfl, ?_⟩
    have h2 : Below w.heap.size w (W.setCell ⟨gr, 0, none⟩ (.bool true)) := hB.grown hgs hB.size (fun i e => by cases e; exact hgr)
    exact h2.trans (hV.mono (by omega))
end Go.Proofs.Ytmhebaknoginhaa.Ln
