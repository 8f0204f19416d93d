/-
  append of zeros ('append(b, make([]byte, n)...)') onto bytes of the call's own; copies of bytes.
-/
import Derived.Test.YthdblnfohbldcaaGreatBlModJ
import Derived.Lib.AppendZeros
import Derived.Lib.SliceRun
namespace Go.Proofs.YthdblnfohbldcaaGreat.Fa
open Go.ChangeShapes Go.WideShapes Go.ChangeAt Go.RowKit
open Go.Proofs.YthdblnfohbldcaaGreat.Base
set_option linter.unusedVariables false
theorem zeros_vals (m : Nat) : (Builtin.zeroCells #[Value.int .u8 0] m).toList = vals (List.replicate m 0#8) := by
  apply List.ext_getElem?
  intro i
  by_cases h : i < m
  · simp [Builtin.zeroCells, vals, V8, h, Nat.mod_one]
  · simp [Builtin.zeroCells, vals, V8, h]
theorem zeros_toList (m : Nat) : Builtin.zeroCells #[Value.int .u8 0] m = (vals (List.replicate m 0#8)).toArray := by
  rw [← zeros_vals]
theorem append_zeros (ty : TypeId) (base g L cap m : Nat) (bs : List (BitVec 8)) (w : World) (ho : Own w base (.slice (some ⟨g, 0, none⟩) L cap) bs) (hm : 0 < m) (hl : L + m ≤ 140737488355328) (hbase : base ≤ w.heap.size) :
    ∃ g' cap' w', (Builtin.append_ #[24, 2] ty #[.slice (some ⟨g, 0, none⟩) L cap, .int .i64 (m : Int)]).run Tryz.prog w = .ok (.slice (some ⟨g', 0, none⟩) (L + m) cap') w' ∧ Own w' base (.slice (some ⟨g', 0, none⟩) (L + m) cap') (bs ++ List.replicate m 0#8) ∧ w.grownBy w' (some g) := by
  obtain ⟨i0, hi, hz0, hz1, hz2⟩ := info_parts info8
  have hL := ho.len
  subst hL
  rcases ho.2 with ⟨e1, _⟩ | ⟨g', cap', cur, e1, e2, e3, e4, e5, e6, e7⟩
  · cases e1
  simp only [Value.slice.injEq, Option.some.injEq, Addr.mk.injEq, and_true, true_and] at e1
  obtain ⟨rfl, rfl⟩ := e1
  have hw : IntKind.i64.wrap (m : Int) = m := by rw [IntKind.wrap_i64]; omega
  have hneg : ¬ ((m : Int) < 0) := by omega
  have h48 : ¬ (281474976710656 < (m : Int)) := by omega
  have hm0 : m ≠ 0 := by omega
  have hu := run_underlying (P := Tryz.prog) Tryz.underlying24
  have hu2 := run_underlying (P := Tryz.prog) Tryz.underlying2
  by_cases hroom : bs.length + m ≤ cap
  · have hst := run_storeCells_at Tryz.prog g bs.length 5 (vals (List.replicate m 0#8)) 0 cur w e3 (by rw [length_vals, List.length_replicate, e6]; omega) (vals_one _)
    simp only [Nat.add_zero] at hst
    refine ⟨g, cap, w.setRow g (cur.toList.take bs.length ++ vals (List.replicate m 0#8) ++ cur.toList.drop (bs.length + (vals (List.replicate m 0#8)).length)).toArray, ?_, ?_, ?_⟩
    · simp [Builtin.append_, hu, hu2, sizeOf, typeInfo, zeroValue, hi, hz0, hz1, hz2, asInt, asIntOf, hw, hneg, h48, hm0, hroom, Addr.add_lit, Value.cells, zeros_toList, hst]
    · refine ⟨by rw [length_vals]; omega, .inr ⟨g, cap, _, by rw [List.length_append, List.length_replicate], e2, setRow_heap w g cur _ _ _ e3, by rw [List.length_append, List.length_replicate]; omega, e5, ?_, ?_⟩⟩
      · simp only [List.size_toArray, List.length_append, List.length_take, List.length_drop, Array.length_toList, length_vals, List.length_replicate]
        omega
      · rw [Nat.mul_one] at e7 ⊢
        have hv : vals (bs ++ List.replicate m 0#8) = vals bs ++ vals (List.replicate m 0#8) := by simp [vals]
        have hlen : (bs ++ List.replicate m 0#8).length = (vals bs ++ vals (List.replicate m 0#8)).length := by rw [← hv, length_vals]
        rw [e7, hlen, hv]
        exact List.take_left
    · exact ⟨rfl, rfl, rfl, by simp, fun k _ hk => setRow_other w g k _ (fun e => hk (by rw [e]))⟩
  · have hfit := growslice_fits (need := bs.length + m) (old := cap) (bytes := 1) (by omega) (by omega)
    rw [Nat.mul_one] at hfit
    have h63' : ¬ (9223372036854775807 < ((bs.length : Int) + (m : Int))) := by omega
    have h48' : ¬ (281474976710656 < Builtin.nextslicecap (bs.length + m) cap) := by omega
    have hfo := run_firstCells_some (P := Tryz.prog) w.drew 1 bs.length ⟨g, 0, none⟩ bs.length cap (vals bs) (by rw [length_vals]; omega) (fun j v hv => by
      have := (Own.rd ho (by omega)).cells j v hv
      simpa using this)
    have hge := grownCap_ge w (bs.length + m) cap 5
    have hcm : grownCap w (bs.length + m) cap 5 ≤ maxLen := grownCap_le_maxLen w _ _ _ (by unfold maxLen; omega)
    refine ⟨w.heap.size, grownCap w (bs.length + m) cap 5, w.drew.alloc (.cells ((vals bs).toArray ++ (vals (List.replicate m 0#8)).toArray ++ (vals (List.replicate (grownCap w (bs.length + m) cap 5 - (bs.length + m)) 0#8)).toArray) 5), ?_, ?_, ?_⟩
    · simp [Builtin.append_, hu, hu2, sizeOf, typeInfo, zeroValue, hi, hz0, hz1, hz2, asInt, asIntOf, hw, hneg, h48, hm0, hroom, h63', h48', Question.forced, Value.cells, zeros_toList, hfo, newRow, grownCap]
    · refine ⟨by rw [length_vals]; omega, .inr ⟨w.heap.size, _, _, by rw [List.length_append, List.length_replicate], hbase, heap_alloc_new w.drew _, by rw [List.length_append, List.length_replicate]; exact hge, hcm, ?_, ?_⟩⟩
      · simp only [Array.size_append, List.size_toArray, length_vals, List.length_replicate]
        omega
      · have hv : vals (bs ++ List.replicate m 0#8) = vals bs ++ vals (List.replicate m 0#8) := by simp [vals]
        have hlen : (bs ++ List.replicate m 0#8).length = (vals bs ++ vals (List.replicate m 0#8)).length := by rw [← hv, length_vals]
        rw [Nat.mul_one, hlen, hv]
        simp only [Array.toList_append]
        exact List.take_left
    · exact ⟨rfl, rfl, rfl, by simp, fun k hk _ => heap_alloc_old w.drew _ hk⟩
theorem append_zeros_any (ty : TypeId) (base m : Nat) (v : Value) (bs : List (BitVec 8)) (w : World) (ho : Own w base v bs) (hm : 0 < m) (hl : bs.length + m ≤ 140737488355328) (hbase : base ≤ w.heap.size) :
    ∃ v' w', (Builtin.append_ #[24, 2] ty #[v, .int .i64 (m : Int)]).run Tryz.prog w = .ok v' w' ∧ Own w' base v' (bs ++ List.replicate m 0#8) ∧ w.grownBy w' v.ownBlock := by
  obtain ⟨i0, hi, hz0, hz1, hz2⟩ := info_parts info8
  rcases ho.2 with ⟨e1, e2⟩ | ⟨g, cap, cur, e1, _⟩
  · subst e1
    have hb : bs = [] := List.length_eq_zero_iff.1 e2
    subst hb
    have h := Lib.run_append_nil_zeros (P := Tryz.prog) w 24 2 ty 5 i0 (.int .u8 0) .i64 .i64 Tryz.underlying24 Tryz.underlying2 hi hz0 m hm (by omega) (by omega) (by rw [hz2]; omega)
    have hge := grownCap_ge w m 0 5
    have hcm : grownCap w m 0 5 ≤ maxLen := grownCap_le_maxLen w _ _ _ (by unfold maxLen; omega)
    refine ⟨_, _, h, ?_, ⟨rfl, rfl, rfl, by simp, fun k hk _ => heap_alloc_old w.drew _ hk⟩⟩
    rw [List.nil_append]
    refine ⟨by rw [length_vals]; omega, .inr ⟨w.heap.size, _, _, by rw [List.length_replicate], hbase, heap_alloc_new w.drew _, by rw [List.length_replicate]; exact hge, hcm, ?_, ?_⟩⟩
    · rw [show (Value.int .u8 0).cells = #[Value.int .u8 0] from rfl, zeros_toList, zeros_toList]
      simp only [Array.size_append, List.size_toArray, length_vals, List.length_replicate]
      omega
    · rw [show (Value.int .u8 0).cells = #[Value.int .u8 0] from rfl, zeros_toList, zeros_toList]
      have hlen : (List.replicate m 0#8).length * 1 = (vals (List.replicate m 0#8)).length := by rw [length_vals]; omega
      rw [hlen]
      simp only [Array.toList_append]
      exact List.take_left
  · subst e1
    obtain ⟨g', cap', w', h1, h2, h3⟩ := append_zeros ty base g bs.length cap m bs w ho hm hl hbase
    exact ⟨_, w', h1, h2, h3⟩
set_option maxHeartbeats 1000000 in
theorem cloneB_any (a : Option Addr) (len cap : Nat) (bs : List (BitVec 8)) (w : World) (hr : Rd w a len bs) (hnil : a = none → len = 0 ∧ cap = 0) :
    Calls Tryz.prog 160 #[.slice a len cap] w fun e w' => ∃ v, e = .returned v ∧ Own w' w.heap.size v bs ∧ Below w.heap.size w w' := by
  have hl := hr.2.1
  have HR := hide hr
  have heq : ∀ W, (binOp .eql 24 (.slice a len cap) (.slice none 0 0)).run Tryz.prog W = .ok (.bool a.isNone) W := fun W => Lib.run_eql_slice_nil W _ _ a len cap 0 0 Tryz.underlying24
  cases a with
  | none =>
    obtain ⟨rfl, rfl⟩ := hnil rfl
    have hb : bs = [] := List.length_eq_zero_iff.1 hr.1
    subst hb
    clear hr
    go_enter Tryz.func160, Tryz.ntmps160
    go_wp2_with fail
    go_ret
    exact ⟨_, rfl, own_none _ _, Below.refl _ _⟩
  | some ad =>
    have HR1 := hide (hr.below ((Below.refl w.heap.size w).alloc (Nat.le_refl _) (.cells #[] 5)))
    have HO1 : Hid (Own (w.alloc (.cells #[] 5)) w.heap.size (.slice (some ⟨w.heap.size, 0, none⟩) 0 0) []) := own_empty w _ (Nat.le_refl _)
    clear hr
    go_enter Tryz.func160, Tryz.ntmps160
    go_wp2_with (at_builtin; refine join _ rfl _ _ rfl w.heap.size (.slice (some ⟨w.heap.size, 0, none⟩) 0 0) [] rfl HO1.out (some ad) len cap bs rfl HR1.out hnil (by simp; omega) (by simp) ?_
                 intro v3 w3 ho3 hg3
                 rw [List.nil_append] at ho3
                 have HO3 := hide ho3
                 have HB3 : Hid (Below w.heap.size w w3) := ((Below.refl w.heap.size w).alloc (Nat.le_refl _) _).grown hg3 (by simp) (fun i e => by cases e; exact Nat.le_refl _)
                 clear ho3 hg3)
    go_ret
    exact ⟨_, rfl, HO3.out, HB3.out⟩
end Go.Proofs.YthdblnfohbldcaaGreat.Fa
