/-
  The document's Join.
-/
import Derived.Test.YtmndjgmlndpgaaaDoorFiRefC
import Derived.Deep.RegionHeldLaw
import Derived.Deep.DeepCutAuto
import Derived.BigRegion
namespace Go.Proofs.YtmndjgmlndpgaaaDoor.Filt
open Go.ChangeShapes Go.WideShapes Go.ChangeAt Go.RowKit
open Go.Proofs.YtmndjgmlndpgaaaDoor.Base
set_option linter.unusedVariables false
/-- append of a whole slice onto a slice of the call's own, as one step of a region that draws its order. -/
theorem step_join {ops : Array Oper} {o : Oper} {a : Act} {w : World} {K : Act → World → Prop} {Q : Exit → Act → World → Prop} {E : Prop} (hgd : o.guard = none) (s x : Operand)
    (ho : o.op = .call { callee := .builtin .append, args := #[s, x], argTypes := #[22, 22] })
    (base : Nat) (v : Value) (bs : List (BitVec 8)) (hs : a.eval s = v) (hown : Own w base v bs) (xa : Option Addr) (m cap : Nat) (cs : List (BitVec 8)) (hx : a.eval x = .slice xa m cap)
    (hr : Rd w xa m cs) (hnil : xa = none → m = 0 ∧ cap = 0) (hl : bs.length + m ≤ 140737488355328) (hbase : base ≤ w.heap.size)
    (h : ∀ v' w', Own w' base v' (bs ++ cs) → w.grownBy w' v.ownBlock → K (a.put o.dst v') w') :
    if Region.wanted o (yielded ops a.tmps) = true then Oper.wp Tryd.prog o a w K Q else E := by
  obtain ⟨i0, hi, hz0, hz1, hz2⟩ := info_parts info8
  have hcl := hr.1
  cases xa with
  | none =>
    obtain ⟨rfl, rfl⟩ := hnil rfl
    have : cs = [] := List.length_eq_zero_iff.1 hcl
    subst this
    have hw : Region.wanted o (yielded ops a.tmps) = true := by simp [Region.wanted, hgd]
    rw [if_pos hw]
    have hrun := run_append_owned_none (P := Tryd.prog) (w := w) base 22 o.type 5 i0 1 Tryd.underlying22 hi v bs.length (vals bs) hown
    have hh := h v w (by rw [List.append_nil]; exact hown) (World.grownBy.refl _ _)
    unfold Oper.wp
    simp [execOp, ho, resolve, invoke, builtin, hs, hx, hrun, Result.andThen]
    exact hh
  | some ad =>
    refine step_append_own hgd s x 22 ho base 5 i0 (.int .u8 0) 1 1 Tryd.underlying22 hi hz0 hz1 hz2 rfl (by omega) v bs.length (vals bs) hs hown ad m cap (vals cs) hx (by rw [length_vals]; omega) (fun j u hu => hr.cellsAt ad rfl j u hu) (vals_one _) (by unfold maxLen; omega) (by omega) hbase ?_
    intro v' w' h1 h2 _
    exact h v' w' (own_append h1 (by omega)) h2
theorem after_copy {wq w6 : World} (hg6 : (wq.alloc (.cells #[] 5)).drew.grownBy w6 (Value.slice (some ⟨wq.heap.size, 0, none⟩) 0 0).ownBlock) : Below wq.heap.size wq w6 :=
  (((Below.refl wq.heap.size wq).alloc (Nat.le_refl _) (.cells #[] 5)).drew).grown hg6 (by simp) (fun i e => by cases e; exact Nat.le_refl _)
theorem empty_at {W : World} {base B : Nat} (h : W.heap[B]? = some (.cells #[] 5)) (hb : base ≤ B) : Own W base (.slice (some ⟨B, 0, none⟩) 0 0) [] :=
  own_heap (bs := []) h hb (by unfold maxLen; simp)
theorem after_at {wq W w6 : World} {B : Nat} (hW : Below wq.heap.size wq W) (hB : wq.heap.size ≤ B) (hg6 : W.grownBy w6 (Value.slice (some ⟨B, 0, none⟩) 0 0).ownBlock) : Below wq.heap.size wq w6 :=
  hW.grown hg6 hW.size (fun i e => by cases e; exact hB)
theorem own_ne_fb {w : World} {base i n c g : Nat} {xs : List (BitVec 8)} {A : Bool} {H : Int} {v : Value} (h : Own w base (.slice (some ⟨i, 0, none⟩) n c) xs) (hf : FB w g A H v) : i ≠ g := by
  rintro rfl
  rcases h.2 with ⟨h1, _⟩ | ⟨g', c', cur, h1, _, h3, _⟩
  · cases h1
  · simp only [Value.slice.injEq, Option.some.injEq, Addr.mk.injEq] at h1
    obtain ⟨⟨rfl, _⟩, _⟩ := h1
    rw [hf] at h3
    simp only [Option.some.injEq, Obj.cells.injEq] at h3
    exact absurd h3.2.1 (by decide)
theorem c_before {wq W w6 : World} {B gc i vc len ga : Nat} {H Ha : Int} {Aa : Bool} {va : Value} {xs : List (BitVec 8)} (hW : Below wq.heap.size wq W) (hB : wq.heap.size ≤ B) (hC : FB W gc false 0 (.slice none 0 0)) (hne : gc ≠ B) (hgc : wq.heap.size ≤ gc) (hA : FB wq ga Aa Ha va)
    (ho : Own w6 wq.heap.size (.slice (some ⟨i, 0, none⟩) len vc) xs) (hg6 : W.grownBy w6 (Value.slice (some ⟨B, 0, none⟩) 0 0).ownBlock) :
    Hid (FB w6 gc false 0 (.slice none 0 0)) ∧ Hid (FB w6 ga Aa Ha va) ∧ Hid (FB (((w6.setCell ⟨gc, 0, none⟩ (.bool false)).setCell ⟨gc, 1, none⟩ (.int .i64 H)).setCell ⟨gc, 2, none⟩ (.slice (some ⟨i, 0, none⟩) len vc)) ga Aa Ha va) ∧
    Hid (FB (((w6.setCell ⟨gc, 0, none⟩ (.bool false)).setCell ⟨gc, 1, none⟩ (.int .i64 H)).setCell ⟨gc, 2, none⟩ (.slice (some ⟨i, 0, none⟩) len vc)) gc false H (.slice (some ⟨i, 0, none⟩) len vc)) ∧
    Hid (Own (((w6.setCell ⟨gc, 0, none⟩ (.bool false)).setCell ⟨gc, 1, none⟩ (.int .i64 H)).setCell ⟨gc, 2, none⟩ (.slice (some ⟨i, 0, none⟩) len vc)) wq.heap.size (.slice (some ⟨i, 0, none⟩) len vc) xs) ∧
    Hid (Below wq.heap.size wq (((w6.setCell ⟨gc, 0, none⟩ (.bool false)).setCell ⟨gc, 1, none⟩ (.int .i64 H)).setCell ⟨gc, 2, none⟩ (.slice (some ⟨i, 0, none⟩) len vc))) ∧ Hid (i ≠ gc ∧ wq.heap.size ≤ gc) := by
  have hb := after_at hW hB hg6
  have hF6 : FB w6 gc false 0 (.slice none 0 0) := hC.grown hg6 (fun e => hne (blk_eq e))
  have hN := own_ne_fb ho hF6
  have hg := grown3 w6 gc (.bool false) (.int .i64 H) (.slice (some ⟨i, 0, none⟩) len vc)
  have hA6 := hA.below hb
  have hlt := hA.lt
  exact ⟨hF6, hA6, hA6.grown hg (fun e => by have := Option.some.inj e; omega), hF6.set3 _ _ _, ho.other hg hN, below3 hb hgc _ _ _, hN, hgc⟩
theorem c_after {wq w6 : World} {i vc len ga : Nat} {H Ha : Int} {Aa : Bool} {va : Value} {xs : List (BitVec 8)} (hW : Below wq.heap.size wq (wq.alloc (.cells #[] 5)).drew) (hA : FB wq ga Aa Ha va)
    (ho : Own w6 wq.heap.size (.slice (some ⟨i, 0, none⟩) len vc) xs) (hg6 : (wq.alloc (.cells #[] 5)).drew.grownBy w6 (Value.slice (some ⟨wq.heap.size, 0, none⟩) 0 0).ownBlock) :
    Hid (FB w6 ga Aa Ha va) ∧ Hid (FB (w6.alloc (.cells #[.bool false, .int .i64 H, .slice (some ⟨i, 0, none⟩) len vc] 24)) ga Aa Ha va) ∧
    Hid (FB (w6.alloc (.cells #[.bool false, .int .i64 H, .slice (some ⟨i, 0, none⟩) len vc] 24)) w6.heap.size false H (.slice (some ⟨i, 0, none⟩) len vc)) ∧
    Hid (Own (w6.alloc (.cells #[.bool false, .int .i64 H, .slice (some ⟨i, 0, none⟩) len vc] 24)) wq.heap.size (.slice (some ⟨i, 0, none⟩) len vc) xs) ∧
    Hid (Below wq.heap.size wq (w6.alloc (.cells #[.bool false, .int .i64 H, .slice (some ⟨i, 0, none⟩) len vc] 24))) ∧ Hid (i ≠ w6.heap.size ∧ wq.heap.size ≤ w6.heap.size) := by
  have hb := after_at hW (Nat.le_refl _) hg6
  have hA6 := hA.below hb
  have h1 := (Below.refl w6.heap.size w6).alloc (Nat.le_refl _) (.cells #[.bool false, .int .i64 H, .slice (some ⟨i, 0, none⟩) len vc] 24)
  have hlt := ho.lt'
  exact ⟨hA6, hA6.below h1, FB.new _ _ _ _, ho.below h1, hb.trans (h1.mono hb.size), by omega, hb.size⟩
theorem grown_drew {w w' : World} {r : Option Nat} (h : w.grownBy w' r) : w.grownBy w'.drew r := ⟨h.os, h.tape, h.output, h.size, h.block⟩
theorem check_three {A : Bool} {H : Int} {n : Nat} : checkN A H n = 70 ∧ kindN A H n = 3 ∨ checkN A H n = 0 ∧ kindN A H n ≠ 3 := by
  unfold checkN
  by_cases h : kindN A H n = 3
  · rw [if_pos h]; exact .inl ⟨rfl, h⟩
  · rw [if_neg h]; exact .inr ⟨rfl, h⟩
theorem joined_bad {a b : Fw} (h : a.kind = 3 ∨ b.kind = 3) : joined a b = (zeroF, 70) := by unfold joined; rw [if_pos h]
theorem kind_all {H : Int} {n : Nat} (h : kindN true H n ≠ 3) : kindN true H n = 1 := by
  rcases kind_range true H n with ⟨_, h1, _⟩ | ⟨e, _⟩ | ⟨_, h1, _⟩ | e
  · cases h1
  · exact e
  · cases h1
  · exact absurd e h
theorem kind_no {H : Int} {n : Nat} (h : kindN false H n ≠ 3) : (kindN false H n = 0 ∧ H = 0 ∧ n = 0) ∨ (kindN false H n = 2 ∧ 1 ≤ n ∧ n ≤ 4096) := by
  rcases kind_range false H n with ⟨e, _, h1, h2⟩ | ⟨_, h1, _⟩ | ⟨e, _, _, _, h1, h2⟩ | e
  · exact .inl ⟨e, h1, h2⟩
  · cases h1
  · exact .inr ⟨e, h1, h2⟩
  · exact absurd e h
theorem joined_all {A B : Bool} {H G : Int} {xs ys : List (BitVec 8)} (h1 : kindN A H xs.length ≠ 3) (h2 : kindN B G ys.length ≠ 3) (h : A = true ∨ B = true) : joined ⟨A, H, xs⟩ ⟨B, G, ys⟩ = (⟨true, 0, []⟩, 0) := by
  unfold joined Fw.kind
  simp only []
  rw [if_neg (fun e => by rcases e with e | e; exact h1 e; exact h2 e), if_pos]
  rcases h with rfl | rfl
  · exact .inl (kind_all h1)
  · exact .inr (kind_all h2)
theorem joined_no {H G : Int} {xs ys : List (BitVec 8)} (h1 : kindN false H xs.length ≠ 3) (h2 : kindN false G ys.length ≠ 3) : joined ⟨false, H, xs⟩ ⟨false, G, ys⟩ = if xs.length = 0 then (⟨false, G, ys⟩, 0) else if ys.length = 0 then (⟨false, H, xs⟩, 0) else if H ≠ G ∨ xs.length ≠ ys.length then (zeroF, 3) else (⟨false, H, orZip xs ys⟩, 0) := by
  unfold joined Fw.kind
  simp only []
  rw [if_neg (fun e => by rcases e with e | e; exact h1 e; exact h2 e)]
  rcases kind_no h1 with ⟨e, _, hx⟩ | ⟨e, hx, _⟩ <;> rcases kind_no h2 with ⟨f, _, hy⟩ | ⟨f, hy, _⟩
  · rw [e, f, if_neg (by omega), if_pos rfl, if_pos hx]
  · rw [e, f, if_neg (by omega), if_pos rfl, if_pos hx]
  · rw [e, f, if_neg (by omega), if_neg (by omega), if_pos rfl, if_neg (by omega), if_pos hy]
  · rw [e, f, if_neg (by omega), if_neg (by omega), if_neg (by omega), if_neg (c := xs.length = 0) (by omega), if_neg (c := ys.length = 0) (by omega)]
end Go.Proofs.YtmndjgmlndpgaaaDoor.Filt
