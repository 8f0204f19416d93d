/-
  Slices of int64s: cut, and joined.
-/
import Derived.Test.YtficnlglofgekaaDoorJcRiseS
import Derived.Laws.Slices
namespace Go.Proofs.YtficnlglofgekaaDoor.Jb
open Go.ChangeShapes Go.WideShapes Go.ChangeAt Go.RowKit
open Go.Lib hiding intOf
open Go.Proofs.YtficnlglofgekaaDoor.Base
set_option linter.unusedVariables false
theorem elemJ : Tryd.prog.underlying 47 = some (.slice (Tryd.prog.elem 47)) := by kernel_rfl
theorem sizeJ (W : World) : (sizeOf (Tryd.prog.elem 47)).run Tryd.prog W = .ok 1 W := by
  have h : (Tryd.prog.info? (Tryd.prog.elem 47)).map (·.size) = some 1 := by kernel_rfl
  cases hq : Tryd.prog.info? (Tryd.prog.elem 47) with
  | none => simp [hq] at h
  | some i => simp [hq] at h; simp [sizeOf, typeInfo, hq, h]
theorem slice_to (ua : Option Addr) (len cap n : Nat) (h : n ≤ cap) (W : World) : (Instr.sliceAt 47 (.slice ua len cap) none (some (.int .i64 (n : Int))) none).run Tryd.prog W = .ok (.slice ua n cap) W := by
  rw [run_sliceAt_slice (h := elemJ), run_slice_h (ht := elemJ) (h0 := by omega) (h2 := by omega), sizeJ]
  simp only [Result.andThen, sliced, Int.toNat_natCast, Nat.zero_mul]
  by_cases hc : cap = 0
  · rw [if_pos hc]; rfl
  · rw [if_neg hc]
    cases ua <;> simp [Addr.add]
def laE (ua : Option Addr) (cap e : Nat) : Option Addr := if cap = e then ua else ua.map (·.add e)
theorem slice_from (ua : Option Addr) (len cap e : Nat) (h : e ≤ len) (hc : len ≤ cap) (W : World) : (Instr.sliceAt 47 (.slice ua len cap) (some (.int .i64 (e : Int))) none none).run Tryd.prog W = .ok (.slice (laE ua cap e) (len - e) (cap - e)) W := by
  rw [run_sliceAt_slice (h := elemJ), run_slice_l (ht := elemJ) (h0 := by omega) (h1 := by omega), sizeJ]
  simp only [Result.andThen, sliced, Int.toNat_natCast, Nat.mul_one]
  rfl
/-- The slice reads as int64s. -/
def RdJ (w : World) (a : Option Addr) (m : Nat) (cs : List Int) : Prop := cs.length = m ∧ (0 < m → ∃ g off, a = some ⟨g, off, none⟩ ∧ g < w.heap.size ∧ ∀ i, i < m → w.cell? ⟨g, off + i, none⟩ = some (.int .i64 (cs.getD i 0)))
theorem OwnJ.rdj {w : World} {base n c : Nat} {a : Option Addr} {xs : List Int} (h : OwnJ w base (.slice a n c) xs) : RdJ w a n xs := by
  obtain ⟨h1, h2⟩ := h.cells
  refine ⟨h1.symm, fun h0 => ?_⟩
  obtain ⟨g, e, hl, hc⟩ := h2 h0
  exact ⟨g, 0, e, hl, fun i hi => by rw [Nat.zero_add]; exact hc i hi⟩
theorem RdJ.to {w : World} {a : Option Addr} {m : Nat} {cs : List Int} (h : RdJ w a m cs) (k : Nat) (hk : k ≤ m) : RdJ w a k (cs.take k) := by
  refine ⟨by rw [List.length_take, h.1]; omega, fun h0 => ?_⟩
  obtain ⟨g, off, e, hl, hc⟩ := h.2 (by omega)
  refine ⟨g, off, e, hl, fun i hi => ?_⟩
  rw [hc i (by omega), List.getD_eq_getElem?_getD, List.getD_eq_getElem?_getD, List.getElem?_take, if_pos hi]
theorem RdJ.from {w : World} {a : Option Addr} {m cap : Nat} {cs : List Int} (h : RdJ w a m cs) (k : Nat) (hk : k ≤ m) (hm : m ≤ cap) : RdJ w (laE a cap k) (m - k) (cs.drop k) := by
  refine ⟨by rw [List.length_drop, h.1], fun h0 => ?_⟩
  obtain ⟨g, off, rfl, hl, hc⟩ := h.2 (by omega)
  refine ⟨g, off + k, ?_, hl, fun i hi => ?_⟩
  · unfold laE; rw [if_neg (by omega)]; simp [Addr.add]
  · rw [Nat.add_assoc, hc (k + i) (by omega), List.getD_eq_getElem?_getD, List.getD_eq_getElem?_getD, List.getElem?_drop]
theorem RdJ.below {w w' : World} {a : Option Addr} {m : Nat} {cs : List Int} (h : RdJ w a m cs) (hb : Below w.heap.size w w') : RdJ w' a m cs := by
  refine ⟨h.1, fun h0 => ?_⟩
  obtain ⟨g, off, e, hl, hc⟩ := h.2 h0
  exact ⟨g, off, e, Nat.lt_of_lt_of_le hl hb.size, fun i hi => (hb.cell (p := ⟨g, off + i, none⟩) hl).trans (hc i hi)⟩
theorem jvals_one (xs : List Int) : ∀ v ∈ jvals xs, v.oneCell' = true := by
  intro v hv
  obtain ⟨s, _, rfl⟩ := List.mem_map.1 hv
  rfl
/-- append of a whole slice of int64s. -/
theorem joinJ {ops : Array Oper} {rest : List Oper} {o : Oper} {a : Act} {Q : Exit → Act → World → Prop} (w : World) (hgd : o.guard = none) (s x : Operand)
    (ho : o.op = .call { callee := .builtin .append, args := #[s, x], argTypes := #[47, 47] })
    (base : Nat) (v : Value) (bs : List Int) (hs : a.eval s = v) (hown : OwnJ w base v bs) (xa : Option Addr) (m cap : Nat) (cs : List Int) (hx : a.eval x = .slice xa m cap)
    (hr : RdJ w xa m cs) (hnil : xa = none → m = 0 ∧ cap = 0) (hl : bs.length + m ≤ 8796093022208) (hbase : base ≤ w.heap.size)
    (h : ∀ v' w', OwnJ w' base v' (bs ++ cs) → w.grownBy w' v.ownBlock → wpList Tryd.prog ops Q rest (a.put o.dst v') w') : wpList Tryd.prog ops Q (o :: rest) a w := by
  obtain ⟨i0, hi, hz0, hz1, hz2⟩ := info_parts infoJ
  have hcl := hr.1
  cases xa with
  | none =>
    obtain ⟨rfl, rfl⟩ := hnil rfl
    have : cs = [] := List.length_eq_zero_iff.1 hcl
    subst this
    refine wpList_append_own_none hgd s x 47 ho base 2 i0 1 Tryd.underlying47 hi v bs.length (jvals bs) hs hown hx ?_
    exact h v w (by rw [List.append_nil]; exact hown) (World.grownBy.refl _ _)
  | some ad =>
    refine wpList_append_own w hgd s x 47 ho base 2 i0 (.int .i64 0) 1 8 Tryd.underlying47 hi hz0 hz1 hz2 rfl (by omega) v bs.length (jvals bs) hs hown ad m cap (jvals cs) hx (by rw [jvals_len]; omega) (fun j u hu => ?_) (jvals_one _) (by unfold maxLen; omega) (by omega) hbase ?_
    · have hj : j < cs.length := by rw [← jvals_len]; exact (List.getElem?_eq_some_iff.1 hu).1
      obtain ⟨g, off, e, _, hc⟩ := hr.2 (by omega)
      cases e
      rw [show (⟨g, off, none⟩ : Addr).add j = ⟨g, off + j, none⟩ by simp [Addr.add], hc j (by omega), ← jvals_get cs j hj]
      exact hu
    · intro v' w' h1 h2 _
      refine h v' w' ?_ h2
      unfold OwnJ
      rw [List.length_append, jvals_append, hcl]
      exact h1
theorem posU_lt : ∀ (l : List Int) (v : Int) (k : Nat), k < posU l v → l.getD k 0 < v
  | [], v, k, h => by simp [posU] at h
  | x :: l, v, k, h => by
    by_cases h1 : x < v
    · cases k with
      | zero => exact h1
      | succ k =>
        have e : posU (x :: l) v = posU l v + 1 := by unfold posU; rw [List.takeWhile_cons_of_pos (by simpa using h1)]; rfl
        rw [List.getD_cons_succ]
        exact posU_lt l v k (by omega)
    · have e : posU (x :: l) v = 0 := by unfold posU; rw [List.takeWhile_cons_of_neg (by simpa using h1)]; rfl
      omega
theorem posU_le : ∀ (l : List Int) (v : Int), posU l v ≤ l.length := fun l v => (List.takeWhile_sublist _).length_le
theorem posU_end : ∀ (l : List Int) (v : Int), posU l v < l.length → ¬ l.getD (posU l v) 0 < v
  | [], v, h => by simp at h
  | x :: l, v, h => by
    by_cases h1 : x < v
    · have e : posU (x :: l) v = posU l v + 1 := by unfold posU; rw [List.takeWhile_cons_of_pos (by simpa using h1)]; rfl
      rw [e, List.getD_cons_succ]
      exact posU_end l v (by rw [e] at h; simpa using h)
    · have e : posU (x :: l) v = 0 := by unfold posU; rw [List.takeWhile_cons_of_neg (by simpa using h1)]; rfl
      rw [e]; exact h1
end Go.Proofs.YtficnlglofgekaaDoor.Jb
