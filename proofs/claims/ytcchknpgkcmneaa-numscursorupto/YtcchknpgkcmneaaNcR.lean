/-
  The document's cursor: its memory, Fail, Rest, End, Num.
-/
import Derived.Test.YtcchknpgkcmneaaNcZ
import Derived.Test.YtcchknpgkcmneaaNumsRefC
import Derived.Test.YtcchknpgkcmneaaLzC3
namespace Go.Proofs.Ytcchknpgkcmneaa.Curs
open Go.ChangeShapes Go.WideShapes Go.ChangeAt Go.RowKit
open Go.Proofs.Ytcchknpgkcmneaa.Base Go.Proofs.Ytcchknpgkcmneaa.Nums
set_option linter.unusedVariables false
/-- The cursor's five cells. -/
def Row5 (w : World) (g : Nat) (v : Value) (at' : Int) (f : Bool) (er wa : Int) : Prop := w.heap[g]? = some (.cells #[v, .int .i64 at', .bool f, .int .i64 er, .int .i64 wa] 36)
section
variable {w w' : World} {g : Nat} {v : Value} {p er wa : Int} {f : Bool}
theorem Row5.c0 (h : Row5 w g v p f er wa) : w.cell? ⟨g, 0, none⟩ = some v := by rw [cell_of_row _ _ _ _ _ _ h]; rfl
theorem Row5.c1 (h : Row5 w g v p f er wa) : w.cell? ⟨g, 1, none⟩ = some (.int .i64 p) := by rw [cell_of_row _ _ _ _ _ _ h]; rfl
theorem Row5.c2 (h : Row5 w g v p f er wa) : w.cell? ⟨g, 2, none⟩ = some (.bool f) := by rw [cell_of_row _ _ _ _ _ _ h]; rfl
theorem Row5.c3 (h : Row5 w g v p f er wa) : w.cell? ⟨g, 3, none⟩ = some (.int .i64 er) := by rw [cell_of_row _ _ _ _ _ _ h]; rfl
theorem Row5.c4 (h : Row5 w g v p f er wa) : w.cell? ⟨g, 4, none⟩ = some (.int .i64 wa) := by rw [cell_of_row _ _ _ _ _ _ h]; rfl
theorem Row5.fr (h : Row5 w g v p f er wa) (k : Nat) : w.frozen? ⟨g, k, none⟩ = false := frozen_of_row _ _ _ _ _ h
theorem Row5.lt (h : Row5 w g v p f er wa) : g < w.heap.size := block_lt_of_cell h.c0
theorem Row5.grown {r : Option Nat} (h : Row5 w g v p f er wa) (hg : w.grownBy w' r) (hr : r ≠ some g) : Row5 w' g v p f er wa := by
  unfold Row5; rw [hg.block g h.lt (fun x => hr x.symm)]; exact h
theorem Row5.below (h : Row5 w g v p f er wa) (hb : Below w.heap.size w w') : Row5 w' g v p f er wa := h.grown (below_grown hb) (by simp)
theorem Row5.put1 (h : Row5 w g v p f er wa) (q : Int) : Row5 (w.setCell ⟨g, 1, none⟩ (.int .i64 q)) g v q f er wa := heap_setCell_same _ _ _ _ _ _ h
theorem Row5.put2 (h : Row5 w g v p f er wa) (q : Bool) : Row5 (w.setCell ⟨g, 2, none⟩ (.bool q)) g v p q er wa := heap_setCell_same _ _ _ _ _ _ h
theorem Row5.put34 (h : Row5 w g v p f er wa) (e q : Int) : Row5 ((w.setCell ⟨g, 3, none⟩ (.int .i64 e)).setCell ⟨g, 4, none⟩ (.int .i64 q)) g v p f e q :=
  heap_setCell_same _ _ _ _ _ _ (heap_setCell_same _ _ _ _ _ _ h)
end
/-- A slice as Go has it. -/
def Sl (a : Option Addr) (n c : Nat) : Prop := n ≤ c ∧ c ≤ 9223372036854775807 ∧ (a = none → n = 0 ∧ c = 0) ∧ ∀ ad, a = some ad → ad.spot = none
theorem slice_from (a : Option Addr) (n c p : Nat) (h : Sl a n c) (hp : p ≤ n) : ∃ la, (∀ W, (Instr.sliceAt 22 (.slice a n c) (some (.int .i64 (p : Int))) none none).run Try.prog W = .ok (.slice la (n - p) (c - p)) W) ∧ (∀ w bs, Rd w a n bs → Rd w la (n - p) (bs.drop p)) := by
  obtain ⟨h1, h2, h3, h4⟩ := h
  cases a with
  | none =>
    obtain ⟨rfl, rfl⟩ := h3 rfl
    obtain rfl : p = 0 := by omega
    exact ⟨none, fun W => by kernel_rfl, fun w bs hr => by
      obtain rfl : bs = [] := List.length_eq_zero_iff.1 hr.1
      exact rd_nil _⟩
  | some ad =>
    obtain ⟨b, off, sp⟩ := ad
    have hs := h4 _ rfl
    simp only at hs
    subst hs
    obtain ⟨la, q1, q2, _⟩ := Lz.slice_l b off n c p hp h1
    exact ⟨some la, q1, fun w bs hr => Lz.rd_rest hr hp q2⟩
theorem slice_part (a : Option Addr) (n c p k e : Nat) (h : Sl a n c) (he : p + k = e) (hp : e ≤ n) : ∃ la cc, (∀ W, (Instr.sliceAt 22 (.slice a n c) (some (.int .i64 (p : Int))) (some (.int .i64 (e : Int))) none).run Try.prog W = .ok (.slice la k cc) W) ∧ (∀ w bs, Rd w a n bs → Rd w la k ((bs.drop p).take k)) ∧ (la = none → k = 0 ∧ cc = 0) := by
  obtain ⟨h1, h2, h3, h4⟩ := h
  cases a with
  | none =>
    obtain ⟨rfl, rfl⟩ := h3 rfl
    obtain rfl : p = 0 := by omega
    obtain rfl : k = 0 := by omega
    subst he
    exact ⟨none, 0, fun W => by kernel_rfl, fun w bs hr => by rw [List.take_zero]; exact rd_nil _, fun _ => ⟨rfl, rfl⟩⟩
  | some ad =>
    obtain ⟨b, off, sp⟩ := ad
    have hs := h4 _ rfl
    simp only at hs
    subst hs
    by_cases h0 : 0 < c - p
    · refine ⟨some ⟨b, off + p, none⟩, c - p, fun W => ?_, fun w bs hr => Lz.rd_sub hr (by omega) (fun _ => rfl), fun h => by cases h⟩
      rw [run_sliceAt_slice (h := Lz.elem8), run_slice_lh (ht := Lz.elem8) (h0 := by omega) (h1 := by omega) (h2 := by omega), Lz.size8]
      simp only [Result.andThen, sliced, Int.toNat_natCast]
      rw [if_neg (by omega), show e - p = k by omega]
      simp [Addr.add]
    · have e1 : p = c := by omega
      have e2 : k = 0 := by omega
      subst e1 e2
      have e3 : e = p := by omega
      subst e3
      refine ⟨some ⟨b, off, none⟩, 0, fun W => ?_, fun w bs hr => by rw [List.take_zero]; exact rd_zero _ _, fun h => by cases h⟩
      rw [run_sliceAt_slice (h := Lz.elem8), run_slice_lh (ht := Lz.elem8) (h0 := by omega) (h1 := by omega) (h2 := by omega), Lz.size8]
      simp [Result.andThen, sliced]
/-- The document's cursor in block g: what is left, its place; it has not failed. -/
def ReA (w : World) (g D : Nat) (L : List (BitVec 8)) (p : Nat) : Prop :=
  ∃ a n c bs, Row5 w g (.slice a n c) (p : Int) false 0 0 ∧ Rd w a n bs ∧ Sl a n c ∧ p ≤ n ∧ L = bs.drop p ∧ ∀ ad, a = some ad → ad.block ≠ g ∧ ad.block < D ∧ D ≤ w.heap.size
/-- It has failed. -/
def ReD (w : World) (g p : Nat) (er : Int) : Prop := ∃ a n c at', Row5 w g (.slice a n c) at' true er (p : Int) ∧ er ≠ 0
theorem ReA.grown {w w' : World} {g p D : Nat} {L : List (BitVec 8)} {r : Option Nat} (h : ReA w g D L p) (hg : w.grownBy w' r) (h1 : r ≠ some g) (h2 : ∀ i, r = some i → ∀ a n c bs, Row5 w g (.slice a n c) (p : Int) false 0 0 → Rd w a n bs → ∀ ad, a = some ad → ad.block ≠ i) : ReA w' g D L p := by
  obtain ⟨a, n, c, bs, q1, q2, q3, q4, q5, q6⟩ := h
  exact ⟨a, n, c, bs, q1.grown hg h1, q2.grown hg (fun ad e e2 => h2 _ e2 a n c bs q1 q2 ad e rfl), q3, q4, q5, fun ad e => ⟨(q6 ad e).1, (q6 ad e).2.1, Nat.le_trans (q6 ad e).2.2 hg.size⟩⟩
set_option maxRecDepth 100000 in
theorem rfail_any (g : Nat) (v : Value) (p k : Int) (w : World) (h : Row5 w g v p false 0 0) (hk : k ≠ 0) : Calls Try.prog 57 #[.pointer (some ⟨g, 0, none⟩), .int .i64 k] w fun e w' => e = .returned (.tuple #[]) ∧ Row5 w' g v p true k p ∧ w.grownBy w' (some g) := by
  have c2 := h.c2
  have f2 := h.fr 2
  have h2 := h.put2 true
  have d1 := h2.c1
  have d3 := h2.c3
  have d4 := h2.c4
  have f3 := h2.fr 3
  have f4 := h2.fr 4
  have H := hide h
  have hb : (k == 0) = false := by rw [beq_eq_false_iff_ne]; exact hk
  have hr3 : Row5 ((w.setCell ⟨g, 2, none⟩ (.bool true)).setCell ⟨g, 3, none⟩ (.int .i64 k)) g v p true k 0 := heap_setCell_same _ _ _ _ _ _ h2
  have e4 := hr3.c4
  have ef4 := hr3.fr 4
  clear h hk h2 hr3
  go_enter Try.func57, Try.ntmps57
  go_wp2_with fail
  first
    | (go_end0; exact ⟨rfl, (H.out.put2 true).put34 k p, grown_cell (grown_cell (grown_cell (World.grownBy.refl _ _) 2 _) 3 _) 4 _⟩)
    | (trace_state; fail)
end Go.Proofs.Ytcchknpgkcmneaa.Curs
