/-
  What the program tells of a token: whether it is right, its text, its bytes.
-/
import Derived.Test.YtcchknpgkcmneaaLzTok
import Derived.Test.YtcchknpgkcmneaaNumsGetC
import Derived.Test.YtcchknpgkcmneaaBase2
namespace Go.Proofs.Ytcchknpgkcmneaa.Lz
open Go.ChangeShapes Go.WideShapes Go.ChangeAt Go.RowKit
open Go.Proofs.Ytcchknpgkcmneaa.Base Go.Proofs.Ytcchknpgkcmneaa.Nums
set_option linter.unusedVariables false
/-- A token as a value. -/
def tokV (a : Option Addr) (n c : Nat) (d l : Int) : Value := .agg #[.slice a n c, .int .i64 d, .int .i64 l]
/-- A token in a block of its own. -/
def TRow (w : World) (g : Nat) (v : Value) (d l : Int) : Prop := w.heap[g]? = some (.cells #[v, .int .i64 d, .int .i64 l] 61)
theorem TRow.c0 {w : World} {g : Nat} {v : Value} {p e : Int} (h : TRow w g v p e) : w.cell? ⟨g, 0, none⟩ = some v := by rw [cell_of_row _ _ _ _ _ _ h]; rfl
theorem TRow.c1 {w : World} {g : Nat} {v : Value} {p e : Int} (h : TRow w g v p e) : w.cell? ⟨g, 1, none⟩ = some (.int .i64 p) := by rw [cell_of_row _ _ _ _ _ _ h]; rfl
theorem TRow.c2 {w : World} {g : Nat} {v : Value} {p e : Int} (h : TRow w g v p e) : w.cell? ⟨g, 2, none⟩ = some (.int .i64 e) := by rw [cell_of_row _ _ _ _ _ _ h]; rfl
theorem TRow.fr {w : World} {g : Nat} {v : Value} {p e : Int} (h : TRow w g v p e) (k : Nat) : w.frozen? ⟨g, k, none⟩ = false := frozen_of_row _ _ _ _ _ h
theorem TRow.lt {w : World} {g : Nat} {v : Value} {p e : Int} (h : TRow w g v p e) : g < w.heap.size := block_lt_of_cell h.c0
theorem TRow.grown {w w' : World} {g : Nat} {v : Value} {p e : Int} {r : Option Nat} (h : TRow w g v p e) (hg : w.grownBy w' r) (hr : r ≠ some g) : TRow w' g v p e := by
  unfold TRow; rw [hg.block g h.lt (fun x => hr x.symm)]; exact h
theorem TRow.below {w w' : World} {g : Nat} {v : Value} {p e : Int} (h : TRow w g v p e) (hb : Below w.heap.size w w') : TRow w' g v p e := h.grown (below_grown hb) (by simp)
theorem TRow.new (w : World) (v : Value) (d l : Int) : TRow (w.alloc (.cells #[v, .int .i64 d, .int .i64 l] 61)) w.heap.size v d l := heap_alloc_new _ _
set_option maxRecDepth 100000 in
theorem isNone_any (a : Option Addr) (n c : Nat) (d l : Int) (w : World) :
    Calls Try.prog 102 #[.agg #[.slice a n c, .int .i64 d, .int .i64 l]] w fun e w' => e = .returned (.bool (decide (d = 0 ∧ l = 0))) ∧ Below w.heap.size w w' := by
  have HB : Hid (Below w.heap.size w (w.alloc (.cells #[.slice a n c, .int .i64 d, .int .i64 l] 61))) := (Below.refl _ _).alloc (Nat.le_refl _) _
  by_cases h1 : d = 0
  · subst h1
    by_cases h2 : l = 0
    · subst h2
      go_enter Try.func102, Try.ntmps102
      go_wp2
      go_ret
      exact ⟨ret_bool (by simp), HB.out⟩
    · have h3 : (l == 0) = false := by rw [beq_eq_false_iff_ne]; exact h2
      go_enter Try.func102, Try.ntmps102
      go_wp2
      go_ret
      exact ⟨ret_bool (by simp [h2]), HB.out⟩
  · have h3 : (d == 0) = false := by rw [beq_eq_false_iff_ne]; exact h1
    go_enter Try.func102, Try.ntmps102
    go_wp2
    go_ret
    exact ⟨ret_bool (by simp [h1]), HB.out⟩
set_option maxHeartbeats 1000000 in
set_option maxRecDepth 100000 in
theorem isRight_any (a : Option Addr) (c : Nat) (t : Tok) (m : Nat) (last : Bool) (w : World) :
    Calls Try.prog 104 #[.agg #[.slice a t.lit.length c, .int .i64 t.dist, .int .i64 t.len], .int .i64 (m : Int), .bool last] w fun e w' => e = .returned (.bool (right t m last)) ∧ Below w.heap.size w w' := by
  obtain ⟨lit, d, l⟩ := t
  simp only
  have HB : Hid (Below w.heap.size w (w.alloc (.cells #[.slice a lit.length c, .int .i64 d, .int .i64 l] 61))) := (Below.refl _ _).alloc (Nat.le_refl _) _
  have HR : Hid (right ⟨lit, d, l⟩ m last = if d = 0 ∧ l = 0 then last && decide (0 < lit.length) else decide (4 ≤ l ∧ l ≤ 259 ∧ 1 ≤ d ∧ d ≤ 32768 ∧ d ≤ (m : Int))) := rfl
  go_enter Try.func104, Try.ntmps104
  go_wp2_with fail
  refine (isNone_any a lit.length c d l _).mono ?_
  rintro e w1 ⟨rfl, hb⟩
  have HB1 := hide (below_trans HB.out hb)
  have hT := (TRow.new w (.slice a lit.length c) d l).below hb
  have k0 := hT.c0
  have k1 := hT.c1
  have k2 := hT.c2
  clear hT
  clear hb HB
  by_cases hn : d = 0 ∧ l = 0
  · have HE : Hid (right ⟨lit, d, l⟩ m last = (last && decide (0 < lit.length))) := by have := HR.out; rw [if_pos hn] at this; exact this
    rw [decide_eq_true hn]
    clear HR
    cases last with
    | true =>
      go_wp2_with fail
      go_ret
      exact ⟨ret_bool (by rw [HE.out]; simp), HB1.out⟩
    | false =>
      go_wp2_with fail
      go_ret
      exact ⟨ret_bool (by rw [HE.out]; simp), HB1.out⟩
  · have HE : Hid (right ⟨lit, d, l⟩ m last = decide (4 ≤ l ∧ l ≤ 259 ∧ 1 ≤ d ∧ d ≤ 32768 ∧ d ≤ (m : Int))) := by have := HR.out; rw [if_neg hn] at this; exact this
    rw [decide_eq_false hn]
    clear HR hn
    by_cases h4 : l < 4
    · go_wp2_with fail
      go_ret
      exact ⟨ret_bool (by rw [HE.out]; symm; rw [decide_eq_false_iff_not]; omega), HB1.out⟩
    · by_cases h5 : 259 < l
      · go_wp2_with fail
        go_ret
        exact ⟨ret_bool (by rw [HE.out]; symm; rw [decide_eq_false_iff_not]; omega), HB1.out⟩
      · by_cases h6 : 1 ≤ d
        · by_cases h7 : (m : Int) ≤ 32767
          · go_wp2_with fail
            go_ret
            exact ⟨ret_bool (by rw [HE.out]; apply decide_eq_decide.2; omega), HB1.out⟩
          · go_wp2_with fail
            go_ret
            exact ⟨ret_bool (by rw [HE.out]; apply decide_eq_decide.2; omega), HB1.out⟩
        · go_wp2_with fail
          go_ret
          exact ⟨ret_bool (by rw [HE.out]; symm; rw [decide_eq_false_iff_not]; omega), HB1.out⟩
end Go.Proofs.Ytcchknpgkcmneaa.Lz
