/-
  The two tables; a task's state in a block; whether it may be, and whether a change may be made of it.
-/
import Derived.Test.YtgpfabblmoffiaaDoorLgM
namespace Go.Proofs.YtgpfabblmoffiaaDoor.Lg
open Go.ChangeShapes Go.WideShapes Go.ChangeAt Go.RowKit
open Go.Proofs.YtgpfabblmoffiaaDoor.Base Go.Proofs.YtgpfabblmoffiaaDoor.Rf
set_option linter.unusedVariables false
def leadC : List Int := [0, 1, -1, 1, 0, 1, 1, 1]
def afterC : List Int := [1, -1, 1, -1, -1, 3, -1, -1, -1, 0, -1, -1, -1, 2, -1, -1, -1, -1, -1, 0]
/-- The two tables lie in their variables' cells. -/
def Tab (w : World) : Prop := 1 < w.heap.size ∧ (∀ i, i < 8 → w.cell? ⟨1, i, none⟩ = some (.int .i64 (leadC.getD i 0))) ∧ ∀ i, i < 20 → w.cell? ⟨0, i, none⟩ = some (.int .i64 (afterC.getD i 0))
theorem Tab.below {w w' : World} (h : Tab w) (hb : Below w.heap.size w w') : Tab w' := by
  have h1 := h.1
  exact ⟨Nat.lt_of_lt_of_le h.1 hb.size, fun i hi => by rw [hb.cell (p := ⟨1, i, none⟩) h1]; exact h.2.1 i hi, fun i hi => by rw [hb.cell (p := ⟨0, i, none⟩) (show 0 < w.heap.size by omega)]; exact h.2.2 i hi⟩
theorem Tab.low {w w' : World} {B : Nat} (h : Tab w) (h2 : 2 ≤ B) (hb : Below B w w') (hs : w.heap.size ≤ w'.heap.size) : Tab w' := by
  have h1 := h.1
  exact ⟨Nat.lt_of_lt_of_le h.1 hs, fun i hi => by rw [hb.cell (p := ⟨1, i, none⟩) (show 1 < B by omega)]; exact h.2.1 i hi, fun i hi => by rw [hb.cell (p := ⟨0, i, none⟩) (show 0 < B by omega)]; exact h.2.2 i hi⟩
def TS.val (x : TS) : Value := .agg #[.int .i64 x.s, .int .i64 x.a, .int .i64 x.c]
/-- A task's state lies in the block g. -/
def TC (w : World) (g : Nat) (x : TS) : Prop := w.heap[g]? = some (.cells #[.int .i64 x.s, .int .i64 x.a, .int .i64 x.c] 43)
theorem TC.lt {w : World} {g : Nat} {x : TS} (h : TC w g x) : g < w.heap.size := (Array.getElem?_eq_some_iff.1 h).1
theorem TC.below {w w' : World} {g : Nat} {x : TS} (h : TC w g x) (hb : Below w.heap.size w w') : TC w' g x := (hb.block g h.lt).trans h
theorem TC.c0 {w : World} {g : Nat} {x : TS} (h : TC w g x) : w.cell? ⟨g, 0, none⟩ = some (.int .i64 x.s) := by rw [cell_of_row _ _ _ _ _ _ h]; rfl
theorem TC.c1 {w : World} {g : Nat} {x : TS} (h : TC w g x) : w.cell? ⟨g, 1, none⟩ = some (.int .i64 x.a) := by rw [cell_of_row _ _ _ _ _ _ h]; rfl
theorem TC.c2 {w : World} {g : Nat} {x : TS} (h : TC w g x) : w.cell? ⟨g, 2, none⟩ = some (.int .i64 x.c) := by rw [cell_of_row _ _ _ _ _ _ h]; rfl
theorem TC.fz {w : World} {g : Nat} {x : TS} (h : TC w g x) (k : Nat) : w.frozen? ⟨g, k, none⟩ = false := frozen_of_row _ _ _ _ _ h
theorem tc_new (w : World) (x : TS) : TC (w.alloc (.cells #[.int .i64 x.s, .int .i64 x.a, .int .i64 x.c] 43)) w.heap.size x := heap_alloc_new _ _
/-- Is n from l to m? -/
def wi (n l m : Int) : Bool := decide (l ≤ n ∧ n ≤ m)
theorem wi_t {n l m : Int} (h1 : l ≤ n) (h2 : n ≤ m) : wi n l m = true := decide_eq_true ⟨h1, h2⟩
theorem wi_f {n l m : Int} (h : ¬ (l ≤ n ∧ n ≤ m)) : wi n l m = false := decide_eq_false h
theorem wi_iff {n l m : Int} : wi n l m = true ↔ l ≤ n ∧ n ≤ m := decide_eq_true_iff
theorem wi_cases (n l m : Int) : wi n l m = true ∨ wi n l m = false := by cases wi n l m <;> simp
theorem isWithin_any (n l m : Int) (w : World) : Calls Tryd.prog 58 #[.int .i64 n, .int .i64 l, .int .i64 m] w fun e w' => e = .returned (.bool (wi n l m)) ∧ w' = w := by
  go_enter Tryd.func58, Tryd.ntmps58
  by_cases h1 : l ≤ n <;> by_cases h2 : n ≤ m <;>
    (go_wp2_with fail
     go_ret
     exact ⟨ret_bool (by simp [wi, h1, h2]), rfl⟩)
theorem isSize_any (m r t : Int) (w : World) : Calls Tryd.prog 33 #[.int .i64 m, .int .i64 r, .int .i64 t] w fun e w' => e = .returned (.bool (wi m 0 256 && (wi r 1 65535 && wi t 1 16))) ∧ w' = w := by
  have H1 := wi_cases m 0 256
  have H2 := wi_cases r 1 65535
  have H3 := wi_cases t 1 16
  go_enter Tryd.func33, Tryd.ntmps33
  rcases H1 with d1 | d1
  · rcases H2 with d2 | d2
    · rcases H3 with d3 | d3 <;>
        (go_wp2_with (refine (isWithin_any _ _ _ _).mono ?_; rintro e w' ⟨rfl, h⟩; obtain rfl := h.symm)
         go_ret
         exact ⟨ret_bool (by simp [d1, d2, d3]), rfl⟩)
    · go_wp2_with (refine (isWithin_any _ _ _ _).mono ?_; rintro e w' ⟨rfl, h⟩; obtain rfl := h.symm)
      go_ret
      exact ⟨ret_bool (by simp [d1, d2]), rfl⟩
  · go_wp2_with (refine (isWithin_any _ _ _ _).mono ?_; rintro e w' ⟨rfl, h⟩; obtain rfl := h.symm)
    go_ret
    exact ⟨ret_bool (by simp [d1]), rfl⟩
/-- What a change leaves of a state (-1: it may not be made). -/
def aft (ch s : Int) : Int := afterC.getD (4 * ch.toNat + s.toNat) 0
theorem isAllowed_any (ch : Nat) (x : TS) (w : World) (ht : Tab w) (hc : ch < 5) (hs : 0 ≤ x.s ∧ x.s ≤ 3) :
    Calls Tryd.prog 37 #[.int .i64 (ch : Int), .agg #[.int .i64 x.s, .int .i64 x.a, .int .i64 x.c]] w fun e w' => e = .returned (.bool (aft ch x.s != -1)) ∧ Below w.heap.size w w' := by
  obtain ⟨w1, hw1⟩ : ∃ w1, w.alloc (.cells #[.int .i64 x.s, .int .i64 x.a, .int .i64 x.c] 43) = w1 := ⟨_, rfl⟩
  have HB1 : Hid (Below w.heap.size w w1) := by rw [← hw1]; exact (Below.refl _ _).alloc (Nat.le_refl _) _
  have HT : TC w1 w.heap.size x := by rw [← hw1]; exact tc_new w x
  have ht1 := ht.below HB1.out
  obtain ⟨g, hg⟩ : ∃ g, w.heap.size = g := ⟨_, rfl⟩
  rw [hg] at HT
  have c0 := HT.c0
  have HG := hide hg
  obtain ⟨s, a, c⟩ := x
  simp only at hs c0 hw1 ⊢
  obtain ⟨k, rfl⟩ : ∃ k : Nat, s = (k : Int) := ⟨s.toNat, by omega⟩
  have hk : k < 4 := by omega
  have t0 := ht1.2.2 (ch * 4 + k) (by omega)
  have HA : Hid (afterC.getD (ch * 4 + k) 0 = aft ch k) := by show _ = _; unfold aft; rw [show 4 * ((ch : Nat) : Int).toNat + ((k : Nat) : Int).toNat = ch * 4 + k by omega]
  rw [HA.out] at t0
  obtain ⟨R, hR⟩ : ∃ R, aft ch k = R := ⟨_, rfl⟩
  rw [hR] at t0 ⊢
  have hki : (k : Int) < 4 := by omega
  have hci : (ch : Int) < 5 := by omega
  clear ht ht1 hR HA HT
  go_enter Tryd.func37, Tryd.ntmps37
  go_wp2_with fail
  go_region
  all_goals
    go_wp2_with fail
    go_ret
    refine ⟨rfl, ?_⟩
    first | exact HB1.out | exact HB1.out.drew | (rw [← HG.out]; exact HB1.out.drewN _) | (rw [← HG.out]; exact below_drewN' _ _ _) | (rw [← HG.out]; exact HB1.out.drew)
end Go.Proofs.YtgpfabblmoffiaaDoor.Lg
