/-
  The kinds of filters: the table, and what kindOf tells.
-/
import Derived.Test.YtmndjgmlndpgaaaDoorBase
namespace Go.Proofs.YtmndjgmlndpgaaaDoor.Filt
open Go.ChangeShapes Go.WideShapes Go.ChangeAt Go.RowKit
open Go.Proofs.YtmndjgmlndpgaaaDoor.Base
set_option linter.unusedVariables false
def kcells : List Value := [.bool false, .int .i64 0, .int .i64 0, .int .i64 0, .int .i64 0, .bool true, .int .i64 0, .int .i64 0, .int .i64 0, .int .i64 0, .bool false, .int .i64 1, .int .i64 8, .int .i64 1, .int .i64 4096]
/-- The table of kinds lies in the variable's cells. -/
def KAt (w : World) : Prop := 0 < w.heap.size ∧ ∀ i, i < 15 → w.cell? ⟨0, i, none⟩ = kcells[i]?
def kindN (A : Bool) (H : Int) (n : Nat) : Int := if A = false ∧ H = 0 ∧ n = 0 then 0 else if A = true ∧ H = 0 ∧ n = 0 then 1 else if A = false ∧ 1 ≤ H ∧ H ≤ 8 ∧ 1 ≤ n ∧ n ≤ 4096 then 2 else 3
def RowK (k : Nat) (r : Bool) (f m s l : Int) : Prop := r = decide (k = 1) ∧ f = (if k = 2 then 1 else 0) ∧ m = (if k = 2 then 8 else 0) ∧ s = (if k = 2 then 1 else 0) ∧ l = (if k = 2 then 4096 else 0)
def Fit (k : Nat) (A : Bool) (H : Int) (n : Nat) : Prop := A = decide (k = 1) ∧ (if k = 2 then 1 else 0) ≤ H ∧ H ≤ (if k = 2 then 8 else 0) ∧ (if k = 2 then 1 else 0) ≤ n ∧ n ≤ (if k = 2 then 4096 else 0)
theorem next_not {k : Nat} {A : Bool} {H : Int} {n : Nat} (h : ∀ j, j < k → ¬ Fit j A H n) (h2 : ¬ Fit k A H n) : Hid (∀ j, j < k + 1 → ¬ Fit j A H n) := fun j hj => by
  by_cases e : j = k
  · subst e; exact h2
  · exact h j (by omega)
theorem kind_fit {k : Nat} {A : Bool} {H : Int} {n : Nat} (hk : k < 3) (h : Fit k A H n) : (k : Int) = kindN A H n := by
  unfold Fit at h
  unfold kindN
  match k, hk with
  | 0, _ => simp at h; rw [if_pos ⟨h.1, by omega, by omega⟩]; rfl
  | 1, _ => simp at h; rw [if_neg (by simp [h.1]), if_pos ⟨h.1, by omega, by omega⟩]; rfl
  | 2, _ => simp at h; rw [if_neg (by omega), if_neg (by omega), if_pos ⟨h.1, by omega, by omega, by omega, by omega⟩]; rfl
theorem kind_none {A : Bool} {H : Int} {n : Nat} (h : ∀ j, j < 3 → ¬ Fit j A H n) : (3 : Int) = kindN A H n := by
  have h0 := h 0 (by omega)
  have h1 := h 1 (by omega)
  have h2 := h 2 (by omega)
  unfold Fit at h0 h1 h2
  simp at h0 h1 h2
  unfold kindN
  rw [if_neg (fun e => by have := h0 e.1; omega), if_neg (fun e => by have := h1 e.1; omega), if_neg (fun e => by have := h2 e.1; omega)]
theorem kat_below {w w' : World} (h : KAt w) (hb : Below w.heap.size w w') : KAt w' :=
  ⟨Nat.lt_of_lt_of_le h.1 hb.size, fun i hi => by rw [hb.cell (p := ⟨0, i, none⟩) h.1]; exact h.2 i hi⟩
set_option maxHeartbeats 1000000 in
set_option maxRecDepth 100000 in
theorem kind_any (A : Bool) (H : Int) (a : Option Addr) (len cap : Nat) (w : World) (hk : KAt w) (hl : len ≤ 9223372036854775807) :
    Calls Tryd.prog 19 #[.agg #[.bool A, .int .i64 H, .slice a len cap]] w fun e w' => e = .returned (.int .i64 (kindN A H len)) ∧ Below w.heap.size w w' := by
  obtain ⟨w1, hw1⟩ : ∃ w1, w.alloc (.cells #[.bool A, .int .i64 H, .slice a len cap] 24) = w1 := ⟨_, rfl⟩
  have HB1 : Hid (Below w.heap.size w w1) := by rw [← hw1]; exact (Below.refl _ _).alloc (Nat.le_refl _) _
  have hk1 : KAt w1 := kat_below hk HB1.out
  obtain ⟨g, hg⟩ : ∃ g, w.heap.size = g := ⟨_, rfl⟩
  have f0 : w1.cell? ⟨g, 0, none⟩ = some (.bool A) := by rw [← hw1, ← hg]; simp [go_sem]
  have f1 : w1.cell? ⟨g, 1, none⟩ = some (.int .i64 H) := by rw [← hw1, ← hg]; simp [go_sem]
  have f2 : w1.cell? ⟨g, 2, none⟩ = some (.slice a len cap) := by rw [← hw1, ← hg]; simp [go_sem]
  have HG := hide hg
  have HF : Hid (w1.cell? ⟨g, 0, none⟩ = some (.bool A) ∧ w1.cell? ⟨g, 1, none⟩ = some (.int .i64 H)) := ⟨f0, f1⟩
  have HGL : Hid (g < w1.heap.size) := by rw [← hw1, ← hg]; show _ < _; simp
  have g0 := hk1.2 0 (by omega)
  have g1 := hk1.2 1 (by omega)
  have g2 := hk1.2 2 (by omega)
  have g3 := hk1.2 3 (by omega)
  have g4 := hk1.2 4 (by omega)
  have g5 := hk1.2 5 (by omega)
  have g6 := hk1.2 6 (by omega)
  have g7 := hk1.2 7 (by omega)
  have g8 := hk1.2 8 (by omega)
  have g9 := hk1.2 9 (by omega)
  have g10 := hk1.2 10 (by omega)
  have g11 := hk1.2 11 (by omega)
  have g12 := hk1.2 12 (by omega)
  have g13 := hk1.2 13 (by omega)
  have g14 := hk1.2 14 (by omega)
  simp only [kcells, List.getElem?_cons_zero, List.getElem?_cons_succ] at g0 g1 g2 g3 g4 g5 g6 g7 g8 g9 g10 g11 g12 g13 g14
  go_enter Tryd.func19, Tryd.ntmps19
  go_wp2_with fail
  obtain ⟨T, hT⟩ : ∃ T, Value.agg #[.bool false, .int .i64 0, .int .i64 0, .int .i64 0, .int .i64 0, .bool true, .int .i64 0, .int .i64 0, .int .i64 0, .int .i64 0, .bool false, .int .i64 1, .int .i64 8, .int .i64 1, .int .i64 4096] = T := ⟨_, rfl⟩
  have HT : Hid (∀ k : Nat, k < 3 → ∃ (r : Bool) (f m s l : Int), (∀ W, (Instr.index 55 T (.int .i64 (k : Int))).run Tryd.prog W = .ok (.agg #[.bool r, .int .i64 f, .int .i64 m, .int .i64 s, .int .i64 l]) W) ∧ RowK k r f m s l) := by
    rw [← hT]
    intro k hk
    match k, hk with
    | 0, _ => exact ⟨false, 0, 0, 0, 0, fun W => by kernel_rfl, rfl, rfl, rfl, rfl, rfl⟩
    | 1, _ => exact ⟨true, 0, 0, 0, 0, fun W => by kernel_rfl, rfl, rfl, rfl, rfl, rfl⟩
    | 2, _ => exact ⟨false, 1, 8, 1, 4096, fun W => by kernel_rfl, rfl, rfl, rfl, rfl, rfl⟩
  rw [hT]
  clear hT g0 g1 g2 g3 g4 g5 g6 g7 g8 g9 g10 g11 g12 g13 g14 f0 f1 f2
  go_loopw [10] (fun i wr => ∃ k : Nat, k ≤ 3 ∧ i = .int .i64 (k : Int) ∧ Hid (Below w1.heap.size w1 wr) ∧ Hid (∀ j, j < k → ¬ Fit j A H len)) (fun i _ => 3 - (intOf i).toNat)
  case atStart => exact ⟨0, by omega, rfl, Below.refl _ _, fun j hj => absurd hj (by omega)⟩
  case round =>
    obtain ⟨k, hk3, rfl, HB, HN⟩ := hrel
    by_cases hlt : k < 3
    · have hki : (k : Int) < 3 := by omega
      obtain ⟨r, f, m, s, l, hidx, hrow⟩ := HT.out k hlt
      have HROW := hide hrow
      clear hrow
      have hnf : ¬ Fit k A H len ∨ Fit k A H len := (Classical.em _).symm
      obtain ⟨w2, hw2⟩ : ∃ w2, wr.alloc (.cells #[.bool r, .int .i64 f, .int .i64 m, .int .i64 s, .int .i64 l] 54) = w2 := ⟨_, rfl⟩
      have HB2 : Hid (Below w1.heap.size w1 w2) := by rw [← hw2]; exact HB.out.alloc HB.out.size _
      obtain ⟨q, hq⟩ : ∃ q, wr.heap.size = q := ⟨_, rfl⟩
      have r0 : w2.cell? ⟨q, 0, none⟩ = some (.bool r) := by rw [← hw2, ← hq]; simp [go_sem]
      have r1 : w2.cell? ⟨q, 1, none⟩ = some (.int .i64 f) := by rw [← hw2, ← hq]; simp [go_sem]
      have r2 : w2.cell? ⟨q, 2, none⟩ = some (.int .i64 m) := by rw [← hw2, ← hq]; simp [go_sem]
      have r3 : w2.cell? ⟨q, 3, none⟩ = some (.int .i64 s) := by rw [← hw2, ← hq]; simp [go_sem]
      have r4 : w2.cell? ⟨q, 4, none⟩ = some (.int .i64 l) := by rw [← hw2, ← hq]; simp [go_sem]
      have f0 : w2.cell? ⟨g, 0, none⟩ = some (.bool A) := by rw [HB2.out.cell (p := ⟨g, 0, none⟩) HGL.out]; exact HF.out.1
      have f1 : w2.cell? ⟨g, 1, none⟩ = some (.int .i64 H) := by rw [HB2.out.cell (p := ⟨g, 1, none⟩) HGL.out]; exact HF.out.2
      have HFIT : Hid (Fit k A H len ↔ A = r ∧ f ≤ H ∧ H ≤ m ∧ s ≤ (len : Int) ∧ (len : Int) ≤ l) := by
        obtain ⟨rfl, rfl, rfl, rfl, rfl⟩ := HROW.out
        show _ ↔ _
        unfold Fit
        by_cases h2 : k = 2
        · simp only [h2, if_true]
          exact ⟨fun ⟨a, b, c, d, e⟩ => ⟨a, b, c, by omega, by omega⟩, fun ⟨a, b, c, d, e⟩ => ⟨a, b, c, by omega, by omega⟩⟩
        · simp only [h2, if_false]
          exact ⟨fun ⟨a, b, c, d, e⟩ => ⟨a, b, c, by omega, by omega⟩, fun ⟨a, b, c, d, e⟩ => ⟨a, b, c, by omega, by omega⟩⟩
      clear hnf HROW
      have hcase : A ≠ r ∨ (A = r ∧ ¬ f ≤ H) ∨ (A = r ∧ f ≤ H ∧ ¬ H ≤ m) ∨ (A = r ∧ f ≤ H ∧ H ≤ m ∧ ¬ s ≤ (len : Int)) ∨ (A = r ∧ f ≤ H ∧ H ≤ m ∧ s ≤ (len : Int) ∧ ¬ (len : Int) ≤ l) ∨ (A = r ∧ f ≤ H ∧ H ≤ m ∧ s ≤ (len : Int) ∧ (len : Int) ≤ l) := by
        by_cases h1 : A = r <;> by_cases h2 : f ≤ H <;> by_cases h3 : H ≤ m <;> by_cases h4 : s ≤ (len : Int) <;> by_cases h5 : (len : Int) ≤ l <;> simp [h1, h2, h3, h4, h5]
      rcases hcase with h1 | ⟨rfl, h2⟩ | ⟨rfl, h2, h3⟩ | ⟨rfl, h2, h3, h4⟩ | ⟨rfl, h2, h3, h4, h5⟩ | ⟨rfl, h2, h3, h4, h5⟩
      · have z1 : (A == r) = false := by simpa using h1
        have HNF : Hid (¬ Fit k A H len) := fun h => h1 (HFIT.out.1 h).1
        clear h1
        go_wp2_with fail
        go_roundw
        case rel => exact ⟨k + 1, by omega, by go_num, HB2, next_not HN.out HNF.out⟩
        case measure => simp [intOf]; omega
      · have z1 : (A == A) = true := by simp
        have z2 : decide (f ≤ H) = false := by simpa using h2
        have HNF : Hid (¬ Fit k A H len) := fun h => h2 (HFIT.out.1 h).2.1
        clear h2
        go_wp2_with fail
        go_roundw
        case rel => exact ⟨k + 1, by omega, by go_num, HB2, next_not HN.out HNF.out⟩
        case measure => simp [intOf]; omega
      · have z1 : (A == A) = true := by simp
        have z2 : decide (H ≤ m) = false := by simpa using h3
        have HNF : Hid (¬ Fit k A H len) := fun h => h3 (HFIT.out.1 h).2.2.1
        clear h3
        go_wp2_with fail
        go_roundw
        case rel => exact ⟨k + 1, by omega, by go_num, HB2, next_not HN.out HNF.out⟩
        case measure => simp [intOf]; omega
      · have z1 : (A == A) = true := by simp
        have z2 : decide (s ≤ (len : Int)) = false := by simpa using h4
        have HNF : Hid (¬ Fit k A H len) := fun h => h4 (HFIT.out.1 h).2.2.2.1
        clear h4
        go_wp2_with fail
        go_roundw
        case rel => exact ⟨k + 1, by omega, by go_num, HB2, next_not HN.out HNF.out⟩
        case measure => simp [intOf]; omega
      · have z1 : (A == A) = true := by simp
        have z2 : decide ((len : Int) ≤ l) = false := by simpa using h5
        have HNF : Hid (¬ Fit k A H len) := fun h => h5 (HFIT.out.1 h).2.2.2.2
        clear h5
        go_wp2_with fail
        go_roundw
        case rel => exact ⟨k + 1, by omega, by go_num, HB2, next_not HN.out HNF.out⟩
        case measure => simp [intOf]; omega
      · have z1 : (A == A) = true := by simp
        have HYF : Hid (Fit k A H len) := HFIT.out.2 ⟨rfl, h2, h3, h4, h5⟩
        go_wp2_with fail
        go_ret
        exact ⟨ret_int (kind_fit hlt HYF.out), by first | exact HB1.out.trans (HB2.out.mono HB1.out.size) | (rw [← HG.out]; exact HB1.out.trans (HB2.out.mono HB1.out.size))⟩
    · have h3 : k = 3 := by omega
      subst h3
      go_wp2_with fail
      go_ret
      exact ⟨ret_int (kind_none HN.out), by first | exact HB1.out.trans (HB.out.mono HB1.out.size) | (rw [← HG.out]; exact HB1.out.trans (HB.out.mono HB1.out.size))⟩
end Go.Proofs.YtmndjgmlndpgaaaDoor.Filt
