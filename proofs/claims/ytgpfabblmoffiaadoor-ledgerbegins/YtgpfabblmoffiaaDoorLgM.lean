/-
  Books of a job: what a task's state is, which books may be, what each call answers.
-/
import Derived.Test.YtgpfabblmoffiaaDoorRowF
namespace Go.Proofs.YtgpfabblmoffiaaDoor.Lg
open Go.ChangeShapes Go.WideShapes Go.ChangeAt Go.RowKit
open Go.Proofs.YtgpfabblmoffiaaDoor.Base Go.Proofs.YtgpfabblmoffiaaDoor.Rf
set_option linter.unusedVariables false
/-- State, Attempt, Charged. -/
structure TS where
  s : Int
  a : Int
  c : Int
theorem ts_ext {x y : TS} (h1 : x.s = y.s) (h2 : x.a = y.a) (h3 : x.c = y.c) : x = y := by
  cases x; cases y; simp_all
theorem ts_dec (x y : TS) : x = y ∨ x ≠ y := Classical.em _
def z0 : TS := ⟨0, 0, 0⟩
def tv (x : TS) : List Value := [.int .i64 x.s, .int .i64 x.a, .int .i64 x.c]
def tf (L : List TS) (k : Nat) : List Value := tv (L.getD k z0)
theorem tf_len (L : List TS) (k : Nat) : (tf L k).length = 3 := rfl
theorem tf_one (L : List TS) (k : Nat) : ∀ u ∈ tf L k, u.oneCell' = true := by
  intro u hu
  simp [tf, tv] at hu
  rcases hu with rfl | rfl | rfl <;> rfl
theorem get_set (L : List TS) (i k : Nat) (x : TS) (hi : i < L.length) : (L.set i x).getD k z0 = if k = i then x else L.getD k z0 := by
  rw [List.getD_eq_getElem?_getD, List.getElem?_set]
  by_cases h : i = k
  · subst h; rw [if_pos rfl, if_pos hi, if_pos rfl]; rfl
  · rw [if_neg h, if_neg (fun e => h e.symm), List.getD_eq_getElem?_getD]
theorem take_snoc (L : List TS) (k : Nat) (hk : k < L.length) : L.take (k + 1) = L.take k ++ [L.getD k z0] := by
  rw [List.take_add_one, List.getD_eq_getElem?_getD, List.getElem?_eq_getElem hk]; rfl
/-- May a task's state be? (red: of a reduce task.) -/
def good (red : Bool) (t : Int) (x : TS) : Bool := decide (0 ≤ x.c ∧ x.c ≤ t ∧ (x.s = 0 ∧ x.a = x.c ∨ (x.s = 1 ∨ x.s = 2 ∧ red = true ∨ x.s = 3) ∧ x.a = x.c + 1 ∧ x.c < t))
theorem good_iff {red : Bool} {t : Int} {x : TS} : good red t x = true ↔ 0 ≤ x.c ∧ x.c ≤ t ∧ (x.s = 0 ∧ x.a = x.c ∨ (x.s = 1 ∨ x.s = 2 ∧ red = true ∨ x.s = 3) ∧ x.a = x.c + 1 ∧ x.c < t) := by
  unfold good; exact decide_eq_true_iff
/-- How many are charged t times. -/
def cnt (t : Int) (L : List TS) : Nat := L.countP (fun x => decide (x.c = t))
theorem cnt_le (t : Int) (L : List TS) : cnt t L ≤ L.length := List.countP_le_length
theorem cnt_snoc (t : Int) (L : List TS) (k : Nat) (hk : k < L.length) : cnt t (L.take (k + 1)) = cnt t (L.take k) + (if (L.getD k z0).c = t then 1 else 0) := by
  rw [take_snoc L k hk, cnt, List.countP_append, ← cnt, List.countP_cons, List.countP_nil]
  simp only [decide_eq_true_eq, Nat.zero_add]
theorem all_snoc (p : TS → Bool) (L : List TS) (k : Nat) (hk : k < L.length) : (L.take (k + 1)).all p = ((L.take k).all p && p (L.getD k z0)) := by
  rw [take_snoc L k hk, List.all_append]; simp
theorem all_get {p : TS → Bool} {L : List TS} (h : L.all p = true) (k : Nat) (hk : k < L.length) : p (L.getD k z0) = true := by
  rw [List.getD_eq_getElem?_getD, List.getElem?_eq_getElem hk]
  exact List.all_eq_true.1 h _ (List.getElem_mem hk)
theorem all_false {p : TS → Bool} {L : List TS} (k : Nat) (hk : k < L.length) (h : p (L.getD k z0) = false) : L.all p = false := by
  cases he : L.all p with
  | false => rfl
  | true => rw [all_get he k hk] at h; cases h
/-- A book: Tries, Maps, Reduces, Failed. -/
structure Bk where
  t : Int
  m : List TS
  r : List TS
  f : Bool
def sz (b : Bk) : Bool := decide (b.m.length ≤ 256 ∧ 1 ≤ b.r.length ∧ b.r.length ≤ 65535 ∧ 1 ≤ b.t ∧ b.t ≤ 16)
def full (b : Bk) : Nat := cnt b.t b.m + cnt b.t b.r
/-- May the book be? -/
def chk (b : Bk) : Bool := sz b && (b.m.all (good false b.t) && (b.r.all (good true b.t) && (decide (full b ≤ 1) && (b.f == decide (full b = 1)))))
def chkE (b : Bk) : Int := if chk b = true then 0 else 190
theorem chkE_ok {b : Bk} (h : chk b = true) : chkE b = 0 := if_pos h
theorem chkE_bad {b : Bk} (h : chk b = false) : chkE b = 190 := by unfold chkE; rw [h]; rfl
structure Ok (b : Bk) : Prop where
  m : b.m.length ≤ 256
  r1 : 1 ≤ b.r.length
  r2 : b.r.length ≤ 65535
  t1 : 1 ≤ b.t
  t2 : b.t ≤ 16
  gm : ∀ k, k < b.m.length → good false b.t (b.m.getD k z0) = true
  gr : ∀ k, k < b.r.length → good true b.t (b.r.getD k z0) = true
  full1 : full b ≤ 1
  f : b.f = true ↔ full b = 1
theorem chk_ok {b : Bk} (h : chk b = true) : Ok b := by
  unfold chk sz at h
  simp only [Bool.and_eq_true, decide_eq_true_eq] at h
  obtain ⟨⟨h1, h2, h3, h4, h5⟩, h6, h7, h8, h9⟩ := h
  refine ⟨h1, h2, h3, h4, h5, all_get h6, all_get h7, h8, ?_⟩
  have h10 := eq_of_beq h9
  rw [h10, decide_eq_true_iff]
/-- Are all done? -/
def dn (L : List TS) : Bool := L.all (fun x => decide (x.s = 3))
/-- The tasks of a kind whose state p takes. -/
def rdL (K : Int) (p : Int → Bool) (L : List TS) (k : Nat) : List (Int × Int) := (List.range k).filterMap (fun i => if p (L.getD i z0).s then some (K, (i : Int)) else none)
theorem rdL_snoc (K : Int) (p : Int → Bool) (L : List TS) (k : Nat) : rdL K p L (k + 1) = rdL K p L k ++ (if p (L.getD k z0).s then [(K, (k : Int))] else []) := by
  unfold rdL
  rw [List.range_succ, List.filterMap_append]
  congr 1
  simp only [List.filterMap_cons, List.filterMap_nil]
  cases hp : p (L.getD k z0).s <;> rfl
theorem rdL_le (K : Int) (p : Int → Bool) (L : List TS) (k : Nat) : (rdL K p L k).length ≤ k := by
  have := List.length_filterMap_le (fun i => if p (L.getD i z0).s then some (K, ((i : Nat) : Int)) else none) (List.range k)
  unfold rdL
  simpa using this
def pBeg (s : Int) : Bool := decide (s = 0 ∨ s = 2)
/-- The tasks that may be begun. -/
def ready (b : Bk) : List (Int × Int) := if chk b = true ∧ b.f = false then rdL 0 pBeg b.m b.m.length ++ (if dn b.m = true then rdL 1 pBeg b.r b.r.length else []) else []
def over (b : Bk) : Bool := chk b && (b.f || dn b.r)
def sumA (L : List TS) (k : Nat) : Int := ((L.take k).map TS.a).sum
def sumC (L : List TS) (k : Nat) : Int := ((L.take k).map TS.c).sum
theorem sumA_snoc (L : List TS) (k : Nat) (hk : k < L.length) : sumA L (k + 1) = sumA L k + (L.getD k z0).a := by
  unfold sumA; rw [take_snoc L k hk]; simp
theorem sumC_snoc (L : List TS) (k : Nat) (hk : k < L.length) : sumC L (k + 1) = sumC L k + (L.getD k z0).c := by
  unfold sumC; rw [take_snoc L k hk]; simp
theorem good_small {red : Bool} {t : Int} {x : TS} (h : good red t x = true) (ht : t ≤ 16) : 0 ≤ x.s ∧ x.s ≤ 3 ∧ 0 ≤ x.a ∧ x.a ≤ 17 ∧ 0 ≤ x.c ∧ x.c ≤ 16 := by
  have := good_iff.1 h
  omega
theorem sum_small {L : List TS} {red : Bool} {t : Int} (h : ∀ k, k < L.length → good red t (L.getD k z0) = true) (ht : t ≤ 16) : ∀ k, k ≤ L.length → 0 ≤ sumA L k ∧ sumA L k ≤ 17 * (k : Int) ∧ 0 ≤ sumC L k ∧ sumC L k ≤ 17 * (k : Int) := by
  intro k
  induction k with
  | zero => intro _; simp [sumA, sumC]
  | succ k ih =>
    intro hk
    have h1 := ih (by omega)
    have h2 := good_small (h k (by omega)) ht
    rw [sumA_snoc L k (by omega), sumC_snoc L k (by omega)]
    omega
def begunA (b : Bk) : Int := if chk b = true then sumA b.m b.m.length + sumA b.r b.r.length else 0
def begunC (b : Bk) : Int := if chk b = true then sumC b.m b.m.length + sumC b.r b.r.length else 0
/-- The tasks of a kind. -/
def lst (b : Bk) (K : Int) : List TS := if K = 0 then b.m else if K = 1 then b.r else []
/-- Is there such a task? -/
def thr (b : Bk) (K i : Int) : Bool := decide (0 ≤ i ∧ i < (lst b K).length)
/-- A task's state. -/
def tsk (b : Bk) (K i : Int) : TS := (lst b K).getD i.toNat z0
/-- The book with a task's state another one. -/
def put (b : Bk) (K i : Int) (x : TS) (f : Bool) : Bk := ⟨b.t, if K = 0 then b.m.set i.toNat x else b.m, if K = 0 then b.r else b.r.set i.toNat x, f⟩
def nob : Bk := ⟨0, [], [], false⟩
/-- Why nothing can be done with a task. -/
def refE (b : Bk) (K i : Int) : Int := if chk b = false then 190 else if thr b K i = false then 191 else 0
def bgnE (b : Bk) (K i : Int) : Int := if refE b K i ≠ 0 then refE b K i else if b.f = true ∨ pBeg (tsk b K i).s = false ∨ K = 1 ∧ dn b.m = false then 192 else 0
def bgnS (b : Bk) (K i : Int) : TS := ⟨1, (tsk b K i).a + (if (tsk b K i).s = 0 then 1 else 0), (tsk b K i).c⟩
def bgnB (b : Bk) (K i : Int) : Bk := if bgnE b K i = 0 then put b K i (bgnS b K i) b.f else nob
def bgnN (b : Bk) (K i : Int) : Int := if bgnE b K i = 0 then (bgnS b K i).a else 0
def bgnF (b : Bk) (K i : Int) : Bool := decide (bgnE b K i = 0 ∧ (tsk b K i).s = 0)
def endE (b : Bk) (K i : Int) : Int := if refE b K i ≠ 0 then refE b K i else if b.f = true ∨ (tsk b K i).s ≠ 1 then 192 else 0
def dneB (b : Bk) (K i : Int) : Bk := if endE b K i = 0 then put b K i ⟨3, (tsk b K i).a, (tsk b K i).c⟩ b.f else nob
/-- A task charged once more. -/
def chg (b : Bk) (K i : Int) : Bk := put b K i ⟨0, (tsk b K i).a, (tsk b K i).c + 1⟩ (decide ((tsk b K i).c + 1 = b.t))
def dieB (b : Bk) (K i : Int) : Bk := if endE b K i = 0 then chg b K i else nob
def blmE (b : Bk) (i j n : Int) : Int := if chk b = false then 190 else if thr b 1 i = false ∨ thr b 0 j = false then 191 else if n < 1 ∨ (tsk b 0 j).a < n then 3 else if b.f = true ∨ (tsk b 1 i).s ≠ 1 then 192 else 0
def hld (b : Bk) (i : Int) : Bk := put b 1 i ⟨2, (tsk b 1 i).a, (tsk b 1 i).c⟩ b.f
def blmC (b : Bk) (i j n : Int) : Bool := decide (blmE b i j n = 0 ∧ (tsk b 0 j).s = 3 ∧ n = (tsk b 0 j).a)
def blmB (b : Bk) (i j n : Int) : Bk := if blmE b i j n = 0 then (if blmC b i j n = true then chg (hld b i) 0 j else hld b i) else nob
/-- Of a book that has not failed none is charged Tries times. -/
theorem Ok.below {b : Bk} (h : Ok b) (hf : b.f = false) : (∀ k, k < b.m.length → (b.m.getD k z0).c < b.t) ∧ (∀ k, k < b.r.length → (b.r.getD k z0).c < b.t) := by
  have h0 : full b = 0 := by
    have h1 := h.full1
    have h2 : ¬ full b = 1 := fun e => by rw [h.f.2 e] at hf; cases hf
    omega
  unfold full at h0
  have e1 : cnt b.t b.m = 0 := by omega
  have e2 : cnt b.t b.r = 0 := by omega
  unfold cnt at e1 e2
  rw [List.countP_eq_zero] at e1 e2
  refine ⟨fun k hk => ?_, fun k hk => ?_⟩
  · have g := good_iff.1 (h.gm k hk)
    have := e1 (b.m.getD k z0) (by rw [List.getD_eq_getElem?_getD, List.getElem?_eq_getElem hk]; exact List.getElem_mem hk)
    simp only [decide_eq_true_eq] at this
    omega
  · have g := good_iff.1 (h.gr k hk)
    have := e2 (b.r.getD k z0) (by rw [List.getD_eq_getElem?_getD, List.getElem?_eq_getElem hk]; exact List.getElem_mem hk)
    simp only [decide_eq_true_eq] at this
    omega
end Go.Proofs.YtgpfabblmoffiaaDoor.Lg
