/-
  An entry of what goes wrong, and whether it may be: the program's answer and the document's.
-/
import Derived.Test.YtbmbhcjocgbbpaaBase
namespace Go.Proofs.Ytbmbhcjocgbbpaa.Fa
open Go.ChangeShapes Go.WideShapes Go.ChangeAt Go.RowKit
open Go.Proofs.Ytbmbhcjocgbbpaa.Base
set_option linter.unusedVariables false
/-- An entry: Kind, TaskKind, Task, Attempt, Moment, Reader, At, Mask. -/
structure Flt where
  k : Int
  j : Int
  t : Int
  a : Int
  m : Int
  r : Int
  p : Int
  q : BitVec 32
def Flt.val (f : Flt) : Value := .agg #[.int .i64 f.k, .int .i64 f.j, .int .i64 f.t, .int .i64 f.a, .int .i64 f.m, .int .i64 f.r, .int .i64 f.p, .int .u32 (f.q.toNat : Int)]
def isRd (x : Int) : Bool := decide (0 ≤ x ∧ x < 65535)
def isMp (k x : Int) : Bool := decide (k = 0 ∧ 0 ≤ x ∧ x < 256)
def isTk (k x : Int) : Bool := isMp k x || (decide (k = 1) && isRd x)
def isMo (m r : Int) : Bool := decide (m = 2 ∧ 0 ≤ r ∧ r < 65535 ∨ (m = 0 ∨ m = 1) ∧ r = 0)
def isNm (m r : Int) : Bool := decide (m = 0 ∧ r = 0)
def isPl (p : Int) : Bool := decide (0 ≤ p)
def isCh (p : Int) : Bool := decide (-268435456 ≤ p ∧ p ≤ 4096 ∧ p ≠ 0)
def isOd (q : BitVec 32) : Bool := decide (q.toNat % 2 = 1)
def isNk (q : BitVec 32) : Bool := decide (q.toNat = 0)
/-- May the entry be? -/
def may (f : Flt) : Bool := decide (1 ≤ f.a ∧ f.a ≤ 16) && ((decide (f.k = 0) && (isTk f.j f.t && isNm f.m f.r && isPl f.p && isNk f.q)) || (decide (f.k = 1) && (isMp f.j f.t && isMo f.m f.r && isPl f.p && isOd f.q)) || (decide (f.k = 2) && (isMp f.j f.t && isMo f.m f.r && isCh f.p && isNk f.q)))
theorem isReader_any (x : Int) (w : World) : Calls Try.prog 64 #[.int .i64 x] w fun e w' => e = .returned (.bool (isRd x)) ∧ w' = w := by
  go_enter Try.func64, Try.ntmps64
  by_cases h1 : 0 ≤ x <;> by_cases h2 : x < 65535 <;>
    (go_wp2_with fail
     go_ret
     exact ⟨ret_bool (by simp [isRd, h1, h2]), rfl⟩)
theorem isMapTask_any (k x : Int) (w : World) : Calls Try.prog 53 #[.int .i64 k, .int .i64 x] w fun e w' => e = .returned (.bool (isMp k x)) ∧ w' = w := by
  by_cases h0 : k = 0
  · subst h0
    go_enter Try.func53, Try.ntmps53
    by_cases h1 : 0 ≤ x <;> by_cases h2 : x < 256 <;>
      (go_wp2_with fail
       go_ret
       exact ⟨ret_bool (by simp [isMp, h1, h2]), rfl⟩)
  · have h0' : (k == 0) = false := by simpa using h0
    go_enter Try.func53, Try.ntmps53
    go_wp2_with fail
    go_ret
    exact ⟨ret_bool (by simp [isMp, h0]), rfl⟩
theorem isTask_any (k x : Int) (w : World) : Calls Try.prog 49 #[.int .i64 k, .int .i64 x] w fun e w' => e = .returned (.bool (isTk k x)) ∧ w' = w := by
  go_enter Try.func49, Try.ntmps49
  go_wp2_with fail
  refine (isMapTask_any k x w).mono ?_
  rintro e w1 ⟨rfl, rfl⟩
  by_cases h : isMp k x = true
  · have H := hide h
    rw [h]
    clear h
    go_wp2_with fail
    go_ret
    exact ⟨ret_bool (by simp [isTk, H.out]), rfl⟩
  · have H : Hid (isMp k x = false) := by show _ = _; simpa using h
    rw [H.out]
    clear h
    by_cases h1 : k = 1
    · subst h1
      go_wp2_with fail
      refine (isReader_any x w1).mono ?_
      rintro e w2 ⟨rfl, rfl⟩
      go_wp2_with fail
      go_ret
      exact ⟨ret_bool (by simp [isTk, H.out]), rfl⟩
    · have h1' : (k == 1) = false := by simpa using h1
      go_wp2_with fail
      go_ret
      exact ⟨ret_bool (by simp [isTk, H.out, h1]), rfl⟩
theorem isMoment_any (m r : Int) (w : World) : Calls Try.prog 54 #[.int .i64 m, .int .i64 r] w fun e w' => e = .returned (.bool (isMo m r)) ∧ w' = w := by
  by_cases h0 : m = 2
  · subst h0
    go_enter Try.func54, Try.ntmps54
    go_wp2_with fail
    refine (isReader_any r w).mono ?_
    rintro e w2 ⟨rfl, rfl⟩
    go_wp2_with fail
    go_ret
    exact ⟨ret_bool (by simp [isMo, isRd]), rfl⟩
  · have h0' : (m == 2) = false := by simpa using h0
    by_cases h1 : m = 0
    · subst h1
      go_enter Try.func54, Try.ntmps54
      by_cases h2 : r = 0
      · subst h2
        go_wp2_with fail
        go_ret
        exact ⟨ret_bool (by simp [isMo]), rfl⟩
      · have h2' : (r == 0) = false := by simpa using h2
        go_wp2_with fail
        go_ret
        exact ⟨ret_bool (by simp [isMo, h2]), rfl⟩
    · have h1' : (m == 0) = false := by simpa using h1
      by_cases h3 : m = 1
      · subst h3
        go_enter Try.func54, Try.ntmps54
        by_cases h2 : r = 0
        · subst h2
          go_wp2_with fail
          go_ret
          exact ⟨ret_bool (by simp [isMo]), rfl⟩
        · have h2' : (r == 0) = false := by simpa using h2
          go_wp2_with fail
          go_ret
          exact ⟨ret_bool (by simp [isMo, h2]), rfl⟩
      · have h3' : (m == 1) = false := by simpa using h3
        go_enter Try.func54, Try.ntmps54
        go_wp2_with fail
        go_ret
        exact ⟨ret_bool (by simp [isMo, h0, h1, h3]), rfl⟩
theorem isNoMoment_any (m r : Int) (w : World) : Calls Try.prog 50 #[.int .i64 m, .int .i64 r] w fun e w' => e = .returned (.bool (isNm m r)) ∧ w' = w := by
  by_cases h1 : m = 0
  · subst h1
    go_enter Try.func50, Try.ntmps50
    by_cases h2 : r = 0
    · subst h2
      go_wp2_with fail
      go_ret
      exact ⟨ret_bool (by simp [isNm]), rfl⟩
    · have h2' : (r == 0) = false := by simpa using h2
      go_wp2_with fail
      go_ret
      exact ⟨ret_bool (by simp [isNm, h2]), rfl⟩
  · have h1' : (m == 0) = false := by simpa using h1
    go_enter Try.func50, Try.ntmps50
    go_wp2_with fail
    go_ret
    exact ⟨ret_bool (by simp [isNm, h1]), rfl⟩
theorem isPlace_any (p : Int) (w : World) : Calls Try.prog 51 #[.int .i64 p] w fun e w' => e = .returned (.bool (isPl p)) ∧ w' = w := by
  go_enter Try.func51, Try.ntmps51
  by_cases h1 : 0 ≤ p <;>
    (go_wp2_with fail
     go_ret
     exact ⟨ret_bool (by simp [isPl, h1]), rfl⟩)
theorem isChange_any (p : Int) (w : World) : Calls Try.prog 56 #[.int .i64 p] w fun e w' => e = .returned (.bool (isCh p)) ∧ w' = w := by
  by_cases h0 : p = 0
  · subst h0
    go_enter Try.func56, Try.ntmps56
    go_wp2_with fail
    go_ret
    exact ⟨ret_bool (by simp [isCh]), rfl⟩
  · have h0' : (p == 0) = false := by simpa using h0
    go_enter Try.func56, Try.ntmps56
    by_cases h1 : -268435456 ≤ p <;> by_cases h2 : p ≤ 4096 <;>
      (go_wp2_with fail
       go_ret
       exact ⟨ret_bool (by simp [isCh, h1, h2, h0]), rfl⟩)
theorem isOdd_any (q : BitVec 32) (w : World) : Calls Try.prog 55 #[.int .u32 (q.toNat : Int)] w fun e w' => e = .returned (.bool (isOd q)) ∧ w' = w := by
  have hq := q.isLt
  have HE : Hid (isOd q = decide (q.toNat % 2 = 1)) := rfl
  generalize isOd q = b at HE
  generalize q.toNat = n at hq HE
  have hn : n ≤ 4294967295 := by omega
  clear hq
  go_enter Try.func55, Try.ntmps55
  go_wp2_with fail
  go_ret
  exact ⟨ret_bool (by rw [HE.out, Bool.eq_iff_iff]; simp; omega), rfl⟩
theorem isNoMask_any (q : BitVec 32) (w : World) : Calls Try.prog 52 #[.int .u32 (q.toNat : Int)] w fun e w' => e = .returned (.bool (isNk q)) ∧ w' = w := by
  have HE : Hid (isNk q = decide (q.toNat = 0)) := rfl
  generalize isNk q = b at HE
  generalize q.toNat = n at HE
  go_enter Try.func52, Try.ntmps52
  go_wp2_with fail
  go_ret
  exact ⟨ret_bool (by rw [HE.out, Bool.eq_iff_iff]; simp), rfl⟩
end Go.Proofs.Ytbmbhcjocgbbpaa.Fa
