/-
  parts.Check of a job.
-/
import Derived.Test.YtdpihfmbkimgpaaPaCheck
namespace Go.Proofs.Ytdpihfmbkimgpaa.Pa
open Go.ChangeShapes Go.WideShapes Go.ChangeAt Go.RowKit
open Go.Proofs.Ytdpihfmbkimgpaa.Base
set_option linter.unusedVariables false
/-- What else a job tells. -/
structure Jb where
  k : Int
  cb : Bool
  bu : Int
  fa : Int
  tr : Int
  b : Int
  r : Int
  t : Int
def Jb.val (j : Jb) (n : Int) (a : Option Addr) (l c : Nat) : Value := .agg #[.int .i64 j.k, .int .i64 n, .slice a l c, .bool j.cb, .int .i64 j.bu, .int .i64 j.fa, .int .i64 j.tr, .int .i64 j.b, .int .i64 j.r, .int .i64 j.t]
/-- Are these bounds of n parts? -/
def areB (ss : List ByteArray) (n : Int) : Bool := (decide ((ss.length : Int) = n - 1) && !anyLong ss) && risesB ss
set_option maxHeartbeats 1000000 in
theorem areBounds_any (a : Option Addr) (len cap : Nat) (ss : List ByteArray) (n : Int) (w : World) (hr : RdS w a len ss) (h1 : 1 ≤ n) (h2 : n ≤ 65535) :
    Calls Try.prog 36 #[.slice a len cap, .int .i64 n] w fun e w' => e = .returned (.bool (areB ss n)) ∧ Below w.heap.size w w' := by
  have hl := hr.2.1
  have HL := hide hr.1
  have HR := hide hr
  clear hr
  have h4 : (n - 1) = n - 1 := rfl
  go_enter Try.func36, Try.ntmps36
  by_cases he : (len : Int) = n - 1
  · have hb : ((len : Int) == n - 1) = true := by simpa using he
    have HE := hide he
    clear he
    go_wp2_with fail
    refine (containsFunc_any a len cap ss w HR.out).mono ?_
    rintro e w2 ⟨rfl, rfl⟩
    by_cases hc : anyLong ss = true
    · have HC := hide hc
      rw [HC.out]
      clear hc
      go_wp2_with fail
      go_ret
      exact ⟨ret_bool (by unfold areB; rw [HC.out]; simp), Below.refl _ _⟩
    · have HC : Hid (anyLong ss = false) := hide (by simpa using hc)
      rw [HC.out]
      clear hc
      go_wp2_with fail
      refine (isSorted_any a len cap ss w2 HR.out).mono ?_
      rintro e w3 ⟨rfl, hb3⟩
      have HB3 := hide hb3
      clear hb3
      go_wp2_with fail
      go_ret
      refine ⟨ret_bool ?_, HB3.out⟩
      unfold areB
      rw [HC.out, HL.out, HE.out]
      simp
  · have hb : ((len : Int) == n - 1) = false := by simpa using he
    have HE := hide he
    clear he
    go_wp2_with fail
    go_ret
    exact ⟨ret_bool (by unfold areB; rw [HL.out, decide_eq_false HE.out]; simp), Below.refl _ _⟩
/-- What Check tells. -/
def chk (ss : List ByteArray) (n : Int) : Nat := if isParts n then (if 0 < ss.length ∧ areB ss n = false then 140 else 0) else 3
theorem chk_range (ss : List ByteArray) (n : Int) : chk ss n = 0 ∨ chk ss n = 3 ∨ chk ss n = 140 := by
  unfold chk
  split
  · split <;> simp
  · simp
set_option maxHeartbeats 1000000 in
theorem check_any (j : Jb) (n : Int) (a : Option Addr) (len cap : Nat) (ss : List ByteArray) (w : World) (hr : RdS w a len ss) :
    Calls Try.prog 20 #[j.val n a len cap] w fun e w' => e = .returned (.int .i64 (chk ss n : Nat)) ∧ Below w.heap.size w w' := by
  have hl := hr.2.1
  have HL := hide hr.1
  have HR := hide hr
  clear hr
  unfold Jb.val
  go_enter Try.func20, Try.ntmps20
  go_wp2_with fail
  refine (isParts_any n _).mono ?_
  rintro e w2 ⟨rfl, rfl⟩
  by_cases hp : isParts n = true
  · have hn : 1 ≤ n ∧ n ≤ 65535 := by simpa [isParts] using hp
    obtain ⟨h1, h2⟩ := hn
    have HP := hide hp
    clear hp
    rw [HP.out]
    by_cases h0 : 0 < len
    · have h0i : (0 : Int) < (len : Int) := by omega
      go_wp2_with fail
      refine (areBounds_any a len cap ss n _ (HR.out.below ((Below.refl _ _).alloc (Nat.le_refl _) _)) h1 h2).mono ?_
      rintro e w3 ⟨rfl, hb⟩
      have HB := hide (below_trans ((Below.refl _ _).alloc (Nat.le_refl _) _) hb)
      clear hb
      by_cases hc : areB ss n = true
      · have HC := hide hc
        rw [HC.out]
        clear hc
        go_wp2_with fail
        go_ret
        exact ⟨ret_int (by unfold chk; rw [HP.out, HC.out]; simp), HB.out⟩
      · have HC : Hid (areB ss n = false) := hide (by simpa using hc)
        rw [HC.out]
        clear hc
        go_wp2_with fail
        go_ret
        exact ⟨ret_int (by unfold chk; rw [HP.out, HC.out, HL.out, if_pos rfl, if_pos ⟨h0, rfl⟩]; rfl), HB.out⟩
    · have h0i : ¬ (0 : Int) < (len : Int) := by omega
      go_wp2_with fail
      go_ret
      exact ⟨ret_int (by unfold chk; rw [HP.out, HL.out, if_pos rfl, if_neg (fun h => h0 h.1)]; rfl), (Below.refl _ _).alloc (Nat.le_refl _) _⟩
  · have HP : Hid (isParts n = false) := hide (by simpa using hp)
    clear hp
    rw [HP.out]
    go_wp2_with fail
    go_ret
    exact ⟨ret_int (by unfold chk; rw [HP.out]; rfl), (Below.refl _ _).alloc (Nat.le_refl _) _⟩
end Go.Proofs.Ytdpihfmbkimgpaa.Pa
