/-
  What Decode and Tokens answer, told apart; lists that are right.
-/
import Derived.Test.YtcchknpgkcmneaaLzWorks
import Derived.Test.YtcchknpgkcmneaaLzC8
import Derived.Test.YtcchknpgkcmneaaLzE4
namespace Go.Proofs.Ytcchknpgkcmneaa.Lz
open Go.ChangeShapes Go.WideShapes Go.ChangeAt Go.RowKit
open Go.Proofs.Ytcchknpgkcmneaa.Base Go.Proofs.Ytcchknpgkcmneaa.Nums
set_option linter.unusedVariables false
theorem good_lits (ts : List Tok) : ∀ h n, Good ts h n → ts.length + h ≤ n ∧ ∀ t, t ∈ ts → t.lit.length ≤ n := by
  induction ts with
  | nil => intro h n e; simp only [Good] at e; exact ⟨by simp; omega, fun t ht => by simp at ht⟩
  | cons t r ih =>
    intro h n e
    obtain ⟨h1, h2, h3⟩ := e
    obtain ⟨g1, g2⟩ := ih _ _ h3
    have ha := ok_adv t h n h2 h1
    refine ⟨by rw [List.length_cons]; omega, fun x hx => ?_⟩
    rcases List.mem_cons.1 hx with rfl | hx
    · omega
    · exact g2 x hx
/-- A list that is right lies so that it can be read. -/
theorem toks_trd {w : World} {base n c N : Nat} {a : Option Addr} {ps : List (Value × Tok)} {ts : List Tok} (h : OwnToks w base (.slice a n c) ps) (hp : ps.map (·.2) = ts) (hg : Good ts 0 N) (hN : N ≤ 65536) : TRd w a n ts := by
  obtain ⟨h1, h2⟩ := good_lits ts 0 N hg
  rw [← hp]
  have hl : ps.length = ts.length := by rw [← hp, List.length_map]
  exact h.trd (fun p hm => by have := h2 p.2 (by rw [← hp]; exact List.mem_map.2 ⟨p, hm, rfl⟩); omega) (by omega)
/-- What Decode and Tokens answer, told apart. -/
theorem dec_cases (bs : List (BitVec 8)) (n : Int) :
    ((n < 0 ∨ 65536 < n) ∧ decoded bs n = ([], 3) ∧ toked bs n = ([], 3)) ∨
    (∃ m : Nat, n = (m : Int) ∧ m ≤ 65536 ∧ decoded bs n = ([], 30) ∧ toked bs n = ([], 30)) ∨
    (∃ (m : Nat) (ts : List Tok), n = (m : Int) ∧ m ≤ 65536 ∧ read bs 0 m = (ts, 0) ∧ decoded bs n = (expand [] ts, 0) ∧ toked bs n = (ts, 0)) := by
  by_cases hn : n < 0 ∨ 65536 < n
  · left
    refine ⟨hn, ?_, ?_⟩
    · unfold decoded; rw [if_pos hn]
    · unfold toked; rw [if_pos hn]
  · obtain ⟨m, rfl⟩ := Int.eq_ofNat_of_zero_le (by omega : 0 ≤ n)
    have hm : m ≤ 65536 := by omega
    rcases read_err _ bs 0 m (Nat.le_refl _) hm with h | h
    · right; right
      refine ⟨m, (read bs 0 m).1, rfl, hm, Prod.ext rfl h, ?_, ?_⟩
      · unfold decoded; rw [if_neg hn, Int.toNat_natCast, if_pos h]
      · unfold toked; rw [if_neg hn, Int.toNat_natCast, if_pos h]
    · right; left
      refine ⟨m, rfl, hm, ?_, ?_⟩
      · unfold decoded; rw [if_neg hn, Int.toNat_natCast, if_neg (by omega), h]
      · unfold toked; rw [if_neg hn, Int.toNat_natCast, if_neg (by omega), h]
theorem decoded_err (bs : List (BitVec 8)) (m : Nat) (hm : m ≤ 65536) (h : (read bs 0 m).2 = 30) : decoded bs (m : Int) = ([], 30) := by
  unfold decoded; rw [if_neg (by omega), Int.toNat_natCast, if_neg (by omega), h]
theorem written_good (ts : List Tok) (n : Nat) (hn : n ≤ 65536) (h : Good ts 0 n) : written ts = (bytesOf ts, 0) := by
  unfold written; rw [good_measure ts 0 n hn h]; rfl
end Go.Proofs.Ytcchknpgkcmneaa.Lz
