/-
  The items that are handed in, and whether they are beyond the bound.
-/
import Derived.Test.YtpmhcehheibjhaaNumsCur3
namespace Go.Proofs.Ytpmhcehheibjhaa.Curs
open Go.ChangeShapes Go.WideShapes Go.ChangeAt Go.RowKit
open Go.Proofs.Ytpmhcehheibjhaa.Base Go.Proofs.Ytpmhcehheibjhaa.Nums
set_option linter.unusedVariables false
/-- The items lie in memory as told. -/
def ItemsAt (w : World) (a : Option Addr) (len : Nat) (kd vv nn : Nat → Int) (ss : Nat → ByteArray) : Prop :=
  0 < len → ∃ b off, a = some ⟨b, off, none⟩ ∧ b < w.heap.size ∧ ∀ i, i < len → w.cell? ⟨b, off + i * 4, none⟩ = some (.int .i64 (kd i)) ∧ w.cell? ⟨b, off + i * 4 + 1, none⟩ = some (.int .i64 (vv i)) ∧ w.cell? ⟨b, off + i * 4 + 2, none⟩ = some (.int .i64 (nn i)) ∧ w.cell? ⟨b, off + i * 4 + 3, none⟩ = some (.string (ss i))
def tot (ss : Nat → ByteArray) : Nat → Nat
  | 0 => 0
  | i + 1 => tot ss i + 1 + (ss i).size
theorem tot_mono (ss : Nat → ByteArray) (i d : Nat) : tot ss i ≤ tot ss (i + d) := by
  induction d with
  | zero => exact Nat.le_refl _
  | succ d ih => show _ ≤ tot ss (i + d) + 1 + (ss (i + d)).size; omega
theorem tot_le (ss : Nat → ByteArray) (i j : Nat) (h : i ≤ j) : tot ss i ≤ tot ss j := by
  have := tot_mono ss i (j - i)
  rwa [show i + (j - i) = j by omega] at this
set_option maxHeartbeats 1000000 in
set_option maxRecDepth 100000 in
theorem beyond_any (a : Option Addr) (len cap : Nat) (kd vv nn : Nat → Int) (ss : Nat → ByteArray) (w : World) (h : ItemsAt w a len kd vv nn ss) (hs : ∀ i, i < len → (ss i).size ≤ 140737488351232) (hm : len ≤ 140737488351232) :
    Calls Try.prog 14 #[.slice a len cap] w fun e w' => e = .returned (.bool (decide (2147483647 < tot ss len))) ∧ w' = w := by
  have H := hide h
  have HS := hide hs
  clear h hs
  go_enter Try.func14, Try.ntmps14
  go_wp2
  go_loopw [3, 4] (fun n i wr => ∃ k T : Nat, k ≤ len ∧ i = .int .i64 (k : Int) ∧ n = .int .i64 (T : Int) ∧ Hid (T = tot ss k) ∧ T ≤ 2147483647 ∧ wr = w) (fun _ i _ => len - (intOf i).toNat)
  case atStart => exact ⟨0, 0, Nat.zero_le _, rfl, rfl, rfl, by omega, rfl⟩
  case round =>
    obtain ⟨k, T, hk, rfl, rfl, HT, hT, rfl⟩ := hrel
    by_cases hlt : k < len
    · obtain ⟨b, off, rfl, hb, hc⟩ := H.out (by omega)
      obtain ⟨_, _, _, c2⟩ := hc k hlt
      have hl := HS.out k hlt
      clear hc
      have HN : Hid (tot ss (k + 1) = T + 1 + (ss k).size) := by show tot ss k + 1 + (ss k).size = _; rw [← HT.out]
      generalize ss k = SS at c2 hl HN
      generalize hL : SS.size = L at hl HN
      have hki : (k : Int) < (len : Int) := by omega
      by_cases hbig : 2147483647 < T + 1 + L
      · have hbi : (2147483647 : Int) < (T : Int) + 1 + (L : Int) := by omega
        go_wp2
        go_ret
        refine ⟨ret_bool ?_, rfl⟩
        symm; rw [decide_eq_true_iff]
        have := tot_le ss (k + 1) len (by omega)
        have := HN.out
        omega
      · have hbi : ¬ (2147483647 : Int) < (T : Int) + 1 + (L : Int) := by omega
        go_wp2
        go_roundw
        case rel => exact ⟨k + 1, T + 1 + L, by omega, by go_num, by go_num, HN.out.symm, by omega, by first | trivial | rfl⟩
        case measure => simp [intOf]; omega
    · have hk' : k = len := by omega
      subst hk'
      go_wp2
      go_ret
      refine ⟨ret_bool ?_, rfl⟩
      symm; rw [decide_eq_false_iff_not, ← HT.out]; omega
end Go.Proofs.Ytpmhcehheibjhaa.Curs
