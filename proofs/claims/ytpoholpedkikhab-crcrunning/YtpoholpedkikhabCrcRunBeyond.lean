/-
  The acts that are handed in, and whether they are beyond the bound.
-/
import Derived.Test.YtpoholpedkikhabCrcRunSt
namespace Go.Proofs.Ytpoholpedkikhab.Run
open Go.ChangeShapes Go.WideShapes Go.ChangeAt Go.RowKit
open Go.Proofs.Ytpoholpedkikhab.Crc
set_option linter.unusedVariables false
/-- The acts lie in memory as told. -/
def ActsAt (w : World) (a : Option Addr) (len : Nat) (op who : Nat → Int) (sa : Nat → Option Addr) (sl sc : Nat → Nat) : Prop :=
  0 < len → ∃ b off, a = some ⟨b, off, none⟩ ∧ b < w.heap.size ∧ ∀ i, i < len → w.cell? ⟨b, off + i * 3, none⟩ = some (.int .i64 (op i)) ∧ w.cell? ⟨b, off + i * 3 + 1, none⟩ = some (.int .i64 (who i)) ∧ w.cell? ⟨b, off + i * 3 + 2, none⟩ = some (.slice (sa i) (sl i) (sc i))
def tot (sl : Nat → Nat) : Nat → Nat
  | 0 => 0
  | i + 1 => tot sl i + 1 + sl i
theorem tot_mono (sl : Nat → Nat) (i d : Nat) : tot sl i ≤ tot sl (i + d) := by
  induction d with
  | zero => exact Nat.le_refl _
  | succ d ih => show _ ≤ tot sl (i + d) + 1 + sl (i + d); omega
theorem tot_le (sl : Nat → Nat) (i j : Nat) (h : i ≤ j) : tot sl i ≤ tot sl j := by
  have := tot_mono sl i (j - i)
  rwa [show i + (j - i) = j by omega] at this
set_option maxHeartbeats 1000000 in
set_option maxRecDepth 100000 in
theorem beyond_any (a : Option Addr) (len cap : Nat) (op who : Nat → Int) (sa : Nat → Option Addr) (sl sc : Nat → Nat) (w : World) (h : ActsAt w a len op who sa sl sc) (hs : ∀ i, i < len → sl i ≤ 140737488351232) (hm : len ≤ 140737488351232) :
    Calls Try.prog 31 #[.slice a len cap] w fun e w' => e = .returned (.bool (decide (2147483647 < tot sl len))) ∧ w' = w := by
  have H := hide h
  have HS := hide hs
  clear h hs
  go_enter Try.func31, Try.ntmps31
  go_wp2
  go_loopw [3, 4] (fun n i wr => ∃ k T : Nat, k ≤ len ∧ i = .int .i64 (k : Int) ∧ n = .int .i64 (T : Int) ∧ Hid (T = tot sl k) ∧ T ≤ 2147483647 ∧ wr = w) (fun _ i _ => len - (intOf i).toNat)
  case atStart => exact ⟨0, 0, Nat.zero_le _, rfl, rfl, rfl, by omega, rfl⟩
  case round =>
    obtain ⟨k, T, hk, rfl, rfl, HT, hT, rfl⟩ := hrel
    by_cases hlt : k < len
    · obtain ⟨b, off, rfl, hb, hc⟩ := H.out (by omega)
      obtain ⟨_, _, c2⟩ := hc k hlt
      have hl := HS.out k hlt
      clear hc
      have HN : Hid (tot sl (k + 1) = T + 1 + sl k) := by show tot sl k + 1 + sl k = _; rw [← HT.out]
      generalize sl k = L at c2 hl HN
      have hki : (k : Int) < (len : Int) := by omega
      by_cases hbig : 2147483647 < T + 1 + L
      · have hbi : (2147483647 : Int) < (T : Int) + 1 + (L : Int) := by omega
        go_wp2
        go_ret
        refine ⟨Crc.ret_bool ?_, rfl⟩
        symm; rw [decide_eq_true_iff]
        have := tot_le sl (k + 1) len (by omega)
        have := HN.out
        omega
      · have hbi : ¬ (2147483647 : Int) < (T : Int) + 1 + (L : Int) := by omega
        go_wp2
        go_roundw
        case rel => exact ⟨k + 1, T + 1 + L, by omega, by go_num, by go_num, HN.out.symm, by omega, by first | trivial | rfl⟩
        case measure => simp [intOf]; omega
    · have hk' : k = len := by omega
      subst hk'
      go_wp2
      go_ret
      refine ⟨Crc.ret_bool ?_, rfl⟩
      symm; rw [decide_eq_false_iff_not, ← HT.out]; omega
end Go.Proofs.Ytpoholpedkikhab.Run
