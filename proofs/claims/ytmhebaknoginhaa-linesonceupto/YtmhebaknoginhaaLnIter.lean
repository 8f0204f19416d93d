/-
  All: the iterator of a split's lines.
-/
import Derived.Test.YtmhebaknoginhaaLnTrim
import Derived.Test.YtmhebaknoginhaaStClone
import Derived.Test.YtmhebaknoginhaaRgLaw
import Derived.Shelf.Abstract
import Derived.Shelf.RegionOpen
import Derived.WalkKit
import Derived.OwnWalkIn
import Derived.TacticsInMore
import Derived.LoopNIn
import Derived.LoopIn
namespace Go.Proofs.Ytmhebaknoginhaa.Ln
open Go.ChangeShapes Go.WideShapes Go.ChangeAt Go.RowKit Go.Shelf
open Go.Proofs.Ytmhebaknoginhaa.Base Go.Proofs.Ytmhebaknoginhaa.Rg
set_option linter.unusedVariables false
attribute [local go_sem] Oper.semAt_some
theorem cell2 {W : World} {g : Nat} {u v : Value} {t : TypeId} (h : W.heap[g]? = some (.cells #[u, v] t)) : W.cell? ⟨g, 0, none⟩ = some u ∧ W.cell? ⟨g, 1, none⟩ = some v := by
  constructor <;> simp [World.cell?, h]
theorem all_any (off : Int) (T : ByteArray) (w : World) :
    Calls Try.prog 10 #[.agg #[.int .i64 off, .string T]] w fun e w' => e = .returned (.func (.func 25) #[] #[.pointer (some ⟨w.heap.size, 0, none⟩)]) ∧ w' = w.alloc (.cells #[.int .i64 off, .string T] 23) := by
  go_enter Try.func10, Try.ntmps10
  go_wp2_with fail
  go_ret
  exact ⟨rfl, rfl⟩
/-- What All gives of the line number k. -/
def given (off : Int) (T : ByteArray) (k : Nat) : Array Value := #[.int .i64 (wrap64 (off + (pl T k : Nat))), .string (ln T k)]
set_option maxHeartbeats 2000000 in
set_option maxRecDepth 100000 in
theorem all_iter (g : Nat) (off : Int) (T : ByteArray) (hs : T.size ≤ 281474976710656) : Iter Try.prog 25 #[.pointer (some ⟨g, 0, none⟩)] (cnt T) (given off T) (fun W W' => Below W.heap.size W W') (fun W => W.heap[g]? = some (.cells #[.int .i64 off, .string T] 23)) := by
  intro l J Jx W hJ hJx hG hY h0
  have HJ := hide hJ
  have HG := hide hG
  have HY := hide hY
  clear hJ hG hY hJx
  refine (callsIn_wide (n := 10)).1 (callsIn_of_wp Try.func25 rfl trivial ?_ rfl)
  simp only [Try.ntmps25, List.size_toArray, List.length_cons, List.length_nil, Nat.reduceAdd, Nat.reduceSub, Array.replicate_succ, Array.replicate_zero, List.push_toArray, List.append_toArray, List.nil_append, List.cons_append]
  gi_wp2
  gi_loopw [3] (fun p wr => ∃ k, k ≤ cnt T ∧ p = .int .i64 (pl T k : Nat) ∧ J k wr) (fun p _ => T.size - (intOf p).toNat)
  case atStart => exact ⟨0, Nat.zero_le _, rfl, h0⟩
  case round =>
    obtain ⟨k, hk, rfl, hJk⟩ := hrel
    have HJK := hide hJk
    have HC := hide (HG.out k wr hJk)
    obtain ⟨c0, c1⟩ := cell2 HC.out
    clear hJk
    by_cases hlt : k < cnt T
    · have p1 := pl_lt T k hlt
      have p2 := pl_step T k hlt
      have HF : Hid (∀ V, Calls Try.prog 26 #[.string (T.extract (pl T k) T.size)] V fun e w' => e = .returned (.int .i64 ((pl T (k + 1) - pl T k : Nat) : Int)) ∧ Below V.heap.size V w') := fun V => by
        have h := firstLine_any (T.extract (pl T k) T.size) V (by rw [ByteArray.size_extract]; omega)
        rwa [nx_extract T (pl T k) T.size 0 (Nat.le_refl _) (by omega) (by rw [Nat.add_zero, ← pl_succ]; exact p2.2), Nat.add_zero, ← pl_succ] at h
      have HT : Hid (∀ V, Calls Try.prog 28 #[.string (T.extract (pl T k) (pl T (k + 1))), .string ⟨#[10]⟩] V fun e w' => e = .returned (.string (ln T k)) ∧ w' = V) := fun V => by
        have h := trim_any (T.extract (pl T k) (pl T (k + 1))) V (by rw [ByteArray.size_extract]; omega)
        rwa [trim_line T k hlt] at h
      have HL : Hid (∀ V, Calls Try.prog 27 #[.string (ln T k)] V fun e w' => e = .returned (.string (ln T k)) ∧ Below V.heap.size V w') := fun V => by
        refine St.clone_any (ln T k) V ?_
        rw [ln_size T k hlt]
        have := en_spec T k hlt
        omega
      have HYK : Hid (∀ V, J k V → YieldAt Fence.wide 9 Try.prog l #[.int .i64 (wrap64 (off + (pl T k : Nat))), .string (ln T k)] V fun e W' => (e = .returned (.bool true) ∧ J (k + 1) W') ∨ (e = .returned (.bool false) ∧ Jx k W')) := fun V hV => HY.out k V hlt hV
      generalize ln T k = L at HT HL HYK
      obtain ⟨p, hp⟩ : ∃ p, pl T k = p := ⟨_, rfl⟩
      obtain ⟨q, hq⟩ : ∃ q, pl T (k + 1) = q := ⟨_, rfl⟩
      rw [hp] at p1 p2 HF HT HYK ⊢
      rw [hq] at p2 HF HT
      have HQ := hide hq
      obtain ⟨p2, p3⟩ := p2
      obtain ⟨d, hd⟩ : ∃ d, q - p = d := ⟨_, rfl⟩
      rw [hd] at HF
      have hdi : (p : Int) + (d : Int) = (q : Int) := by omega
      have hpi : (p : Int) < (T.size : Int) := by omega
      have hpl : (p : Int) ≤ (T.size : Int) := by omega
      have hpq : (p : Int) ≤ (q : Int) := by omega
      have hql : (q : Int) ≤ (T.size : Int) := by omega
      clear hq hp hd
      gi_wp2_with (first
        | (refine ⟨trivial, ?_⟩; gi_at_call 26; refine (callsIn_wide.2 (HF.out _)).mono ?_; rintro e w1 ⟨rfl, hb1⟩; have HJ1 := hide (HJ.out _ _ _ HJK.out hb1); obtain ⟨c01, c11⟩ := cell2 (HG.out _ _ HJ1.out); clear hb1)
        | (refine ⟨trivial, ?_⟩; gi_at_call 28; refine (callsIn_wide.2 (HT.out _)).mono ?_; rintro e w2 ⟨rfl, e2⟩; subst e2)
        | (refine ⟨trivial, ?_⟩; gi_at_call 27; refine (callsIn_wide.2 (HL.out _)).mono ?_; rintro e w3 ⟨rfl, hb3⟩; have HJ3 := hide (HJ.out _ _ _ HJ1.out hb3); obtain ⟨c03, c13⟩ := cell2 (HG.out _ _ HJ3.out); obtain ⟨fn, tmps, assign, body, hy, hR⟩ := HYK.out w3 HJ3.out; clear hb3))
      refine hR.mono ?_
      rintro e W4 (⟨rfl, hJ4⟩ | ⟨rfl, hJx4⟩)
      · gi_wp2
        go_roundw
        case rel => exact ⟨k + 1, hlt, by rw [HQ.out], hJ4⟩
        case measure => simp [intOf]; omega
      · gi_wp2
        refine bodyPost_ret (results_none rfl _ _ _) rfl ?_
        exact ⟨⟨_, rfl⟩, .inr ⟨k, hlt, hJx4⟩⟩
    · obtain rfl : cnt T = k := by omega
      rw [pl_cnt]
      gi_wp2
      go_end0
      exact ⟨⟨_, rfl⟩, .inl HJK.out⟩
end Go.Proofs.Ytmhebaknoginhaa.Ln
