/-
  The document's total and Combine; the statements' helpers on texts.
-/
import Derived.Test.YtficnlglofgekaaDoorJcNums
namespace Go.Proofs.YtficnlglofgekaaDoor.Jb
open Go.ChangeShapes Go.WideShapes Go.ChangeAt Go.RowKit
open Go.Lib hiding intOf
open Go.Proofs.YtficnlglofgekaaDoor.Base
open Go.Proofs.YtficnlglofgekaaDoor.Pa (OwnS RdS)
set_option linter.unusedVariables false
set_option maxHeartbeats 2000000 in
set_option maxRecDepth 100000 in
theorem rtotal_any (a : Option Addr) (n c : Nat) (ss : List ByteArray) (w : World) (hr : RdS w a n ss) (hn : n ≤ 8796093022000) (hz : ∀ s ∈ ss, s.size ≤ 1099511627776) :
    Calls Tryd.prog 33 #[.slice a n c] w fun e w' => e = .returned (.string (dec (totalL ss))) ∧ w' = w := by
  have HR := hide hr
  have HZ := hide hz
  have HN := hide hr.1
  clear hr hz
  go_enter Tryd.func33, Tryd.ntmps33
  go_wp2_with fail
  go_loopw [3, 4, 5, 6] (fun s3 s4 s5 s6 wr => ∃ (i : Nat) (t : Int) (y5 y6 : Value), i ≤ n ∧ y5 = s5 ∧ y6 = s6 ∧ .int .i64 t = s3 ∧ .int .i64 (i : Int) = s4 ∧ Hid (totalL (ss.take i) = t) ∧ wr = w) (fun _ s4 _ _ _ => n - (intOf s4).toNat)
  case atStart => exact ⟨0, 0, _, _, by omega, rfl, rfl, rfl, rfl, rfl, rfl⟩
  case round =>
    obtain ⟨i, t, y5, y6, hi, rfl, rfl, rfl, rfl, HS, rfl⟩ := hrel
    by_cases hin : i < n
    · have hii : (i : Int) < (n : Int) := by omega
      have hi0 : (0 : Int) ≤ (i : Int) := by omega
      have hls : i < ss.length := by rw [HN.out]; exact hin
      obtain ⟨b, off, rfl, hbl, hbc⟩ := HR.out.2.2.2 (by omega)
      have hcell := hbc i hin
      have HT := hide (takeS ss i hls)
      have HZZ := hide (HZ.out _ (Pa.getS_mem hls))
      generalize ss.getD i ⟨#[]⟩ = z at hcell HT HZZ
      have HM := hide (fun W => rnumber_any z W HZZ.out)
      obtain ⟨v, hv⟩ : ∃ v, (num z.data.toList).getD 0 = v := ⟨_, rfl⟩
      obtain ⟨k, hk⟩ : ∃ k, (num z.data.toList).isSome = k := ⟨_, rfl⟩
      have HV : Hid (numV z = .tuple #[.int .i64 v, .bool k]) := by show _ = _; unfold numV; rw [hv, hk]
      obtain ⟨r, hrr⟩ : ∃ r, wrap64 (t + v) = r := ⟨_, rfl⟩
      have HS2 : Hid (totalL (ss.take (i + 1)) = r) := by show _ = _; rw [HT.out, totalL_snoc, HS.out, hv]; exact hrr
      rw [HV.out] at HM
      clear hbc hv hk
      go_wp2_with (go_at_call 28; refine (HM.out _).mono ?_; rintro e w1 ⟨rfl, hq⟩; obtain rfl := hq.symm)
      go_roundw
      case rel => exact ⟨i + 1, r, _, _, by omega, rfl, rfl, by first | rfl | rw [hrr], by go_num, HS2.out, by first | rfl | trivial⟩
      case measure => (simp [intOf] <;> omega)
    · have hii : ¬ (i : Int) < (n : Int) := by omega
      have hie : i = n := by omega
      subst hie
      have HE : Hid (totalL ss = t) := by have h := HS.out; rw [List.take_of_length_le (by rw [HN.out]; exact Nat.le_refl _)] at h; exact h
      have HI : Hid (In64 t) := by rw [← HE.out]; exact sumL_in _
      go_wp2_with (go_at_call 25; refine (decimal_any t HI.out _).mono ?_; rintro e w2 ⟨rfl, hq⟩; obtain rfl := hq.symm)
      go_ret
      rw [HE.out]
      exact ⟨rfl, rfl⟩
set_option maxHeartbeats 1000000 in
theorem sameTexts_eq (a b : Option Addr) (la ca lb cb : Nat) (xs : List ByteArray) (w : World) (hx : RdS w a la xs) (hy : RdS w b lb xs) :
    Calls Tryd.prog 19 #[.slice a la ca, .slice b lb cb] w fun e w' => e = .returned (.bool true) ∧ Below w.heap.size w w' := by
  have hll : la = lb := by have h1 := hx.1; have h2 := hy.1; omega
  subst hll
  have hl := hx.2.1
  have HX := hide hx
  have HY := hide hy
  have he : ((la : Int) != (la : Int)) = false := by simp
  clear hx hy
  go_enter Tryd.func19, Tryd.ntmps19
  go_wp2_with fail
  go_loopw [5] (fun i wr => ∃ k : Nat, k ≤ la ∧ i = .int .i64 (k : Int) ∧ Hid (Below w.heap.size w wr)) (fun i _ => la - (intOf i).toNat)
  case atStart => exact ⟨0, Nat.zero_le _, rfl, Below.refl _ _⟩
  case round =>
    obtain ⟨k, hk, rfl, HB⟩ := hrel
    by_cases hlt : k < la
    · have hki : (k : Int) < (la : Int) := by omega
      obtain ⟨b1, o1, rfl, _, hc1⟩ := (HX.out.below HB.out).2.2.2 (by omega)
      obtain ⟨b2, o2, rfl, _, hc2⟩ := (HY.out.below HB.out).2.2.2 (by omega)
      have g1 := hc1 k hlt
      have g2 := hc2 k hlt
      generalize xs.getD k ⟨#[]⟩ = s at g1 g2
      have hse : (s.toList == s.toList) = true := by simp
      clear hc1 hc2
      go_wp2_with fail
      first | (go_quiet (fail); go_wp2_with fail) | skip
      go_roundw
      case rel => exact ⟨k + 1, by omega, by go_num, by first | exact below_trans HB.out (below_drewN' _ _ _) | exact HB | exact below_trans HB.out (below_drewN' (Below.refl _ _) _)⟩
      case measure => (simp [intOf] <;> omega)
    · have hkl : k = la := by omega
      subst hkl
      have hki : ¬ (k : Int) < (k : Int) := by omega
      go_wp2_with fail
      go_ret
      exact ⟨rfl, HB.out⟩
end Go.Proofs.YtficnlglofgekaaDoor.Jb
