/-
  LinesBack: the lines, each with a line feed behind it, are the text, or the text and a line feed.
-/
import Derived.Test.YtckfjhgnmegbhaaLnWorks
import Derived.Test.YtckfjhgnmegbhaaLnLines
namespace Go.Proofs.Ytckfjhgnmegbhaa.Ln
open Go.ChangeShapes Go.WideShapes Go.ChangeAt Go.RowKit
open Go.Proofs.Ytckfjhgnmegbhaa.Base Go.Proofs.Ytckfjhgnmegbhaa.Rf
set_option linter.unusedVariables false
set_option maxHeartbeats 4000000 in
set_option maxRecDepth 100000 in
theorem backWalk (T : ByteArray) (w : World) (hs : T.size ≤ 1099511627776) :
    Calls Try.prog 5 #[.string T] w fun e w' => e = .returned (.bool true) ∧ Below w.heap.size w w' := by
  have hcl := cnt_le T
  have HL := hide (lines_any T w hs)
  have HWK := hide works_any
  have hsi : (T.size : Int) ≤ 1099511627776 := by omega
  go_enter Try.func5, Try.ntmps5
  go_wp2_with (go_at_call 11; refine HL.out.mono ?_; rintro e w1 ⟨va, rfl, ho1, hb1⟩; have HO1 := hide (owns_ownf ho1); obtain ⟨xa, xc, e1, _, _, _⟩ := HO1.out.shape; subst e1; have HB1 := hide hb1; clear ho1 hb1)
  go_loopw [4, 5] (fun at_ i wr => ∃ k : Nat, k ≤ cnt T ∧ i = .int .i64 (k : Int) ∧ at_ = .int .i64 (pl T k : Nat) ∧ Hid (Below w1.heap.size w1 wr)) (fun _ i _ => cnt T - (intOf i).toNat)
  case atStart => exact ⟨0, Nat.zero_le _, rfl, rfl, Below.refl _ _⟩
  case round =>
    obtain ⟨k, hk, rfl, rfl, HB⟩ := hrel
    by_cases hlt : k < cnt T
    · have hki : (k : Int) < (cnt T : Int) := by omega
      obtain ⟨g, c, hv, _, _, hgl⟩ := HO1.out.has (by omega)
      simp only [Value.slice.injEq] at hv
      obtain ⟨rfl, _, rfl⟩ := hv
      have HCL : Hid (∀ V, Below wr.heap.size wr V → V.cell? ⟨g, k, none⟩ = some (.string (ln T k))) := fun V hV => by
        have h := (HO1.out.below (below_trans HB.out hV)).cellAt (fun _ => rfl) k 0 (.string (ln T (0 + k))) hlt (by omega) rfl
        rwa [Nat.mul_one, Nat.add_zero, Nat.zero_add] at h
      have c1 := HCL.out wr (Below.refl _ _)
      have HES := hide (en_spec T k hlt)
      have HLZ := hide (ln_size T k hlt)
      have HPS := hide (pl_lt T k hlt)
      have HBT : Hid (∀ j, (h : j < (ln T k).size) → ((ln T k)[j]'h).toNat = (bt T (pl T k + j)).toNat ∧ (bt T (pl T k + j)).toNat ≠ 10) := fun j h => by
        obtain ⟨g1, g2, g3, g4, _⟩ := HES.out
        have hz := HLZ.out
        have e1 : bt (ln T k) j = bt T (pl T k + j) := bt_extract T (pl T k) (en T k) j (by omega) g3
        rw [bt_get _ j h] at e1
        exact ⟨by rw [← e1], fun e => g4 _ (by omega) (by omega) ((u8_ten _).1 e)⟩
      have HEX : Hid (T.extract (pl T k) (en T k) = ln T k) := rfl
      have HNX := hide (pl_succ T k)
      obtain ⟨q, hq⟩ : ∃ q, pl T (k + 1) = q := ⟨_, rfl⟩
      rw [hq] at HES
      have HQ := hide hq
      obtain ⟨L, hL⟩ : ∃ L, ln T k = L := ⟨_, rfl⟩
      obtain ⟨p, hp⟩ : ∃ p, pl T k = p := ⟨_, rfl⟩
      obtain ⟨m, hm⟩ : ∃ m, en T k = m := ⟨_, rfl⟩
      rw [hp, hm] at HES
      rw [hL, hp, hm] at HLZ
      rw [hp] at HPS
      rw [hL] at c1 HCL
      have hex : T.extract p m = L := by rw [← hp, ← hm]; exact HEX.out.trans hL
      have HBT' : Hid (∀ j, (h : j < L.size) → (L[j]'h).toNat = (bt T (p + j)).toNat ∧ (bt T (p + j)).toNat ≠ 10) := by
        subst hL hp
        exact HBT.out
      rw [hp]
      clear hq hL hp hm HBT HEX HNX
      obtain ⟨g1, g2, g3, g4, g5⟩ := HES.out
      have HG5 := hide g5
      obtain ⟨sz, hsz⟩ : ∃ sz, L.size = sz := ⟨_, rfl⟩
      rw [hsz] at HLZ
      have HSZ := hide hsz
      have hz := HLZ.out
      have hsum : (p : Int) + (sz : Int) = (m : Int) := by omega
      have hsw : IntKind.i64.wrap ((p : Int) + (sz : Int)) = (m : Int) := by rw [IntKind.wrap_i64]; omega
      have hpm : (p : Int) ≤ (m : Int) := by omega
      have hmT : (m : Int) ≤ (T.size : Int) := by omega
      have hmn : ¬ (T.size : Int) < (m : Int) := by omega
      have hmd : decide ((T.size : Int) < (m : Int)) = false := by simpa using hmn
      have hmd2 : decide (T.size < m) = false := by simp; omega
      clear g4 g5 hz
      go_wp2_with fail
      go_quiet (fail)
      obtain ⟨wq, hwq⟩ : ∃ wq, wr.drewN nq = wq := ⟨_, rfl⟩
      rw [hwq]
      have HBQ : Hid (Below wr.heap.size wr wq) := by rw [← hwq]; exact below_drewN' _ _ _
      have c2 := HCL.out wq HBQ.out
      clear hwq c1
      go_wp2_with fail
      go_loopw [6] (fun j wr2 => ∃ n : Nat, n ≤ sz ∧ j = .int .i64 (n : Int) ∧ wq = wr2) (fun j _ => sz - (intOf j).toNat)
      case atStart => exact ⟨0, Nat.zero_le _, rfl, rfl⟩
      case round =>
        obtain ⟨n, hn, rfl, rfl⟩ := hrel
        by_cases hnl : n < sz
        · have hni : (n : Int) < (sz : Int) := by omega
          have hnL : n < L.size := by omega
          have HB2 := hide (HBT'.out n hnL)
          obtain ⟨c, hc⟩ : ∃ c : Nat, (bt T (p + n)).toNat = c := ⟨_, rfl⟩
          rw [hc] at HB2
          have hget : (L[n]'hnL).toNat = c := HB2.out.1
          have hc10 : c ≠ 10 := HB2.out.2
          have hci : ¬ (c : Int) = 10 := by omega
          clear hc
          go_wp2_with fail
          go_roundw
          case rel => exact ⟨n + 1, hnl, by go_num, by first | rfl | trivial⟩
          case measure => simp [intOf]; omega
        · obtain rfl : n = sz := by omega
          by_cases hend : m = T.size
          · subst hend
            have HEND : Hid (k + 1 = cnt T ∧ 0 < n) := by
              rcases HG5.out with ⟨h1, h2⟩ | ⟨h1, h2, h3⟩
              · exfalso
                have : q ≤ T.size := by rw [← HQ.out]; exact (pl_step T k hlt).2
                omega
              · exact ⟨h2, by have := HLZ.out; omega⟩
            have h1 : (k : Int) = (cnt T : Int) - 1 := by have := HEND.out; omega
            have h1b : ((k : Int) == (cnt T : Int) - 1) = true := by simpa using h1
            have h2 : (0 : Int) < (n : Int) := by have := HEND.out; omega
            have h3 : (cnt T : Int) - 1 = (k : Int) := by omega
            have h4 : 0 < n := by omega
            clear h1 h1b
            go_wp2_with (go_at_call 17; refine (HWK.out _).mono ?_; rintro e w5 ⟨rfl, hb5⟩; have HB5 := hide hb5; clear hb5)
            go_ret
            exact ⟨rfl, below_trans HB1.out (below_trans HB.out (below_trans HBQ.out HB5.out))⟩
          · have hmlt : m < T.size := by omega
            have HEND : Hid (m + 1 = q ∧ bt T m = 10) := by
              rcases HG5.out with h | ⟨h1, h2, h3⟩
              · exact h
              · exfalso
                have h4 := HQ.out
                rw [h2, pl_cnt] at h4
                omega
            have hmi : ¬ (m : Int) = (T.size : Int) := by omega
            have hml : (m : Int) < (T.size : Int) := by omega
            have hget : (T[m]'hmlt).toNat = 10 := by rw [← bt_get T m hmlt, HEND.out.2]; rfl
            go_wp2_with fail
            go_roundw
            case rel => exact ⟨k + 1, hlt, by go_num, by rw [HQ.out, ← HEND.out.1]; go_num, below_trans HB.out HBQ.out⟩
            case measure => simp [intOf]; omega
    · obtain rfl : cnt T = k := by omega
      rw [pl_cnt]
      go_wp2_with (go_at_call 17; refine (HWK.out _).mono ?_; rintro e w5 ⟨rfl, hb5⟩; have HB5 := hide hb5; clear hb5)
      go_ret
      exact ⟨rfl, below_trans HB1.out (below_trans HB.out HB5.out)⟩
end Go.Proofs.Ytckfjhgnmegbhaa.Ln
