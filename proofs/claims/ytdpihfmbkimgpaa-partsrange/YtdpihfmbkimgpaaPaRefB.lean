/-
  The document's Bounds.
-/
import Derived.Test.YtdpihfmbkimgpaaPaSorted
namespace Go.Proofs.Ytdpihfmbkimgpaa.Pa
open Go.ChangeShapes Go.WideShapes Go.ChangeAt Go.RowKit
open Go.Proofs.Ytdpihfmbkimgpaa.Base
set_option linter.unusedVariables false
theorem bndS_get {ss : List ByteArray} {n : Int} (h : bErr ss n = 0) (j : Nat) (hj : j < n.toNat - 1) : (bndS ss n).getD j ⟨#[]⟩ = if ss.length = 0 then ⟨#[]⟩ else (srt ss).getD ((j + 1) * ss.length / n.toNat) ⟨#[]⟩ := by
  unfold bndS
  rw [if_pos h]
  by_cases h0 : ss.length = 0
  · rw [if_pos h0, if_pos h0, List.getD_eq_getElem?_getD, List.getElem?_replicate, if_pos hj]; rfl
  · rw [if_neg h0, if_neg h0, bnd_get _ _ j hj, srt_len]
set_option maxHeartbeats 2000000 in
set_option maxRecDepth 100000 in
theorem refBounds_any (a : Option Addr) (len cap : Nat) (ss : List ByteArray) (n : Int) (w : World) (hr : RdS w a len ss) :
    Calls Try.prog 18 #[.slice a len cap, .int .i64 n] w fun e w' => ∃ v, e = .returned (.tuple #[v, .int .i64 (bErr ss n : Nat)]) ∧ OwnS w' w.heap.size v (bndS ss n) ∧ Below w.heap.size w w' := by
  have hl := hr.2.1
  have HL := hide hr.1
  have HR := hide hr
  clear hr
  go_enter Try.func18, Try.ntmps18
  by_cases h1 : 65536 < len
  · have h1i : (65536 : Int) < (len : Int) := by omega
    have HE : Hid (bErr ss n = 2) := hide (by unfold bErr; rw [HL.out, if_pos h1])
    go_wp2_with fail
    go_ret2
    refine ⟨.slice none 0 0, ?_, ?_, Below.refl _ _⟩
    · rw [HE.out]; rfl
    · unfold bndS; rw [HE.out]; exact owns_none _ _
  · have h1i : ¬ (65536 : Int) < (len : Int) := by omega
    by_cases hp : isParts n = true
    · obtain ⟨h2, h3⟩ := isParts_bounds hp
      have HP := hide hp
      clear hp
      obtain ⟨m, rfl⟩ : ∃ m : Nat, n = (m : Int) + 1 := ⟨n.toNat - 1, by omega⟩
      have h4 : ¬ (m : Int) + 1 < 1 := by omega
      have h5 : ¬ (65535 : Int) < (m : Int) + 1 := by omega
      go_wp2_with fail
      go_loopw [6] (fun i wr => ∃ k : Nat, k ≤ len ∧ i = .int .i64 (k : Int) ∧ Hid (anyLong (ss.take k) = false) ∧ wr = w) (fun i _ => len - (intOf i).toNat)
      case atStart => exact ⟨0, Nat.zero_le _, rfl, rfl, rfl⟩
      case round =>
        obtain ⟨k, hk, rfl, HJ, rfl⟩ := hrel
        by_cases hlt : k < len
        · have hki : (k : Int) < (len : Int) := by omega
          obtain ⟨b1, o1, rfl, _, hc1⟩ := HR.out.2.2.2 (by omega)
          have g1 := hc1 k hlt
          have hz := HR.out.2.2.1 _ (getS_mem (i := k) (by rw [HL.out]; exact hlt))
          have HS := hide (any_step ss k (by rw [HL.out]; exact hlt))
          have HM := hide (any_mem ss k (by rw [HL.out]; exact hlt))
          generalize ss.getD k ⟨#[]⟩ = s at g1 hz HS HM
          clear hc1
          by_cases hc : 1024 < s.size
          · have hci : (1024 : Int) < (s.size : Int) := by omega
            have HC := hide (HM.out (decide_eq_true hc))
            have HE : Hid (bErr ss ((m : Int) + 1) = 140) := hide (by unfold bErr; rw [HL.out, if_neg h1, HP.out, HC.out]; rfl)
            go_wp2_with fail
            go_ret2
            refine ⟨.slice none 0 0, ?_, ?_, Below.refl _ _⟩
            · rw [HE.out]; rfl
            · unfold bndS; rw [HE.out]; exact owns_none _ _
          · have hci : ¬ (1024 : Int) < (s.size : Int) := by omega
            have HC : Hid (anyLong (ss.take (k + 1)) = false) := hide (by rw [HS.out, HJ.out, show tooLong s = false from decide_eq_false hc]; rfl)
            go_wp2_with fail
            go_roundw
            case rel => exact ⟨k + 1, by omega, by go_num, HC, trivial⟩
            case measure => (simp [intOf] <;> omega)
        · have hkl : k = len := by omega
          subst hkl
          have hki : ¬ (k : Int) < (k : Int) := by omega
          have HC : Hid (anyLong ss = false) := by
            have := HJ.out
            rw [List.take_of_length_le (by rw [HL.out]; exact Nat.le_refl _)] at this
            exact this
          have HE : Hid (bErr ss ((m : Int) + 1) = 0) := hide (by unfold bErr; rw [HL.out, if_neg h1, HP.out, HC.out]; rfl)
          rename World => V0
          go_wp2_with fail
          refine (sorted_any a k cap ss V0 HR.out (by omega)).mono ?_
          rintro e w2 ⟨v2, rfl, ho2, hb2⟩
          obtain ⟨a2, c2, rfl⟩ := ho2.shape
          rw [srt_len, HL.out] at ho2 ⊢
          have HO2 := hide ho2
          have HB2 := hide hb2
          have HBL : Hid ((bndS ss ((m : Int) + 1)).length = m) := hide (by rw [bndS_len HE.out]; omega)
          have HGT : Hid (∀ j, j < m → (bndS ss ((m : Int) + 1)).getD j ⟨#[]⟩ = if k = 0 then ⟨#[]⟩ else (srt ss).getD ((j + 1) * k / (m + 1)) ⟨#[]⟩) := fun j hj => by
            have := bndS_get HE.out j (by omega)
            rw [HL.out, show ((m : Int) + 1).toNat = m + 1 by omega] at this
            exact this
          have HTK : Hid (∀ j, j < m → (bndS ss ((m : Int) + 1)).take (j + 1) = (bndS ss ((m : Int) + 1)).take j ++ [(bndS ss ((m : Int) + 1)).getD j ⟨#[]⟩]) := fun j hj => take_snoc _ j (by rw [HBL.out]; exact hj)
          have HTL : Hid (∀ j, j ≤ m → ((bndS ss ((m : Int) + 1)).take j).length = j) := fun j hj => by rw [List.length_take, HBL.out]; omega
          have HTA : Hid ((bndS ss ((m : Int) + 1)).take m = bndS ss ((m : Int) + 1)) := hide (List.take_of_length_le (by rw [HBL.out]; exact Nat.le_refl _))
          clear ho2 hb2
          go_wp2_with fail
          generalize hCC : bndS ss ((m : Int) + 1) = C at HBL HGT HTK HTL HTA
          have HCC := hide hCC
          clear hCC
          go_loopw [8, 9] (fun v i wr => ∃ (j : Nat), j ≤ m ∧ i = .int .i64 ((j : Int) + 1) ∧ Hid (OwnS wr w2.heap.size v (C.take j)) ∧ Hid (Below w2.heap.size w2 wr)) (fun v i _ => m + 1 - (intOf i).toNat)
          case atStart => exact ⟨0, Nat.zero_le _, by go_num, by rw [List.take_zero]; exact owns_none _ _, Below.refl _ _⟩
          case round =>
            obtain ⟨j, hj, rfl, HOj, HBj⟩ := hrel
            obtain ⟨a3, c3, rfl⟩ := HOj.out.shape
            rw [HTL.out j hj] at HOj ⊢
            by_cases hjl : j < m
            · have hji : (j : Int) + 1 < (m : Int) + 1 := by omega
              have HGj := hide (HGT.out j hjl)
              have HTj := hide (HTK.out j hjl)
              rename World => V1
              have HBV := hide (below_trans HB2.out HBj.out)
              by_cases h0 : 0 < k
              · have h0i : (0 : Int) < (k : Int) := by omega
                obtain ⟨g2, rfl⟩ : ∃ g, a2 = some ⟨g, 0, none⟩ := by
                  rcases HO2.out.2 with ⟨_, h2⟩ | ⟨g, _, _, h1, _⟩
                  · rw [srt_len, HL.out] at h2; omega
                  · simp only [Value.slice.injEq] at h1; exact ⟨g, h1.1⟩
                have hPl := place_lt (j + 1) k (m + 1) h0 (by omega)
                have c0 := (HO2.out.below HBj.out).cell ((j + 1) * k / (m + 1)) hPl
                have hmul : ((j : Int) + 1) * (k : Int) = (((j + 1) * k : Nat) : Int) := by simp
                have hdiv : (((j + 1) * k : Nat) : Int) / ((m : Int) + 1) = (((j + 1) * k / (m + 1) : Nat) : Int) := by
                  rw [show ((m : Int) + 1) = ((m + 1 : Nat) : Int) by omega, Int.natCast_ediv]
                have hQ : (j + 1) * k ≤ 65536 * 65536 := Nat.mul_le_mul (by omega) (by omega)
                rw [if_neg (by omega)] at HGj
                generalize (j + 1) * k / (m + 1) = P at hPl c0 hdiv HGj
                generalize (j + 1) * k = Q at hmul hdiv hQ
                have hPi : (P : Int) < (k : Int) := by omega
                generalize (srt ss).getD P ⟨#[]⟩ = x at c0 HGj
                have hnz : ¬ (m : Int) + 1 = 0 := by omega
                go_wp2_with (at_builtin; refine pushS _ rfl _ _ rfl w2.heap.size _ (C.take j) rfl (HOj.out.below ((Below.refl _ _).alloc (Nat.le_refl _) _)) ⟨V1.heap.size, 0, none⟩ 1 x rfl ?_ (by rw [HTL.out j hj]; omega) (by have := HBj.out.size; simp; omega) ?_
                             · simp [Addr.add]
                             intro v5 w5 ho5 hg5
                             rw [← HGj.out, ← HTj.out] at ho5
                             have HO5 := hide ho5
                             have HB5 := hide ((HBj.out.alloc HBj.out.size _).grown hg5 (by have := HBj.out.size; simp; omega) (fun i e => (HOj.out.blk i e).1))
                             clear ho5 hg5)
                go_roundw
                case rel => exact ⟨j + 1, by omega, by go_num, HO5, HB5⟩
                case measure => (simp [intOf] <;> omega)
              · have h0i : ¬ (0 : Int) < (k : Int) := by omega
                rw [if_pos (by omega)] at HGj
                go_wp2_with (at_builtin; refine pushS _ rfl _ _ rfl w2.heap.size _ (C.take j) rfl (HOj.out.below ((Below.refl _ _).alloc (Nat.le_refl _) _)) ⟨V1.heap.size, 0, none⟩ 1 ⟨#[]⟩ rfl ?_ (by rw [HTL.out j hj]; omega) (by have := HBj.out.size; simp; omega) ?_
                             · simp [Addr.add]
                             intro v5 w5 ho5 hg5
                             rw [← HGj.out, ← HTj.out] at ho5
                             have HO5 := hide ho5
                             have HB5 := hide ((HBj.out.alloc HBj.out.size _).grown hg5 (by have := HBj.out.size; simp; omega) (fun i e => (HOj.out.blk i e).1))
                             clear ho5 hg5)
                go_roundw
                case rel => exact ⟨j + 1, by omega, by go_num, HO5, HB5⟩
                case measure => (simp [intOf] <;> omega)
            · have hjm : j = m := by omega
              subst hjm
              have hji : ¬ (j : Int) + 1 < (j : Int) + 1 := by omega
              go_wp2_with fail
              go_ret2
              refine ⟨.slice a3 j c3, ?_, ?_, below_trans HB2.out HBj.out⟩
              · rw [HE.out]; rfl
              · have h := HOj.out
                rw [HTA.out] at h
                rw [HCC.out]
                exact h.mono HB2.out.size
    · have HP : Hid (isParts n = false) := hide (by simpa using hp)
      have HE : Hid (bErr ss n = 3) := hide (by unfold bErr; rw [HL.out, if_neg h1, HP.out]; rfl)
      have hn : n < 1 ∨ (1 ≤ n ∧ 65535 < n) := by
        have := HP.out
        simp [isParts] at this
        omega
      clear hp
      rcases hn with h2 | ⟨h2, h3⟩
      · go_wp2_with fail
        go_ret2
        refine ⟨.slice none 0 0, ?_, ?_, Below.refl _ _⟩
        · rw [HE.out]; rfl
        · unfold bndS; rw [HE.out]; exact owns_none _ _
      · have h4 : ¬ n < 1 := by omega
        go_wp2_with fail
        go_ret2
        refine ⟨.slice none 0 0, ?_, ?_, Below.refl _ _⟩
        · rw [HE.out]; rfl
        · unfold bndS; rw [HE.out]; exact owns_none _ _
end Go.Proofs.Ytdpihfmbkimgpaa.Pa
