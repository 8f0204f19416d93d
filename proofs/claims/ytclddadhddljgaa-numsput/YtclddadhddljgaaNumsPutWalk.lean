/-
  The walk of the statement NumsPut.
-/
import Derived.Test.YtclddadhddljgaaNumsFresh2
import Derived.Test.YtclddadhddljgaaNumsHead
namespace Go.Proofs.Ytclddadhddljgaa.numsPut
open Go.ChangeShapes Go.WideShapes Go.ChangeAt Go.RowKit
open Go.Proofs.Ytclddadhddljgaa.Base Go.Proofs.Ytclddadhddljgaa.Nums
set_option linter.unusedVariables false
theorem len_putI (n : Int) (h : n ≤ 9223372036854775807) : (putI n).length ≤ 9 := by
  unfold putI
  split
  · simp
  · exact (put_nine _ (by omega)).2
theorem len_fixI (v : Nat) (n : Int) : (fixI v n).length ≤ 8 := by
  unfold fixI
  split
  · rw [length_fixed]; omega
  · simp
set_option maxHeartbeats 4000000 in
set_option maxRecDepth 100000 in
theorem walk (n0 n1 : Int) (w : World) (w0 : (Lit.int .i64 n0).wf = true) (w1 : (Lit.int .i64 n1).wf = true) :
    Calls Try.prog 4 #[.int .i64 n0, .int .i64 n1] w fun e w' => e = .returned (.bool true) ∧ Below w.heap.size w w' := by
  have hbd := bounds_i64 w0
  have W0 := hide w0
  have W1 := hide w1
  obtain ⟨U, hU, hU1, hU2, hUi⟩ : ∃ U : Nat, U < 18446744073709551616 ∧ n0 % 18446744073709551616 = (U : Int) ∧ IntKind.u64.wrap n0 = (U : Int) ∧ (U : Int) ≤ 18446744073709551615 :=
    ⟨(n0 % 18446744073709551616).toNat, by omega, by omega, by rw [IntKind.wrap_u64]; omega, by omega⟩
  clear w0 w1
  have hLP := len_putI n0 (by omega)
  have hLF := len_fixI U n1
  go_enter Try.func4, Try.ntmps4
  go_wp2_with fail
  refine (put_any _ _ W0.out).mono ?_
  rintro e w1 ⟨u, rfl, ho, hb⟩
  obtain ⟨a1, c1, rfl⟩ := ho.shape
  have HA1 := hide ho
  have HB1 := hide hb
  clear ho hb
  go_wp2_with fail
  refine (put_any _ _ W0.out).mono ?_
  rintro e w2 ⟨u, rfl, ho, hb⟩
  obtain ⟨a2, c2, rfl⟩ := ho.shape
  have HA2 := hide ho
  have HB2 := hide hb
  clear ho hb
  go_wp2_with fail
  refine (fixed_any _ _ _ hU W1.out).mono ?_
  rintro e w3 ⟨u, rfl, ho, hb⟩
  obtain ⟨a3, c3, rfl⟩ := ho.shape
  have HA3 := hide ho
  have HB3 := hide hb
  clear ho hb
  go_wp2_with fail
  refine (fixed_any _ _ _ hU W1.out).mono ?_
  rintro e w4 ⟨u, rfl, ho, hb⟩
  obtain ⟨a4, c4, rfl⟩ := ho.shape
  have HA4 := hide ho
  have HB4 := hide hb
  clear ho hb
  generalize hP : putI n0 = P at hLP HA1 HA2
  generalize hF : fixI U n1 = F at hLF HA3 HA4
  have HP := hide hP
  have HF := hide hF
  clear hP hF
  -- where each of them lies
  have HN12 : Hid (∀ i, (Value.slice a1 P.length c1).ownBlock = some i → (Value.slice a2 P.length c2).ownBlock ≠ some i) := fun i e1 e2 => by
    have := (blk HA1.out i e1).2; have := (blk HA2.out i e2).1; omega
  have HN34 : Hid (∀ i, (Value.slice a3 F.length c3).ownBlock = some i → (Value.slice a4 F.length c4).ownBlock ≠ some i) := fun i e1 e2 => by
    have := (blk HA3.out i e1).2; have := (blk HA4.out i e2).1; omega
  have HN : Hid (∀ i, ((Value.slice a3 F.length c3).ownBlock = some i ∨ (Value.slice a4 F.length c4).ownBlock = some i) → w2.heap.size ≤ i) := fun i e => by
    have := HB3.out.size
    rcases e with e | e
    · exact (blk HA3.out i e).1
    · have := (blk HA4.out i e).1; omega
  have HL : Hid (∀ i, ((Value.slice a1 P.length c1).ownBlock = some i ∨ (Value.slice a2 P.length c2).ownBlock = some i) → i < w2.heap.size ∧ w.heap.size ≤ i) := fun i e => by
    have := HB1.out.size
    have := HB2.out.size
    rcases e with e | e
    · have := blk HA1.out i e; omega
    · have := blk HA2.out i e; omega
  have hs1 := HB1.out.size
  have hs2 := HB2.out.size
  have hs3 := HB3.out.size
  have hs4 := HB4.out.size
  have H1 : Hid (∀ W, Below w4.heap.size w4 W → Own W w.heap.size (.slice a1 P.length c1) P) := fun W hW => (((HA1.out.below HB2.out).below HB3.out).below HB4.out).below hW
  have H2 : Hid (∀ W, Below w4.heap.size w4 W → Own W w.heap.size (.slice a2 P.length c2) P) := fun W hW => (((HA2.out.below HB3.out).below HB4.out).below hW).mono hs1
  have H3 : Hid (∀ W, Below w4.heap.size w4 W → Own W w.heap.size (.slice a3 F.length c3) F) := fun W hW => ((HA3.out.below HB4.out).below hW).mono (by omega)
  have H4 : Hid (∀ W, Below w4.heap.size w4 W → Own W w.heap.size (.slice a4 F.length c4) F) := fun W hW => (HA4.out.below hW).mono (by omega)
  have HBw : Hid (Below w.heap.size w w4) := below_trans HB1.out (below_trans HB2.out (below_trans HB3.out HB4.out))
  clear HA1 HA2 HA3 HA4 HB1 HB2 HB3 HB4
  go_wp2_with fail
  refine (refPut_any _ _ W0.out).mono ?_
  rintro e w5 ⟨u, rfl, ho, hb⟩
  rw [HP.out] at ho
  obtain ⟨a5, c5, rfl⟩ := ho.shape
  have HA5 := hide ho
  have HB5 := hide hb
  clear ho hb
  go_wp2_with fail
  refine (same_any _ _ _ _ _ _ _ _ _ (Got.rd (H1.out _ HB5.out) (by omega)) (Got.rd HA5.out (by omega))).mono ?_
  rintro e w6 ⟨rfl, hb⟩
  rw [show decide (P = P) = true from by simp]
  have HB6 := hide (below_trans HB5.out hb)
  clear hb HB5 HA5
  go_wp2_with fail
  refine (same_any _ _ _ _ _ _ _ _ _ (Got.rd (H2.out _ HB6.out) (by omega)) (Got.rd (H1.out _ HB6.out) (by omega))).mono ?_
  rintro e w7 ⟨rfl, hb⟩
  rw [show decide (P = P) = true from by simp]
  have HB7 := hide (below_trans HB6.out hb)
  clear hb HB6
  go_wp2_with fail
  refine (refFixed_any _ _ _ hU W1.out).mono ?_
  rintro e w8 ⟨u, rfl, ho, hb⟩
  rw [HF.out] at ho
  obtain ⟨a8, c8, rfl⟩ := ho.shape
  have HA8 := hide ho
  have HB8 := hide (below_trans HB7.out hb)
  clear ho hb HB7
  go_wp2_with fail
  refine (same_any _ _ _ _ _ _ _ _ _ (Got.rd (H3.out _ HB8.out) (by omega)) (Got.rd HA8.out (by omega))).mono ?_
  rintro e w9 ⟨rfl, hb⟩
  rw [show decide (F = F) = true from by simp]
  have HB9 := hide (below_trans HB8.out hb)
  clear hb HB8 HA8
  go_wp2_with fail
  refine (same_any _ _ _ _ _ _ _ _ _ (Got.rd (H4.out _ HB9.out) (by omega)) (Got.rd (H3.out _ HB9.out) (by omega))).mono ?_
  rintro e v1 ⟨rfl, hb⟩
  rw [show decide (F = F) = true from by simp]
  have HB10 := hide (below_trans HB9.out hb)
  clear hb HB9
  go_wp2_with fail
  have hv1 : w.heap.size ≤ v1.heap.size := by have := HB10.out.size; omega
  refine (fresh_any w.heap.size _ _ _ _ _ _ P P _ hv1 (H1.out _ HB10.out) (H2.out _ HB10.out) HN12.out (by omega) (by omega)).mono ?_
  rintro e v2 ⟨rfl, hk⟩
  have HK2 := hide hk
  have H3' : Hid (Own v2 w.heap.size (.slice a3 F.length c3) F) := (H3.out _ HB10.out).kept2 hk (fun i e1 e2 => by have := HN.out i (.inl e1); have := (HL.out i (.inl e2)).1; omega) (fun i e1 e2 => by have := HN.out i (.inl e1); have := (HL.out i (.inr e2)).1; omega)
  have H4' : Hid (Own v2 w.heap.size (.slice a4 F.length c4) F) := (H4.out _ HB10.out).kept2 hk (fun i e1 e2 => by have := HN.out i (.inr e1); have := (HL.out i (.inl e2)).1; omega) (fun i e1 e2 => by have := HN.out i (.inr e1); have := (HL.out i (.inr e2)).1; omega)
  have HBv2 : Hid (Below w.heap.size w v2) := hk.below (below_trans HBw.out HB10.out) (fun i e => (HL.out i (.inl e)).2) (fun i e => (HL.out i (.inr e)).2)
  clear hk HK2 HB10 H1 H2 H3 H4
  have hv2 : w.heap.size ≤ v2.heap.size := HBv2.out.size
  go_wp2_with fail
  refine (fresh_any w.heap.size _ _ _ _ _ _ F F _ hv2 H3'.out H4'.out HN34.out (by omega) (by omega)).mono ?_
  rintro e v3 ⟨rfl, hk⟩
  have HBv3 : Hid (Below w.heap.size w v3) := hk.below HBv2.out (fun i e => by have := HN.out i (.inl e); omega) (fun i e => by have := HN.out i (.inr e); omega)
  clear hk
  go_wp2_with fail
  go_ret
  exact ⟨rfl, HBv3.out⟩
end Go.Proofs.Ytclddadhddljgaa.numsPut
