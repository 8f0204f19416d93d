/-
  The walk of the statement NumsGet.
-/
import Derived.Test.YtclddadhddljgaaNumsMem
namespace Go.Proofs.Ytclddadhddljgaa.numsGet
open Go.ChangeShapes Go.WideShapes Go.ChangeAt Go.RowKit
open Go.Proofs.Ytclddadhddljgaa.Base Go.Proofs.Ytclddadhddljgaa.Nums
set_option linter.unusedVariables false
def flip (c : BitVec 8) : BitVec 8 := c ^^^ BitVec.ofNat 8 129
theorem flip_val (c : BitVec 8) : bits .xor .u8 (c.toNat : Int) 129 = ((flip c).toNat : Int) := by
  have e : (129 : Int) = (((BitVec.ofNat 8 129).toNat : Nat) : Int) := by decide
  rw [e, bxor_u8]; rfl
def mix (bs : List (BitVec 8)) (k : Nat) : List (BitVec 8) := (bs.map flip).take k ++ (padded bs).drop k
theorem mix_zero (bs : List (BitVec 8)) : mix bs 0 = padded bs := by simp [mix]
theorem length_mix (bs : List (BitVec 8)) (k : Nat) (h : k ≤ bs.length) : (mix bs k).length = bs.length + 64 := by
  simp [mix, length_padded]; omega
theorem mix_end (bs : List (BitVec 8)) : mix bs bs.length = padded (bs.map flip) := by
  unfold mix padded
  rw [List.take_of_length_le (by simp), List.drop_left]
theorem mix_get (bs : List (BitVec 8)) (k : Nat) (h : k < bs.length) : (mix bs k).getD k 0 = bs.getD k 0 := by
  have hl : ((bs.map flip).take k).length = k := by rw [List.length_take, List.length_map]; omega
  rw [List.getD_eq_getElem?_getD, mix, List.getElem?_append_right (by omega), hl, Nat.sub_self, List.getElem?_drop, Nat.add_zero, ← List.getD_eq_getElem?_getD, padded_lt bs k h]
theorem mix_step (bs : List (BitVec 8)) (k : Nat) (h : k < bs.length) : (mix bs k).set k (flip (bs.getD k 0)) = mix bs (k + 1) := by
  have hl : ((bs.map flip).take k).length = k := by rw [List.length_take, List.length_map]; omega
  have hp : k < (padded bs).length := by rw [length_padded]; omega
  have hm : k < (bs.map flip).length := by rw [List.length_map]; exact h
  unfold mix
  rw [List.set_append_right _ _ (by omega), hl, Nat.sub_self, getD_take _ k hm, List.drop_eq_getElem_cons hp, List.set_cons_zero, List.append_assoc]
  congr 2
  rw [List.getD_eq_getElem?_getD, List.getElem?_eq_getElem h, List.getD_eq_getElem?_getD, List.getElem?_map, List.getElem?_eq_getElem h]
  rfl
theorem flip_take (bs : List (BitVec 8)) (k : Nat) (h : k < bs.length) : (bs.map flip).take (k + 1) = (bs.map flip).take k ++ [flip (bs.getD k 0)] := by
  have hm : k < (bs.map flip).length := by rw [List.length_map]; exact h
  rw [getD_take _ k hm]
  have e : (bs.map flip).getD k 0 = flip (bs.getD k 0) := by
    rw [List.getD_eq_getElem?_getD, List.getD_eq_getElem?_getD, List.getElem?_map, List.getElem?_eq_getElem h]; rfl
  rw [e]
set_option maxHeartbeats 4000000 in
set_option maxRecDepth 100000 in
theorem walk (a0 : Option Addr) (len0 cap0 : Nat) (b0 : List (BitVec 8)) (w : World) (r0 : Rd w a0 len0 b0) (l0 : len0 ≤ cap0) (m0 : cap0 ≤ 140737488351232) (z0 : a0 = none → len0 = 0 ∧ cap0 = 0) :
    Calls Try.prog 5 #[.slice a0 len0 cap0] w fun e w' => e = .returned (.bool true) ∧ Below w.heap.size w w' := by
  have R := hide r0
  have HL := hide r0.1
  clear r0 z0
  go_enter Try.func5, Try.ntmps5
  go_wp2_with fail
  refine (spare_any _ _ _ _ _ R.out (by omega)).mono ?_
  rintro e w1 ⟨g, rfl, hg, ho, hb⟩
  have HO1 := hide ho
  have HB1 := hide hb
  clear ho hb
  have hlc : len0 ≤ len0 + 64 := by omega
  go_wp2_with fail
  have HR1 : Hid (∀ W, Below w1.heap.size w1 W → Rd W (some ⟨g, 0, none⟩) len0 b0) := by
    intro W hW
    have h := ((HO1.out.below hW).rd (by rw [length_padded, HL.out]; omega)).cut len0 (by omega)
    rw [← HL.out, take_padded, HL.out] at h
    exact h
  refine (get_any _ _ _ _ _ (HR1.out _ (Below.refl _ _)) hlc (by omega)).mono ?_
  rintro e w2 ⟨rfl, hb⟩
  have HB2 := hide hb
  clear hb
  go_wp2_with fail
  refine (refGet_any _ _ _ _ _ (R.out.below (below_trans HB1.out HB2.out))).mono ?_
  rintro e w3 ⟨rfl, hb⟩
  have HB3 := hide (below_trans HB2.out hb)
  clear hb HB2
  go_wp2_with fail
  refine (word_any _ _ _ _ _ (HR1.out _ HB3.out) hlc (by omega)).mono ?_
  rintro e w4 ⟨rfl, hb⟩
  have HB4 := hide (below_trans HB3.out hb)
  clear hb HB3
  have q1 : (((get b0).1 : Int) != ((get b0).1 : Int)) = false := by simp
  have q2 : (((get b0).2.1 : Int) != ((get b0).2.1 : Int)) = false := by simp
  have q3 : (((get b0).2.2 : Int) != ((get b0).2.2 : Int)) = false := by simp
  have q4 : ((word b0 : Int) != (word b0 : Int)) = false := by simp
  go_wp2_with fail
  refine (refWord_any _ _ _ _ _ (R.out.below (below_trans HB1.out HB4.out))).mono ?_
  rintro e w5 ⟨rfl, hb⟩
  have HB5 := hide (below_trans HB4.out hb)
  clear hb HB4
  go_wp2_with fail
  refine (kept_any _ _ _ _ _ b0 _ ((HO1.out.below HB5.out).rd (by rw [length_padded, HL.out]; omega)) (R.out.below (below_trans HB1.out HB5.out)) (by omega)).mono ?_
  rintro e w6 ⟨rfl, hb⟩
  have HB6 := hide (below_trans HB1.out (below_trans HB5.out hb))
  have HO6 := hide (HO1.out.below (below_trans HB5.out hb))
  have hg6 := (HO6.out.lt').2
  clear hb HB5 HB1 HO1 HR1 q1 q2 q3 q4
  go_wp2_with fail
  have HFL : Hid ((b0.map flip).length = len0) := by show _ = _; rw [List.length_map]; exact HL.out
  go_loopw [11, 12] (fun o i wr => ∃ (k : Nat) (a : Option Addr) (c : Nat), k ≤ len0 ∧ i = .int .i64 (k : Int) ∧ o = .slice a k c ∧ Hid (Own wr w6.heap.size (.slice a k c) ((b0.map flip).take k)) ∧ Hid (Own wr w.heap.size (.slice (some ⟨g, 0, none⟩) (len0 + 64) (len0 + 64)) (mix b0 k)) ∧ Hid (Below w.heap.size w wr) ∧ w6.heap.size ≤ wr.heap.size) (fun _ i _ => len0 - (intOf i).toNat)
  case atStart => exact ⟨0, _, _, Nat.zero_le _, rfl, rfl, own_none _ _, by rw [mix_zero]; exact HO6, HB6, Nat.le_refl _⟩
  case round =>
    clear HO6 HB6
    obtain ⟨k, a, c, hk, rfl, rfl, HC, HG, HB, hsz⟩ := hrel
    by_cases hlt : k < len0
    · have g1 := HG.out.cell k (by omega)
      rw [mix_get b0 k (by have := HL.out; omega)] at g1
      have g2 := HG.out.frozen k
      have hst := HG.out.store k (flip (b0.getD k 0))
      rw [mix_step b0 k (by have := HL.out; omega)] at hst
      have HFT := hide (flip_take b0 k (by have := HL.out; omega))
      have hf := flip_val (b0.getD k 0)
      generalize flip (b0.getD k 0) = d at hst hf HFT
      generalize b0.getD k 0 = x at g1 hf
      have HST := hide hst
      clear hst
      have hki : (k : Int) < (len0 : Int) := by omega
      have hki2 : (k : Int) < (len0 : Int) + 64 := by omega
      have HCK : Hid (Own (wr.setCell ⟨g, k, none⟩ (.int .u8 (d.toNat : Int))) w6.heap.size (.slice a k c) ((b0.map flip).take k)) :=
        keep HC.out HST.out.2 (fun i j e1 e2 => by
          have := (blk HC.out i e1).1
          have e3 : g = j := Option.some.inj e2
          omega)
      have hgw : w.heap.size ≤ wr.heap.size := HB.out.size
      go_wp2_with (at_builtin; refine push _ rfl _ _ rfl w6.heap.size _ ((b0.map flip).take k) rfl (HCK.out.below ((Below.refl _ _).alloc (Nat.le_refl _) _)) ⟨wr.heap.size, 0, none⟩ 1 d rfl ?_ (by rw [List.length_take, HFL.out]; omega) (by simp; omega) ?_
                   · simpa using cell_one_new (wr.setCell ⟨g, k, none⟩ (.int .u8 (d.toNat : Int))) (.int .u8 (d.toNat : Int)) 5 0 _ rfl
                   intro v' w7 hown hgrow
                   have HG7 := hide hgrow
                   rw [← HFT.out] at hown
                   obtain ⟨a', c', hv'⟩ := hown.shape
                   rw [show ((b0.map flip).take (k + 1)).length = k + 1 by rw [List.length_take, HFL.out]; omega] at hv'
                   subst hv'
                   have HO7 := hide hown
                   clear hown hgrow)
      go_roundw
      case rel =>
        have hbb : Below w.heap.size w ((wr.setCell ⟨g, k, none⟩ (.int .u8 (d.toNat : Int))).alloc (.cells #[.int .u8 (d.toNat : Int)] 5)) :=
          (grown_below HB.out HST.out.2 hg).alloc (by simp; omega) _
        have hsz7 := HG7.out.size
        simp at hsz7
        refine ⟨k + 1, a', c', by omega, by go_num, rfl, HO7, ?_, ?_, by omega⟩
        · show Own _ _ _ _
          refine keep (HST.out.1.below ((Below.refl _ _).alloc (Nat.le_refl _) _)) HG7.out (fun i j e1 e2 => ?_)
          have h2 := (blk HC.out j e2).1
          have e3 : g = i := Option.some.inj e1
          omega
        · exact hbb.grown HG7.out (by simp; omega) (fun j e => by have h2 := (blk HC.out j e).1; have := HB.out.size; omega)
      case measure => simp [intOf]; omega
    · have hk' : k = len0 := by omega
      subst hk'
      have HF : Hid (mix b0 k = padded (b0.map flip)) := by show _ = _; rw [← mix_end, HL.out]
      have HT : Hid ((b0.map flip).take k = b0.map flip) := by show _ = _; rw [List.take_of_length_le (by have := HFL.out; omega)]
      have HG2 : Hid (Own wr w.heap.size (.slice (some ⟨g, 0, none⟩) (k + 64) (k + 64)) (padded (b0.map flip))) := by
        have h := HG.out; rw [HF.out] at h; exact h
      have HC2 : Hid (Own wr w6.heap.size (.slice a k c) (b0.map flip)) := by
        have h := HC.out; rw [HT.out] at h; exact h
      clear HG HC HF HT
      have HR1 : Hid (∀ W, Below wr.heap.size wr W → Rd W (some ⟨g, 0, none⟩) k (b0.map flip)) := by
        intro W hW
        have h := ((HG2.out.below hW).rd (by rw [length_padded, HFL.out]; omega)).cut k (by omega)
        have e : (padded (b0.map flip)).take k = b0.map flip := by
          conv => lhs; rw [← HFL.out]
          exact take_padded _
        rw [e] at h
        exact h
      have HRC : Hid (∀ W, Below wr.heap.size wr W → Rd W a k (b0.map flip)) := by
        intro W hW
        exact Got.rd (HC2.out.below hW) (by rw [HFL.out]; omega)
      generalize b0.map flip = F at HG2 HC2 HR1 HRC HFL
      go_wp2_with fail
      refine (get_any _ _ _ _ _ (HR1.out _ (Below.refl _ _)) hlc (by omega)).mono ?_
      rintro e v2 ⟨rfl, hb⟩
      have HV2 := hide hb
      clear hb
      go_wp2_with fail
      refine (refGet_any _ _ _ _ _ (HRC.out _ HV2.out)).mono ?_
      rintro e v3 ⟨rfl, hb⟩
      have HV3 := hide (below_trans HV2.out hb)
      clear hb HV2
      have q1 : (((get F).1 : Int) == ((get F).1 : Int)) = true := by simp
      have q2 : (((get F).2.1 : Int) == ((get F).2.1 : Int)) = true := by simp
      have q3 : (((get F).2.2 : Int) == ((get F).2.2 : Int)) = true := by simp
      have q4 : ((word F : Int) == (word F : Int)) = true := by simp
      go_wp2_with fail
      refine (word_any _ _ _ _ _ (HR1.out _ HV3.out) hlc (by omega)).mono ?_
      rintro e v4 ⟨rfl, hb⟩
      have HV4 := hide (below_trans HV3.out hb)
      clear hb HV3
      go_wp2_with fail
      refine (refWord_any _ _ _ _ _ (HRC.out _ HV4.out)).mono ?_
      rintro e v5 ⟨rfl, hb⟩
      have HV5 := hide (below_trans HV4.out hb)
      clear hb HV4
      go_wp2_with fail
      refine (kept_any _ _ _ _ _ F _ ((HG2.out.below HV5.out).rd (by rw [length_padded, HFL.out]; omega)) (HRC.out _ HV5.out) (by omega)).mono ?_
      rintro e v6 ⟨rfl, hb⟩
      have HV6 := hide (below_trans HV5.out hb)
      clear hb HV5
      go_wp2_with fail
      go_ret
      exact ⟨rfl, below_trans HB.out HV6.out⟩
end Go.Proofs.Ytclddadhddljgaa.numsGet
