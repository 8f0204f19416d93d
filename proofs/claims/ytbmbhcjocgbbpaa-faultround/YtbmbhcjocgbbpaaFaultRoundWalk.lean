/-
  Entries and bytes, there and back; a first part of entries that may be may be.
-/
import Derived.Test.YtbmbhcjocgbbpaaFaDec
import Derived.Test.YtbmbhcjocgbbpaaFaSameF
import Derived.Test.YtbmbhcjocgbbpaaFaSame
import Derived.Test.YtbmbhcjocgbbpaaFaWorks
namespace Go.Proofs.Ytbmbhcjocgbbpaa.faultRound
open Go.ChangeShapes Go.WideShapes Go.ChangeAt Go.RowKit
open Go.Proofs.Ytbmbhcjocgbbpaa.Base Go.Proofs.Ytbmbhcjocgbbpaa.Fa
set_option linter.unusedVariables false
theorem chk_take {fs : List Flt} (h : chk fs = 0) (m : Nat) : chk (fs.take m) = 0 := by
  obtain ⟨h1, h2, h3⟩ := chk_ok h
  have e1 : (fs.take m).all may = true := by
    rw [List.all_eq_true]
    intro f hf
    exact List.all_eq_true.1 h1 f (List.mem_of_mem_take hf)
  have e2 : ((fs.take m).map plc).Nodup := by
    rw [List.map_take]
    exact h2.sublist (List.take_sublist _ _)
  unfold chk
  rw [if_neg (by rw [List.length_take]; omega), if_pos ⟨e1, e2⟩]
set_option maxHeartbeats 8000000 in
set_option maxRecDepth 100000 in
theorem walk (a : Option Addr) (n cap : Nat) (fs : List Flt) (a1 : Option Addr) (n1 cap1 : Nat) (bs : List (BitVec 8)) (z : Int) (w : World) (hr : RdL w a n fs) (hlc : n ≤ cap) (hm : cap ≤ 2199023255488) (hnil : a = none → n = 0 ∧ cap = 0) (hwf : ∀ f ∈ fs, Wf f)
    (hr1 : Rd w a1 n1 bs) (hlc1 : n1 ≤ cap1) (hm1 : cap1 ≤ 140737488351232) (hnil1 : a1 = none → n1 = 0 ∧ cap1 = 0) (hz : (Lit.int .i64 z).wf = true) :
    Calls Try.prog 8 #[.slice a n cap, .slice a1 n1 cap1, .int .i64 z] w fun e w' => e = .returned (.bool true) ∧ Below w.heap.size w w' := by
  have HL := hide hr.1
  have HR := hide hr
  have HR1 := hide hr1
  have HNIL := hide hnil
  have HNIL1 := hide hnil1
  have HWF := hide hwf
  clear hr hr1 hnil hnil1 hwf
  by_cases hk : chk fs = 0
  rotate_left
  · obtain ⟨K, hK⟩ : ∃ K, chk fs = K := ⟨_, rfl⟩
    have HK := hide hk
    have HKE := hide hK
    have hki : ((K : Int) == 0) = false := by rw [hK] at hk; simp; omega
    clear hk hK
    go_enter Try.func8, Try.ntmps8
    go_wp2_with fail
    refine (encode_no a n cap fs w HR.out HK.out).mono ?_
    rintro e w1 ⟨rfl, hb1⟩
    have HB1 := hide hb1
    rw [HKE.out]
    clear hb1
    go_wp2_with fail
    refine (decode_any a1 n1 cap1 bs _ (HR1.out.below HB1.out) hlc1 HNIL1.out).mono ?_
    rintro e w5 ⟨hd, hb5⟩
    have HB5 := hide (below_trans HB1.out hb5)
    clear hb5
    cases hds : decS bs with
    | none =>
      rw [hds] at hd
      obtain rfl := hd
      clear hds
      go_wp2_with fail
      refine (works_any _).mono ?_
      rintro e w6 ⟨rfl, hb6⟩
      have HB6 := hide (below_trans HB5.out hb6)
      clear hb6
      go_wp2_with fail
      go_ret
      exact ⟨rfl, HB6.out⟩
    | some gs =>
      rw [hds] at hd
      obtain ⟨v5, rfl, hv5⟩ := hd
      obtain ⟨a5, c5, rfl, hc5, hn5⟩ := hv5.shape
      obtain ⟨hg1, hg2⟩ := enc_dec hds
      have HG2 := hide hg2
      have HV5 := hide hv5
      clear hds hv5 hg2
      go_wp2_with fail
      refine (encode_ok a5 gs.length c5 gs _ HV5.out.rdl hg1).mono ?_
      rintro e w6 ⟨v6, rfl, ho6, hb6⟩
      rw [HG2.out] at ho6
      obtain ⟨a6, c6, rfl⟩ := ho6.shape
      have HO6 := hide (Got.rd ho6 (by rw [HR1.out.1]; exact HR1.out.2.1))
      have HB6 := hide (below_trans HB5.out hb6)
      clear ho6 hb6
      go_wp2_with fail
      refine (same_eq a6 a1 bs.length c6 n1 cap1 bs _ HO6.out (HR1.out.below HB6.out)).mono ?_
      rintro e w7 ⟨rfl, hb7⟩
      have HB7 := hide (below_trans HB6.out hb7)
      clear hb7
      go_wp2_with fail
      refine (works_any _).mono ?_
      rintro e w8 ⟨rfl, hb8⟩
      have HB8 := hide (below_trans HB7.out hb8)
      clear hb8
      go_wp2_with fail
      go_ret
      exact ⟨rfl, HB8.out⟩
  have HK := hide hk
  have HEB := hide (enc_bound hk)
  clear hk
  go_enter Try.func8, Try.ntmps8
  go_wp2_with fail
  refine (encode_ok a n cap fs w HR.out HK.out).mono ?_
  rintro e w1 ⟨v1, rfl, ho1, hb1⟩
  obtain ⟨a2, c2, rfl⟩ := ho1.shape
  have HR2 := hide (Got.rd ho1 (by have := HEB.out; omega))
  have HC2 := hide (Got.cap ho1).1
  have HN2 : Hid (a2 = none → (encL fs).length = 0 ∧ c2 = 0) := fun h => Got.nil ho1 h
  have HB1 := hide hb1
  clear ho1 hb1
  go_wp2_with fail
  refine (decode_any a2 (encL fs).length c2 (encL fs) _ HR2.out HC2.out HN2.out).mono ?_
  rintro e w2 ⟨hd, hb2⟩
  rw [dec_enc fs HK.out (fun f hf => (HWF.out f hf).p)] at hd
  obtain ⟨v2, rfl, hv2⟩ := hd
  obtain ⟨a3, c3, rfl, hc3, hn3⟩ := hv2.shape
  have HB2 := hide (below_trans HB1.out hb2)
  have HV2 := hide hv2
  clear hv2 hb2 hc3 hn3
  go_wp2_with fail
  refine (sameF_eq a3 a fs.length c3 n cap fs _ HV2.out.rdl (HR.out.below HB2.out) (by have := HL.out; omega)).mono ?_
  rintro e w3 ⟨rfl, q3, rfl⟩
  have HB3 := hide (below_trans HB2.out (below_drewN' _ _ q3))
  generalize w2.drewN q3 = w3 at HB3
  by_cases hz0 : 0 ≤ z
  rotate_left
  · have hzd : ¬ (0 : Int) ≤ z := hz0
    go_wp2_with fail
    refine (decode_any a1 n1 cap1 bs _ (HR1.out.below HB3.out) hlc1 HNIL1.out).mono ?_
    rintro e w5 ⟨hd, hb5⟩
    have HB5 := hide (below_trans HB3.out hb5)
    clear hb5
    cases hds : decS bs with
    | none =>
      rw [hds] at hd
      obtain rfl := hd
      clear hds
      go_wp2_with fail
      refine (works_any _).mono ?_
      rintro e w6 ⟨rfl, hb6⟩
      have HB6 := hide (below_trans HB5.out hb6)
      clear hb6
      go_wp2_with fail
      go_ret
      exact ⟨rfl, HB6.out⟩
    | some gs =>
      rw [hds] at hd
      obtain ⟨v5, rfl, hv5⟩ := hd
      obtain ⟨a5, c5, rfl, hc5, hn5⟩ := hv5.shape
      obtain ⟨hg1, hg2⟩ := enc_dec hds
      have HG2 := hide hg2
      have HV5 := hide hv5
      clear hds hv5 hg2
      go_wp2_with fail
      refine (encode_ok a5 gs.length c5 gs _ HV5.out.rdl hg1).mono ?_
      rintro e w6 ⟨v6, rfl, ho6, hb6⟩
      rw [HG2.out] at ho6
      obtain ⟨a6, c6, rfl⟩ := ho6.shape
      have HO6 := hide (Got.rd ho6 (by rw [HR1.out.1]; exact HR1.out.2.1))
      have HB6 := hide (below_trans HB5.out hb6)
      clear ho6 hb6
      go_wp2_with fail
      refine (same_eq a6 a1 bs.length c6 n1 cap1 bs _ HO6.out (HR1.out.below HB6.out)).mono ?_
      rintro e w7 ⟨rfl, hb7⟩
      have HB7 := hide (below_trans HB6.out hb7)
      clear hb7
      go_wp2_with fail
      refine (works_any _).mono ?_
      rintro e w8 ⟨rfl, hb8⟩
      have HB8 := hide (below_trans HB7.out hb8)
      clear hb8
      go_wp2_with fail
      go_ret
      exact ⟨rfl, HB8.out⟩
  by_cases hzn : z ≤ (n : Int)
  rotate_left
  ·
    go_wp2_with fail
    refine (decode_any a1 n1 cap1 bs _ (HR1.out.below HB3.out) hlc1 HNIL1.out).mono ?_
    rintro e w5 ⟨hd, hb5⟩
    have HB5 := hide (below_trans HB3.out hb5)
    clear hb5
    cases hds : decS bs with
    | none =>
      rw [hds] at hd
      obtain rfl := hd
      clear hds
      go_wp2_with fail
      refine (works_any _).mono ?_
      rintro e w6 ⟨rfl, hb6⟩
      have HB6 := hide (below_trans HB5.out hb6)
      clear hb6
      go_wp2_with fail
      go_ret
      exact ⟨rfl, HB6.out⟩
    | some gs =>
      rw [hds] at hd
      obtain ⟨v5, rfl, hv5⟩ := hd
      obtain ⟨a5, c5, rfl, hc5, hn5⟩ := hv5.shape
      obtain ⟨hg1, hg2⟩ := enc_dec hds
      have HG2 := hide hg2
      have HV5 := hide hv5
      clear hds hv5 hg2
      go_wp2_with fail
      refine (encode_ok a5 gs.length c5 gs _ HV5.out.rdl hg1).mono ?_
      rintro e w6 ⟨v6, rfl, ho6, hb6⟩
      rw [HG2.out] at ho6
      obtain ⟨a6, c6, rfl⟩ := ho6.shape
      have HO6 := hide (Got.rd ho6 (by rw [HR1.out.1]; exact HR1.out.2.1))
      have HB6 := hide (below_trans HB5.out hb6)
      clear ho6 hb6
      go_wp2_with fail
      refine (same_eq a6 a1 bs.length c6 n1 cap1 bs _ HO6.out (HR1.out.below HB6.out)).mono ?_
      rintro e w7 ⟨rfl, hb7⟩
      have HB7 := hide (below_trans HB6.out hb7)
      clear hb7
      go_wp2_with fail
      refine (works_any _).mono ?_
      rintro e w8 ⟨rfl, hb8⟩
      have HB8 := hide (below_trans HB7.out hb8)
      clear hb8
      go_wp2_with fail
      go_ret
      exact ⟨rfl, HB8.out⟩
  obtain ⟨m, rfl⟩ := Int.eq_ofNat_of_zero_le hz0
  have hmn : m ≤ n := by omega
  have hmc : m ≤ cap := by omega
  have hmci : (m : Int) ≤ (cap : Int) := by omega
  have HCK := hide (chk_take HK.out m)
  go_wp2_with fail
  refine (check_any a m cap (fs.take m) _ ((HR.out.below HB3.out).cut m hmn)).mono ?_
  rintro e w4 ⟨rfl, hb4⟩
  have HB4 := hide (below_trans HB3.out hb4)
  rw [HCK.out]
  clear hb4
  go_wp2_with fail
  refine (decode_any a1 n1 cap1 bs _ (HR1.out.below HB4.out) hlc1 HNIL1.out).mono ?_
  rintro e w5 ⟨hd, hb5⟩
  have HB5 := hide (below_trans HB4.out hb5)
  clear hb5
  cases hds : decS bs with
  | none =>
    rw [hds] at hd
    obtain rfl := hd
    clear hds
    go_wp2_with fail
    refine (works_any _).mono ?_
    rintro e w6 ⟨rfl, hb6⟩
    have HB6 := hide (below_trans HB5.out hb6)
    clear hb6
    go_wp2_with fail
    go_ret
    exact ⟨rfl, HB6.out⟩
  | some gs =>
    rw [hds] at hd
    obtain ⟨v5, rfl, hv5⟩ := hd
    obtain ⟨a5, c5, rfl, hc5, hn5⟩ := hv5.shape
    obtain ⟨hg1, hg2⟩ := enc_dec hds
    have HG2 := hide hg2
    have HV5 := hide hv5
    clear hds hv5 hg2
    go_wp2_with fail
    refine (encode_ok a5 gs.length c5 gs _ HV5.out.rdl hg1).mono ?_
    rintro e w6 ⟨v6, rfl, ho6, hb6⟩
    rw [HG2.out] at ho6
    obtain ⟨a6, c6, rfl⟩ := ho6.shape
    have HO6 := hide (Got.rd ho6 (by rw [HR1.out.1]; exact HR1.out.2.1))
    have HB6 := hide (below_trans HB5.out hb6)
    clear ho6 hb6
    go_wp2_with fail
    refine (same_eq a6 a1 bs.length c6 n1 cap1 bs _ HO6.out (HR1.out.below HB6.out)).mono ?_
    rintro e w7 ⟨rfl, hb7⟩
    have HB7 := hide (below_trans HB6.out hb7)
    clear hb7
    go_wp2_with fail
    refine (works_any _).mono ?_
    rintro e w8 ⟨rfl, hb8⟩
    have HB8 := hide (below_trans HB7.out hb8)
    clear hb8
    go_wp2_with fail
    go_ret
    exact ⟨rfl, HB8.out⟩
end Go.Proofs.Ytbmbhcjocgbbpaa.faultRound
