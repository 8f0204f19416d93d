/-
  The walk of the statement LzTotal.
-/
import Derived.Test.YtckfkilpoimikaaLzTotalMath
namespace Go.Proofs.Ytckfkilpoimikaa.lzTotal
open Go.ChangeShapes Go.WideShapes Go.ChangeAt Go.RowKit
open Go.Proofs.Ytckfkilpoimikaa.Base Go.Proofs.Ytckfkilpoimikaa.Nums Go.Proofs.Ytckfkilpoimikaa.Lz
set_option linter.unusedVariables false
set_option maxHeartbeats 1000000 in
set_option maxRecDepth 100000 in
theorem walk (a0 : Option Addr) (len0 cap0 : Nat) (b0 : List (BitVec 8)) (n1 n2 : Int) (w : World) (r0 : Rd w a0 len0 b0) (l0 : len0 ≤ cap0) (m0 : cap0 ≤ 140737488351232) (z0 : a0 = none → len0 = 0 ∧ cap0 = 0) (w1 : (Lit.int .i64 n1).wf = true) (w2 : (Lit.int .u8 n2).wf = true) :
    Calls Try.prog 5 #[.slice a0 len0 cap0, .int .i64 n1, .int .u8 n2] w fun e w' => e = .returned (.bool true) ∧ Below w.heap.size w w' := by
  obtain ⟨hc0, hc1⟩ := wf_u8 w2
  obtain ⟨c, rfl⟩ : ∃ c : BitVec 8, n2 = (c.toNat : Int) := ⟨BitVec.ofNat 8 n2.toNat, by rw [BitVec.toNat_ofNat]; omega⟩
  have hbn := bounds_i64 w1
  have HL := hide r0.1
  have R0 := hide r0
  have HC := hide (dec_cases b0 n1)
  clear r0 hc0 hc1 w1 w2
  go_enter Try.func5, Try.ntmps5
  go_wp2_with fail
  refine (works_any w).mono ?_
  rintro e w3 ⟨rfl, hb3⟩
  have HB3 := hide hb3
  clear hb3
  go_wp2_with fail
  refine (decode_any a0 len0 cap0 b0 n1 w3 (R0.out.below HB3.out) l0 (by omega)).mono ?_
  rintro e w4 ⟨v4, rfl, ho4, hb4⟩
  have HB4 := hide (below_trans HB3.out hb4)
  have HO4 := hide ho4
  clear hb4 ho4 HB3
  obtain ⟨a4, n4, c4, rfl, HN4⟩ := own_named HO4.out
  go_wp2_with fail
  refine (tokens_any a0 len0 cap0 b0 n1 w4 (R0.out.below HB4.out) l0 (by omega)).mono ?_
  rintro e w5 ⟨v5, ps, rfl, ho5, hps, hb5⟩
  have HB5 := hide (below_trans HB4.out hb5)
  have HO45 := hide (HO4.out.below hb5)
  have HO5 := hide ho5
  have HPS := hide hps
  clear hb5 ho5 hps HB4 HO4
  obtain ⟨a5, n5, c5, rfl, HN5⟩ := toks_named HO5.out
  rcases HC.out with ⟨hn, hd, ht⟩ | ⟨m, rfl, hm, hd, ht⟩ | ⟨m, ts, rfl, hm, hrd, hd, ht⟩
  · rw [hd] at HN4 HO45 ⊢
    rw [ht] at HPS ⊢
    simp only at HN4 HO45 HPS ⊢
    have hn4 : n4 = 0 := HN4.out
    subst hn4
    clear hd ht HC
    rcases hn with hn | hn
    · go_wp2_with fail
      go_ret
      exact ⟨rfl, HB5.out⟩
    · have hnn : ¬ n1 < 0 := by omega
      go_wp2_with fail
      go_ret
      exact ⟨rfl, HB5.out⟩
  · rw [hd] at HN4 HO45 ⊢
    rw [ht] at HPS ⊢
    simp only at HN4 HO45 HPS ⊢
    have hn4 : n4 = 0 := HN4.out
    have hn5 : n5 = 0 := by
      have h := HPS.out
      have : ps = [] := by simpa using h
      rw [HN5.out, this]; rfl
    subst hn4
    subst hn5
    have hmi : ¬ (65536 : Int) < (m : Int) := by omega
    clear hd ht HC
    go_wp2_with fail
    go_ret
    exact ⟨rfl, HB5.out⟩
  · rw [hd] at HN4 HO45 ⊢
    rw [ht] at HPS ⊢
    simp only at HN4 HO45 HPS ⊢
    obtain ⟨hg, hbs⟩ := read_ok _ b0 0 m ts (Nat.le_refl _) (Nat.zero_le _) hm hrd
    have HG := hide hg
    have hel := length_expand ts [] m hg
    have hn4 : n4 = m := by rw [HN4.out, hel]
    subst hn4
    have hsh := good_short ts 0 n4 hm hg
    have hgb := good_bytes ts 0 n4 hm hg
    rw [← hbs] at hsh hgb
    rw [HL.out] at hsh hgb
    have hlen : (len0 : Int) ≤ 1835008 := by omega
    have hsh2 : (n4 : Int) ≤ 65 * (len0 : Int) := by omega
    have HWR := hide (written_good ts n4 hm hg)
    rw [← hbs] at HWR
    have HLO := hide (decoded_err (b0 ++ [c]) n4 hm (read_longer b0 [c] 0 n4 ts (Nat.zero_le _) hm (by simp) hrd))
    have HSH : Hid (0 < len0 → decoded (b0.take (len0 - 1)) (n4 : Int) = ([], 30)) := fun hp => by
      refine decoded_err _ n4 hm (read_shorter (b0.take (len0 - 1)) (b0.drop (len0 - 1)) 0 n4 ts (Nat.zero_le _) hm ?_ (by rw [List.take_append_drop]; exact hrd))
      intro e
      have := congrArg List.length e
      rw [List.length_drop, HL.out] at this
      simp at this; omega
    have HTR := hide (toks_trd HO5.out HPS.out hg hm)
    have hmi : ¬ (65536 : Int) < (n4 : Int) := by omega
    have hmi2 : (n4 : Int) ≤ 65536 := by omega
    clear hd ht HC hrd hg hbs hel hsh hgb hm
    go_wp2_with fail
    refine (write_any a5 n5 c5 ts w5 HTR.out).mono ?_
    rintro e w6 ⟨v6, rfl, ho6, hb6⟩
    rw [HWR.out] at ho6 ⊢
    simp only at ho6 ⊢
    have HB6 := hide (below_trans HB5.out hb6)
    have HO6 := hide ho6
    clear hb6 ho6 HB5 HO45 HO5 HTR HPS
    obtain ⟨a6, n6, c6, rfl, HN6⟩ := own_named HO6.out
    have R6 := hide (R0.out.below HB6.out)
    have HE6 : Hid (Own (w6.alloc (.cells #[] 5)) w6.heap.size (.slice (some ⟨w6.heap.size, 0, none⟩) 0 0) []) := own_empty w6 w6.heap.size (Nat.le_refl _)
    have HBA : Hid (Below w6.heap.size w6 (w6.alloc (.cells #[] 5))) := (Below.refl _ _).alloc (Nat.le_refl _) _
    go_wp2_with (at_builtin
                 first
                 | (refine join _ rfl _ _ rfl w6.heap.size _ [] rfl HE6.out a0 len0 cap0 b0 rfl (R6.out.below HBA.out) z0 (by simp; omega) HBA.out.size ?_
                    intro v7 w7 ho7 hg7
                    have HO7 := hide ho7
                    have HB7 : Hid (Below w6.heap.size w6 w7) := HBA.out.grown hg7 HBA.out.size (fun k e => by cases e; exact Nat.le_refl _)
                    obtain ⟨a7, n7, c7, hv7, HN7⟩ := own_named ho7
                    subst hv7
                    have hs7 := HB7.out.size
                    clear ho7 hg7)
                 | (refine push _ rfl _ _ rfl w6.heap.size _ ([] ++ b0) rfl (HO7.out.below ((Below.refl w7.heap.size w7).alloc (Nat.le_refl _) _)) ⟨w7.heap.size, 0, none⟩ 1 c rfl (cell_one_new _ _ _ 0 _ rfl) (by have := HL.out; simp; omega) (by simp; omega) ?_
                    intro v8 w8 ho8 hg8
                    have HO8 := hide ho8
                    have HB8 : Hid (Below w6.heap.size w6 w8) := (HB7.out.alloc hs7 _).grown hg8 (by simp; omega) (own_blk HO7.out)
                    obtain ⟨a8, n8, c8, hv8, HN8⟩ := own_named ho8
                    subst hv8
                    have hr8 := ho8.room
                    have hc8 := (Got.cap ho8).1
                    clear ho8 hg8))
    refine (decode_any a8 n8 c8 ([] ++ b0 ++ [c]) (n4 : Int) w8 (Got.rd HO8.out (by have := HL.out; simp; omega)) hc8 hr8).mono ?_
    rintro e w9 ⟨v9, rfl, ho9, hb9⟩
    have HLO' : Hid (decoded ([] ++ b0 ++ [c]) (n4 : Int) = ([], 30)) := HLO
    rw [HLO'.out] at ho9 ⊢
    simp only at ho9 ⊢
    have HB9 := hide (below_trans (below_trans HB6.out HB8.out) hb9)
    have HO69 := hide ((HO6.out.below HB8.out).below hb9)
    clear hb9 ho9 HB8 HB7 HBA HE6 HO6 HO7 HO8 R6 HLO HLO'
    by_cases hp : 0 < len0
    · have hpi : (0 : Int) < (len0 : Int) := by omega
      obtain ⟨lm, hlm⟩ : ∃ lm, lm + 1 = len0 := ⟨len0 - 1, by omega⟩
      have hlmi : (len0 : Int) - 1 = (lm : Int) := by omega
      have hlmc : (lm : Int) ≤ (cap0 : Int) := by omega
      have HSH2 := hide (HSH.out hp)
      rw [show len0 - 1 = lm by omega] at HSH2
      obtain ⟨ab, ao, rfl, _, _⟩ := R0.out.2.2 hp
      have HR9 := hide ((R0.out.below HB9.out).cut lm (by omega))
      have q1 : ((n4 : Int) == (n4 : Int)) = true := by simp
      go_wp2_with fail
      refine (decode_any (some ⟨ab, ao, none⟩) lm cap0 (b0.take lm) (n4 : Int) w9 HR9.out (by omega) (by omega)).mono ?_
      rintro e w10 ⟨v10, rfl, ho10, hb10⟩
      rw [HSH2.out] at ho10 ⊢
      simp only at ho10 ⊢
      have HB10 := hide (below_trans HB9.out hb10)
      have HO10 := hide (HO69.out.below hb10)
      clear hb10 ho10 HB9 HO69 HR9
      go_wp2_with fail
      refine (sameBytes_eq _ _ _ _ _ _ b0 w10 (Got.rd HO10.out (by have := HL.out; omega)) (R0.out.below HB10.out)).mono ?_
      rintro e w11 ⟨rfl, hb11⟩
      have HB11 := hide (below_trans HB10.out hb11)
      clear hb11
      go_wp2_with fail
      go_ret
      exact ⟨rfl, HB11.out⟩
    · have hpi : ¬ (0 : Int) < (len0 : Int) := by omega
      have q1 : ((n4 : Int) == (n4 : Int)) = true := by simp
      go_wp2_with fail
      refine (sameBytes_eq _ _ _ _ _ _ b0 w9 (Got.rd HO69.out (by have := HL.out; omega)) (R0.out.below HB9.out)).mono ?_
      rintro e w11 ⟨rfl, hb11⟩
      have HB11 := hide (below_trans HB9.out hb11)
      clear hb11
      go_wp2_with fail
      go_ret
      exact ⟨rfl, HB11.out⟩
end Go.Proofs.Ytckfkilpoimikaa.lzTotal
