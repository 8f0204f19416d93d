/-
  The document's own tiles: same, Seal, Open.
-/
import Derived.Test.YtjikoamchbmhjaaCzRef
import Derived.Test.YtjikoamchbmhjaaCzSeal
import Derived.Laws.AppendOwnNone
namespace Go.Proofs.Ytjikoamchbmhjaa.Crc
set_option linter.unusedVariables false
open Go.Proofs.Ytjikoamchbmhjaa.Base
open Go.ChangeShapes Go.WideShapes Go.ChangeAt Go.RowKit
set_option maxHeartbeats 1000000 in
theorem refSame_any (a b : Option Addr) (la ca lb cb : Nat) (xs ys : List (BitVec 8)) (w : World) (hx : Rd w a la xs) (hy : Rd w b lb ys) :
    Calls Try.prog 24 #[.slice a la ca, .slice b lb cb] w fun e w' => e = .returned (.bool (decide (xs = ys))) ∧ Below w.heap.size w w' := by
  obtain ⟨hlx, hmx, hcx⟩ := hx
  obtain ⟨hly, hmy, hcy⟩ := hy
  have HLX := hide hlx
  have HLY := hide hly
  have HCX := hide hcx
  have HCY := hide hcy
  clear hlx hly hcx hcy
  by_cases hne : la = lb
  · subst hne
    have he : ((la : Int) != (la : Int)) = false := by simp
    go_enter Try.func24, Try.ntmps24
    go_wp2
    go_loopw [5] (fun i wr => ∃ k : Nat, k ≤ la ∧ i = .int .i64 k ∧ Hid (xs.take k = ys.take k) ∧ ∃ n, wr = w.drewN n) (fun i _ => la - (intOf i).toNat)
    case atStart => exact ⟨0, Nat.zero_le _, rfl, rfl, 0, rfl⟩
    case round =>
      obtain ⟨k, hk, rfl, HT, n, rfl⟩ := hrel
      by_cases hlt : k < la
      · obtain ⟨b1, o1, rfl, hb1, hc1⟩ := unhide HCX (by omega)
        obtain ⟨b2, o2, rfl, hb2, hc2⟩ := unhide HCY (by omega)
        have g1 := hc1 k hlt
        have g2 := hc2 k hlt
        clear hc1 hc2
        have hki : (k : Int) < (la : Int) := by omega
        generalize hX : xs.getD k 0 = x at g1
        generalize hY : ys.getD k 0 = y at g2
        have HX := hide hX
        have HY := hide hY
        clear hX hY
        by_cases hxy : x = y
        · subst hxy
          have hq : ((x.toNat : Int) != (x.toNat : Int)) = false := by simp
          go_wp2
          go_quiet (fail)
          go_wp2
          go_roundw
          case rel => exact ⟨k + 1, by omega, by go_num, take_eq_iff xs ys k (by have := HLX.out; omega) (by have := HLY.out; omega) HT.out (HX.out.trans HY.out.symm), n + nq, rfl⟩
          case measure => simp [intOf]; omega
        · have hq : ((x.toNat : Int) != (y.toNat : Int)) = true := by
            rw [bne_iff_ne]; intro h; exact hxy (BitVec.eq_of_toNat_eq (by omega))
          go_wp2
          go_quiet (fail)
          go_wp2
          go_ret
          refine ⟨ret_bool ?_, ?_⟩
          · symm; rw [decide_eq_false_iff_not]
            rintro rfl
            exact hxy (HX.out.symm.trans HY.out)
          · exact (below_drewN' _ _ _).trans (below_drewN' _ _ _)
      · go_wp2
        go_ret
        refine ⟨ret_bool ?_, below_drewN' _ _ _⟩
        symm; rw [decide_eq_true_iff]
        have h := HT.out
        rw [List.take_of_length_le (by have := HLX.out; omega), List.take_of_length_le (by have := HLY.out; omega)] at h
        exact h
  · have he : ((la : Int) != (lb : Int)) = true := by rw [bne_iff_ne]; omega
    go_enter Try.func24, Try.ntmps24
    go_wp2
    go_ret
    refine ⟨ret_bool ?_, Below.refl _ _⟩
    symm; rw [decide_eq_false_iff_not]
    rintro rfl
    exact hne (HLX.out.symm.trans HLY.out)
theorem top_byte (S : BitVec 32) : (S.toNat : Int) / (16777216 : Int) = (((S >>> 24).setWidth 8).toNat : Int) := by
  rw [BitVec.toNat_setWidth, BitVec.toNat_ushiftRight, Nat.shiftRight_eq_div_pow]
  have := lt32 S
  omega
set_option maxHeartbeats 1000000 in
theorem refSeal_any (a : Option Addr) (len cap : Nat) (bs : List (BitVec 8)) (w : World) (hr : Rd w a len bs) (hnil : a = none → len = 0 ∧ cap = 0) (hm : len ≤ 140737488351240) :
    Calls Try.prog 23 #[.slice a len cap] w fun e w' => ∃ g c, e = .returned (.slice (some ⟨g, 0, none⟩) (len + 4) c) ∧ w.heap.size ≤ g ∧ Own w' w.heap.size (.slice (some ⟨g, 0, none⟩) (len + 4) c) (tile bs) ∧ Below w.heap.size w w' := by
  have HL := hide hr.1
  have R := hide hr
  clear hr
  obtain ⟨i0, hi, hz0, hz1, hz2⟩ := info_parts info8
  go_enter Try.func23, Try.ntmps23
  have HE := hide (own_empty w w.heap.size (Nat.le_refl _))
  have HB0 : Hid (Below w.heap.size w (w.alloc (.cells #[] 5))) := (Below.refl _ _).alloc (Nat.le_refl _) _
  have key : ∀ (P : Prop), True := fun _ => trivial
  clear key
  obtain ⟨HAP⟩ : Nonempty (Hid (a = none ∨ ∃ ad, a = some ad)) := by
    cases a
    · exact ⟨.inl rfl⟩
    · exact ⟨.inr ⟨_, rfl⟩⟩
  rcases HAP.out with rfl | ⟨ad, rfl⟩
  · obtain ⟨rfl, rfl⟩ := hnil rfl
    have hbs : bs = [] := List.length_eq_zero_iff.1 HL.out
    subst hbs
    go_wp2_with (first
      | (at_builtin; refine wpList_append_own_none rfl _ _ 22 rfl w.heap.size 5 i0 1 Try.underlying22 hi (.slice (some ⟨w.heap.size, 0, none⟩) 0 0) 0 [] rfl HE.out rfl ?_)
      | fail)
    obtain ⟨v2, hv2⟩ : ∃ v2, v2 = Value.slice (some ⟨w.heap.size, 0, none⟩) 0 0 := ⟨_, rfl⟩
    rw [← hv2]
    have HO2 : Hid (Own (w.alloc (.cells #[] 5)) w.heap.size v2 []) := by rw [hv2]; exact HE.out
    have HBL : Hid (∀ q, v2.ownBlock = some q → w.heap.size ≤ q) := by rw [hv2]; intro q e; cases e; exact Nat.le_refl _
    have HB2 := HB0
    clear hv2
    refine (refSum_any _ _ _ _ _ (R.out.below HB2.out)).mono ?_
    rintro e w' ⟨rfl, hww⟩
    rw [← hww] at HB2 HO2
    clear hww
    have h0 := byte_val (sum ([] : List (BitVec 8)))
    have h1 := byte_val (sum ([] : List (BitVec 8)) >>> 8)
    have h2 := byte_val (sum ([] : List (BitVec 8)) >>> 16)
    have h3 := top_byte (sum ([] : List (BitVec 8)))
    have s1 := bshr 8 (sum ([] : List (BitVec 8)))
    have s2 := bshr 16 (sum ([] : List (BitVec 8)))
    have HSB : Hid (sumBytes (sum ([] : List (BitVec 8))) = [(sum ([] : List (BitVec 8))).setWidth 8, (sum ([] : List (BitVec 8)) >>> 8).setWidth 8, (sum ([] : List (BitVec 8)) >>> 16).setWidth 8, (sum ([] : List (BitVec 8)) >>> 24).setWidth 8]) := by
      show sumBytes (sum ([] : List (BitVec 8))) = _
      simp [sumBytes, byteAt]
    generalize (sum ([] : List (BitVec 8))).setWidth 8 = c0 at h0 HSB
    generalize (sum ([] : List (BitVec 8)) >>> 8).setWidth 8 = c1 at h1 HSB
    generalize (sum ([] : List (BitVec 8)) >>> 16).setWidth 8 = c2 at h2 HSB
    generalize (sum ([] : List (BitVec 8)) >>> 24).setWidth 8 = c3 at h3 HSB
    generalize sum ([] : List (BitVec 8)) >>> 8 = S1 at h1 s1
    generalize sum ([] : List (BitVec 8)) >>> 16 = S2 at h2 s2
    generalize hS : sum ([] : List (BitVec 8)) = S at *
    have HSS := hide hS
    clear hS
    have s1' : (S.toNat : Int) / (256 : Int) = (S1.toNat : Int) := s1
    have s2' : (S.toNat : Int) / (65536 : Int) = (S2.toNat : Int) := s2
    clear s1 s2
    have hsz := HB2.out.size
    go_wp2_with (
      at_builtin; refine wpList_append_own _ rfl _ _ 22 rfl w.heap.size 5 i0 (.int .u8 0) 1 1 Try.underlying22 hi hz0 hz1 hz2 rfl (by decide) v2 0 (vals ([] : List (BitVec 8))) rfl ?_ ⟨w'.heap.size, 0, none⟩ 4 4 [.int .u8 (c0.toNat : Int), .int .u8 (c1.toNat : Int), .int .u8 (c2.toNat : Int), .int .u8 (c3.toNat : Int)] rfl rfl (fun j u hu => (rd_new w' [c0, c1, c2, c3] (0, 0) (by simp)).cells j u hu) (vals_one [c0, c1, c2, c3]) (by unfold maxLen; omega) (by omega) (by simp; omega) ?_
      · have h := HO2.out.below ((Below.refl w'.heap.size w').alloc (Nat.le_refl _) (.cells #[.int .u8 (c0.toNat : Int), .int .u8 (c1.toNat : Int), .int .u8 (c2.toNat : Int), .int .u8 (c3.toNat : Int)] 5))
        unfold Own at h
        rw [HL.out] at h
        exact h
      intro v' w4 hown4 hgrow4 _
      have HO4 := hide hown4
      have HG4 := hide hgrow4
      clear hown4 hgrow4)
    go_ret
    have hsh : ∃ g c, v' = .slice (some ⟨g, 0, none⟩) (0 + 4) c := own_shape (n := 0 + 3) HO4.out
    obtain ⟨g, c, rfl⟩ := hsh
    have ho : Own w4 w.heap.size (.slice (some ⟨g, 0, none⟩) (0 + 4) c) (tile ([] : List (BitVec 8))) := by
      unfold tile
      rw [HSS.out, HSB.out]
      exact own_append HO4.out (by rw [HL.out]; rfl)
    exact ⟨g, c, rfl, ho.lt'.1, ho, ((HB2.out.alloc hsz _).grown HG4.out (by simp; omega) (fun q e => HBL.out q e))⟩
  · go_wp2_with (first
      | (at_builtin; refine wpList_append_own _ rfl _ _ 22 rfl w.heap.size 5 i0 (.int .u8 0) 1 1 Try.underlying22 hi hz0 hz1 hz2 rfl (by decide) (.slice (some ⟨w.heap.size, 0, none⟩) 0 0) 0 [] rfl HE.out ad len cap (vals bs) rfl (by rw [length_vals, HL.out]; omega) (fun j u hu => (R.out.below HB0.out).cellsAt ad rfl j u hu) (vals_one _) (by unfold maxLen; omega) (by omega) (by simp) ?_
         intro v2 w2 hown2 hgrow2 _
         have HO2 : Hid (Own w2 w.heap.size v2 bs) := by
           show Own _ _ _ _
           unfold Own
           rw [HL.out]
           rw [Nat.zero_add, List.nil_append] at hown2
           exact hown2
         have HB2 : Hid (Below w.heap.size w w2) := HB0.out.grown hgrow2 (by simp) (by intro k h; cases h; exact Nat.le_refl _)
         have HBL : Hid (∀ q, v2.ownBlock = some q → w.heap.size ≤ q) := fun q e => (World.ownsRow.lt hown2 q e).1
         clear hown2 hgrow2)
      | fail)
    refine (refSum_any _ _ _ _ _ (R.out.below HB2.out)).mono ?_
    rintro e w' ⟨rfl, hww⟩
    rw [← hww] at HB2 HO2
    clear hww
    have h0 := byte_val (sum bs)
    have h1 := byte_val (sum bs >>> 8)
    have h2 := byte_val (sum bs >>> 16)
    have h3 := top_byte (sum bs)
    have s1 := bshr 8 (sum bs)
    have s2 := bshr 16 (sum bs)
    have HSB : Hid (sumBytes (sum bs) = [(sum bs).setWidth 8, (sum bs >>> 8).setWidth 8, (sum bs >>> 16).setWidth 8, (sum bs >>> 24).setWidth 8]) := by
      show sumBytes (sum bs) = _
      simp [sumBytes, byteAt]
    generalize (sum bs).setWidth 8 = c0 at h0 HSB
    generalize (sum bs >>> 8).setWidth 8 = c1 at h1 HSB
    generalize (sum bs >>> 16).setWidth 8 = c2 at h2 HSB
    generalize (sum bs >>> 24).setWidth 8 = c3 at h3 HSB
    generalize sum bs >>> 8 = S1 at h1 s1
    generalize sum bs >>> 16 = S2 at h2 s2
    generalize hS : sum bs = S at *
    have HSS := hide hS
    clear hS
    have s1' : (S.toNat : Int) / (256 : Int) = (S1.toNat : Int) := s1
    have s2' : (S.toNat : Int) / (65536 : Int) = (S2.toNat : Int) := s2
    clear s1 s2
    have hsz := HB2.out.size
    go_wp2_with (
      at_builtin; refine wpList_append_own _ rfl _ _ 22 rfl w.heap.size 5 i0 (.int .u8 0) 1 1 Try.underlying22 hi hz0 hz1 hz2 rfl (by decide) v2 len (vals bs) rfl ?_ ⟨w'.heap.size, 0, none⟩ 4 4 [.int .u8 (c0.toNat : Int), .int .u8 (c1.toNat : Int), .int .u8 (c2.toNat : Int), .int .u8 (c3.toNat : Int)] rfl rfl (fun j u hu => (rd_new w' [c0, c1, c2, c3] (0, 0) (by simp)).cells j u hu) (vals_one [c0, c1, c2, c3]) (by unfold maxLen; omega) (by omega) (by simp; omega) ?_
      · have h := HO2.out.below ((Below.refl w'.heap.size w').alloc (Nat.le_refl _) (.cells #[.int .u8 (c0.toNat : Int), .int .u8 (c1.toNat : Int), .int .u8 (c2.toNat : Int), .int .u8 (c3.toNat : Int)] 5))
        unfold Own at h
        rw [HL.out] at h
        exact h
      intro v' w4 hown4 hgrow4 _
      have HO4 := hide hown4
      have HG4 := hide hgrow4
      clear hown4 hgrow4)
    go_ret
    have hsh : ∃ g c, v' = .slice (some ⟨g, 0, none⟩) (len + 4) c := own_shape (n := len + 3) HO4.out
    obtain ⟨g, c, rfl⟩ := hsh
    have ho : Own w4 w.heap.size (.slice (some ⟨g, 0, none⟩) (len + 4) c) (tile bs) := by
      unfold tile
      rw [HSS.out, HSB.out]
      exact own_append HO4.out (by rw [HL.out]; rfl)
    exact ⟨g, c, rfl, ho.lt'.1, ho, ((HB2.out.alloc hsz _).grown HG4.out (by simp; omega) (fun q e => HBL.out q e))⟩
theorem open_same (bs : List (BitVec 8)) (n : Nat) (h : bs.length = n + 4) : tile (bs.take n) = bs ↔ openErr bs = 0 := by
  constructor
  · intro e; rw [← e]; exact openErr_tile _
  · intro e
    have h1 := tile_open bs e
    unfold openBody at h1
    rw [if_pos e, h, Nat.add_sub_cancel] at h1
    exact h1
set_option maxHeartbeats 1000000 in
theorem refOpen_any (a : Option Addr) (len cap : Nat) (bs : List (BitVec 8)) (w : World) (hr : Rd w a len bs) (hcap : len ≤ cap) (hm : len ≤ 140737488351240) :
    Calls Try.prog 12 #[.slice a len cap] w fun e w' => ∃ v, e = .returned (.tuple #[v, .int .i64 (openErr bs : Nat)]) ∧ Got w' w.heap.size v (openBody bs) ∧ Below w.heap.size w w' := by
  have HL := hide hr.1
  by_cases h4 : len < 4
  · have hs : ((len : Int) < 4) := by omega
    go_enter Try.func12, Try.ntmps12
    go_wp2
    go_ret2
    have e : openErr bs = 11 := open_short bs (by have := HL.out; omega)
    refine ⟨.slice none 0 0, by rw [e]; rfl, ⟨none, 0, 0, rfl, ?_, ?_⟩, Below.refl _ _⟩
    · simp [openBody, e]
    · simp [openBody, e]; exact World.ownsRow_nil _ _ _ _
  · obtain ⟨n, rfl⟩ : ∃ n, len = n + 4 := ⟨len - 4, by omega⟩
    have R := hide hr
    clear hr
    obtain ⟨b, off, rfl, hbl, -⟩ := R.out.2.2 (by omega)
    have hsub : (((n + 4 : Nat) : Int) - 4) = (n : Int) := by omega
    have hnc : n ≤ cap := by omega
    obtain ⟨i0, hi, hz0, hz1, hz2⟩ := info_parts info8
    have HE := hide (own_empty w w.heap.size (Nat.le_refl _))
    have HB0 : Hid (Below w.heap.size w (w.alloc (.cells #[] 5))) := (Below.refl _ _).alloc (Nat.le_refl _) _
    have LT : Hid ((bs.take n).length = n) := by
      show (bs.take n).length = n
      rw [List.length_take, HL.out]; omega
    have HOS := hide (open_same bs n HL.out)
    go_enter Try.func12, Try.ntmps12
    go_wp2_with (first
      | (at_builtin; refine wpList_append_own _ rfl _ _ 22 rfl w.heap.size 5 i0 (.int .u8 0) 1 1 Try.underlying22 hi hz0 hz1 hz2 rfl (by decide) (.slice (some ⟨w.heap.size, 0, none⟩) 0 0) 0 [] rfl HE.out ⟨b, off, none⟩ n cap (vals (bs.take n)) rfl (by rw [length_vals, LT.out]; omega) (fun j u hu => ((R.out.below HB0.out).cut n (by omega)).cellsAt _ rfl j u hu) (vals_one _) (by unfold maxLen; omega) (by omega) (by simp) ?_
         intro v2 w2 hown2 hgrow2 _
         have HO2 : Hid (Own w2 w.heap.size v2 (bs.take n)) := by
           show Own _ _ _ _
           unfold Own
           rw [LT.out]
           rw [Nat.zero_add, List.nil_append] at hown2
           exact hown2
         have hown3 := hown2
         rw [Nat.zero_add] at hown3
         obtain ⟨a4, c4, rfl⟩ := own_any_shape hown3
         have HB2 : Hid (Below w.heap.size w w2) := HB0.out.grown hgrow2 (by simp) (by intro k h; cases h; exact Nat.le_refl _)
         clear hown2 hgrow2 hown3)
      | fail)
    refine (refSeal_any _ _ _ _ _ (Got.rd HO2.out (by rw [LT.out]; omega)) (Got.nil HO2.out) (by omega)).mono ?_
    rintro e w3 ⟨g3, c3, rfl, hg3, ho3, hb3⟩
    have HO3 := hide ho3
    have HO2' := hide (HO2.out.below hb3)
    have HB3 := hide (below_trans HB2.out hb3)
    clear ho3 hb3 HO2 HB2
    go_wp2_with fail
    refine (refSame_any _ _ _ _ _ _ _ _ _ (HO3.out.rd (by rw [length_tile, LT.out]; omega)) (R.out.below HB3.out)).mono ?_
    rintro e w4 ⟨rfl, hb4⟩
    have HO4 := hide (HO2'.out.below hb4)
    have HB4 := hide (below_trans HB3.out hb4)
    clear hb4 HO2' HB3 HO3
    by_cases hs : openErr bs = 0
    · have hd : decide (tile (bs.take n) = bs) = true := by rw [decide_eq_true_iff]; exact HOS.out.2 hs
      rw [hd]
      have EB : Hid (openBody bs = bs.take n) := by
        show openBody bs = _
        unfold openBody; rw [if_pos hs, HL.out, Nat.add_sub_cancel]
      have E0 := hide hs
      clear hd hs
      go_wp2_with fail
      go_ret2
      exact ⟨_, by rw [E0.out]; rfl, ⟨a4, n, c4, rfl, by rw [EB.out, LT.out], by rw [EB.out]; exact HO4.out⟩, HB4.out⟩
    · have hd : decide (tile (bs.take n) = bs) = false := by rw [decide_eq_false_iff_not]; exact fun h => hs (HOS.out.1 h)
      rw [hd]
      have E0 : Hid (openErr bs = 10) := by
        show openErr bs = 10
        unfold openErr at hs ⊢
        rw [if_neg (by have := HL.out; omega)] at hs ⊢
        split at hs
        · exact absurd rfl hs
        · rename_i hq; rw [if_neg hq]
      have EB : Hid (openBody bs = []) := by
        show openBody bs = _
        unfold openBody; rw [if_neg hs]
      clear hd hs
      go_wp2_with fail
      go_ret2
      exact ⟨.slice none 0 0, by rw [E0.out]; rfl, ⟨none, 0, 0, rfl, by rw [EB.out]; rfl, by rw [EB.out]; exact World.ownsRow_nil _ _ _ _⟩, HB4.out⟩
end Go.Proofs.Ytjikoamchbmhjaa.Crc
