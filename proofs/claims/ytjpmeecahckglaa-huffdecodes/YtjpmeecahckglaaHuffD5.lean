/-
  The lengths at the head of bytes: the document's own reading.
-/
import Derived.Test.YtjpmeecahckglaaHuffD4
import Derived.Test.YtjpmeecahckglaaNumsRefG
namespace Go.Proofs.Ytjpmeecahckglaa.Huff
open Go.ChangeShapes Go.WideShapes Go.ChangeAt Go.RowKit
open Go.Proofs.Ytjpmeecahckglaa.Base
set_option linter.unusedVariables false
theorem get_nil : Nums.get [] = (0, 0, 20) := rfl
theorem get_zero (cs : List (BitVec 8)) : Nums.get (0 :: cs) = (0, 1, 0) := rfl
theorem get_pos (c : BitVec 8) (cs : List (BitVec 8)) (h : c.toNat ≠ 0) (he : (Nums.get (c :: cs)).2.2 = 0) : (Nums.get (c :: cs)).1 ≠ 0 := by
  rcases Nums.get_cases (c :: cs) with ⟨u, m, h1, h2, h3, h4, h5, h6⟩ | ⟨h1, _⟩ | ⟨h1, _⟩
  · rw [h1]
    show u ≠ 0
    rintro rfl
    rw [Nums.put_small 0 (by omega)] at h5
    obtain ⟨k, rfl⟩ : ∃ k, m = k + 1 := ⟨m - 1, by omega⟩
    rw [List.take_succ_cons] at h5
    have := (List.cons.inj h5).1
    rw [← this] at h
    exact h (Nums.B8_toNat 0 (by omega))
  · rw [h1] at he; cases he
  · rw [h1] at he; cases he
theorem zero8 (c : BitVec 8) (h : c.toNat = 0) : c = 0 := BitVec.eq_of_toNat_eq h
set_option maxHeartbeats 2000000 in
set_option maxRecDepth 100000 in
theorem readLens_any (a : Option Addr) (len cap : Nat) (bs : List (BitVec 8)) (w : World) (hr : Rd w a len bs) (hcap : len ≤ cap) :
    Calls Try.prog 32 #[.slice a len cap] w fun e w' => ∃ (v1 : Value) (p : Nat) (ok : Bool), e = .returned (.tuple #[v1, .int .i64 (p : Int), .bool ok]) ∧ Below w.heap.size w w' ∧ (ok = false ∧ lensOf bs = none ∨ ok = true ∧ p ≤ len ∧ ∃ ls a1 c1, lensOf bs = some (ls, bs.drop p) ∧ v1 = .slice a1 ls.length c1 ∧ OwnI w' w.heap.size v1 ls) := by
  have HR := hide hr
  have HCAP := hide hcap
  have HL := hide hr.1
  have hleni : (len : Int) ≤ 140737488355328 := by have := hr.2.1; omega
  have hlen : len ≤ 140737488355328 := hr.2.1
  clear hr hcap
  go_enter Try.func32, Try.ntmps32
  go_wp2_with fail
  go_loopw [5, 6] (fun sl sp wr => ∃ (p : Nat) (la : Option Addr) (ln lc : Nat) (ls : List Int) (T : Int), sp = .int .i64 (p : Int) ∧ sl = .slice la ln lc ∧ p ≤ len ∧ ln ≤ 256 ∧ -1 ≤ T ∧ T ≤ 15 ∧ Hid (LState bs (bs.drop p) ls ∧ lastLen ls = T ∧ ls.length = ln ∧ OwnI wr w.heap.size (.slice la ln lc) ls ∧ Below w.heap.size w wr)) (fun _ sp _ => len - (intOf sp).toNat)
  case atStart => exact ⟨0, none, 0, 0, [], -1, rfl, rfl, Nat.zero_le _, by omega, by omega, by omega, by simpa using lstate_start bs, rfl, rfl, ownI_none _ _, Below.refl _ _⟩
  case round =>
    obtain ⟨p, la, ln, lc, ls, T, rfl, rfl, hp, hln, hT1, hT2, H⟩ := hrel
    have hsz : w.heap.size ≤ wr.heap.size := H.out.2.2.2.2.size
    have hlni : (ln : Int) ≤ 256 := by omega
    have hpi : (p : Int) ≤ (len : Int) := by omega
    have HLN := hide H.out.2.2.1
    have HLAST : Hid (∀ W : World, OwnI W w.heap.size (.slice la ln lc) ls → ∀ m, ln = m + 1 → ∃ g o, la = some ⟨g, o, none⟩ ∧ W.cell? ⟨g, o + m, none⟩ = some (.int .i64 T)) := by
      show ∀ W : World, _
      intro W hW m hm
      obtain ⟨g, o, e1, _, e3⟩ := (hW.rd (by have := HLN.out; omega)).2.2 (by omega)
      refine ⟨g, o, e1, ?_⟩
      rw [e3 m (by omega), ← H.out.2.1, lastLen_get ls (by have := HLN.out; omega), HLN.out, hm, Nat.add_sub_cancel]
    by_cases hlt : p < len
    · obtain ⟨b1, o1, rfl, hb1, hc1⟩ := HR.out.2.2 (by omega)
      have hlti : (p : Int) < (len : Int) := by omega
      obtain ⟨c0, hc0⟩ : ∃ c0, bs.getD p 0 = c0 := ⟨_, rfl⟩
      have hdrop : bs.drop p = c0 :: bs.drop (p + 1) := by
        rw [List.drop_eq_getElem_cons (by rw [HL.out]; exact hlt), ← hc0, List.getD_eq_getElem?_getD, List.getElem?_eq_getElem (by rw [HL.out]; exact hlt)]; rfl
      have g0 : wr.cell? ⟨b1, o1 + p, none⟩ = some (.int .u8 (c0.toNat : Int)) := by
        rw [H.out.2.2.2.2.cell (p := ⟨b1, o1 + p, none⟩) hb1, hc1 p hlt, hc0]
      by_cases hz : c0.toNat = 0
      · obtain rfl : c0 = 0 := zero8 c0 hz
        have HE := hide (lstate_end H.out.1)
        rw [hdrop, get_zero] at HE
        have HE2 := hide (HE.out rfl rfl)
        rw [show ((0 : BitVec 8).toNat : Int) = 0 from rfl] at g0
        have HD : Hid ((0 :: bs.drop (p + 1) : List (BitVec 8)).drop 1 = bs.drop (p + 1)) := rfl
        rw [HD.out] at HE2
        clear hc1 hc0 hdrop HE hz
        by_cases hn0 : ln = 0
        · subst hn0
          have hT : T = -1 := by rw [← H.out.2.1, List.length_eq_zero_iff.1 HLN.out]; rfl
          have HN : Hid (lensOf bs = some (ls, bs.drop (p + 1))) := by show _ = _; rw [HE2.out, if_neg (by rw [H.out.2.1, hT]; decide)]
          clear hT
          go_wp2_with fail
          go_ret3
          refine ⟨.slice la 0 lc, p + 1, true, by go_num, H.out.2.2.2.2, .inr ⟨rfl, by omega, ls, la, lc, HN.out, by rw [HLN.out], H.out.2.2.2.1⟩⟩
        · obtain ⟨m, rfl⟩ : ∃ m, ln = m + 1 := ⟨ln - 1, by omega⟩
          obtain ⟨g, o, rfl, gl⟩ := HLAST.out wr H.out.2.2.2.1 m rfl
          have hm1 : ((m + 1 : Nat) : Int) - 1 = (m : Int) := by omega
          have hm2 : (m : Int) < ((m + 1 : Nat) : Int) := by omega
          have hm3 : (0 : Int) < ((m + 1 : Nat) : Int) := by omega
          by_cases hT : T = 0
          · subst hT
            have HN : Hid (lensOf bs = none) := by show _ = _; rw [HE2.out, if_pos H.out.2.1]
            go_wp2_with fail
            go_ret3
            exact ⟨_, 0, false, rfl, H.out.2.2.2.2, .inl ⟨rfl, HN.out⟩⟩
          · have HN : Hid (lensOf bs = some (ls, bs.drop (p + 1))) := by show _ = _; rw [HE2.out, if_neg (by rw [H.out.2.1]; exact hT)]
            have hTb : (T == 0) = false := by rw [beq_eq_false_iff_ne]; exact hT
            clear hT
            go_wp2_with fail
            go_ret3
            refine ⟨.slice (some ⟨g, o, none⟩) (m + 1) lc, p + 1, true, by go_num, H.out.2.2.2.2, .inr ⟨rfl, by omega, ls, _, lc, HN.out, by rw [HLN.out], H.out.2.2.2.1⟩⟩
      · have hzi : ((c0.toNat : Int) != 0) = true := by rw [bne_iff_ne]; omega
        obtain ⟨la2, hcut, hla, hsp, hbl⟩ := cut_l b1 o1 len cap p hp HCAP.out
        have hRp : Rd w (some la2) (len - p) (bs.drop p) := HR.out.past p hp la2 hla
        have HGET := hide (Nums.refGet_any (some la2) (len - p) (cap - p) (bs.drop p) wr (hRp.below H.out.2.2.2.2))
        have HPOS := hide (get_pos c0 (bs.drop (p + 1)) hz)
        rw [← hdrop] at HPOS
        have HS := hide (get_says (bs.drop p))
        have HBAD := hide (lstate_bad H.out.1)
        have HSTP := hide (lstate_stop H.out.1)
        have HWRG := hide (fun c cs => lstate_wrong (c := c) (cs := cs) H.out.1)
        have HNXT := hide (fun c cs => lstate_next (c := c) (cs := cs) H.out.1)
        obtain ⟨rn, hrn⟩ : ∃ rn, (Nums.get (bs.drop p)).1 = rn := ⟨_, rfl⟩
        obtain ⟨sz, hszz⟩ : ∃ sz, (Nums.get (bs.drop p)).2.1 = sz := ⟨_, rfl⟩
        obtain ⟨er, her⟩ : ∃ er, (Nums.get (bs.drop p)).2.2 = er := ⟨_, rfl⟩
        simp only [hrn, hszz, her] at HGET HS HBAD HSTP HWRG HNXT HPOS
        have HDD : Hid (∀ x, (bs.drop p).drop x = bs.drop (p + x)) := fun x => List.drop_drop
        clear hrn hszz her hla hsp hbl hdrop hz hc0
        by_cases h0 : er = 0
        · subst h0
          rw [show ((0 : Nat) : Int) = 0 from rfl] at HGET
          obtain ⟨s1, s2, s3⟩ : 1 ≤ sz ∧ sz ≤ len - p ∧ rn ≤ 9223372036854775807 := by
            rcases HS.out with ⟨_, q1, q2, q3⟩ | q
            · rw [List.length_drop, HL.out] at q2; exact ⟨q1, q2, q3⟩
            · exact absurd rfl q
          have hr0 : rn ≠ 0 := HPOS.out rfl
          have hrn1 : ¬ (rn : Int) < 1 := by omega
          have hszi : (sz : Int) ≤ 140737488355328 := by omega
          by_cases hgt : 256 - ln < rn
          · have HN := hide (HBAD.out (.inr (by rw [HLN.out]; exact hgt)))
            have hgt1 : 256 - (ln : Int) < (rn : Int) := by omega
            clear HBAD HSTP HWRG HNXT hgt hc1
            go_wp2_with (go_at_call 49; refine HGET.out.mono ?_; rintro e w1 ⟨rfl, hb1⟩; have HB1 := hide (below_trans H.out.2.2.2.2 hb1); have HB01 := hide hb1; clear hb1)
            go_ret3
            exact ⟨_, 0, false, rfl, HB1.out, .inl ⟨rfl, HN.out⟩⟩
          have hgt1 : ¬ 256 - (ln : Int) < (rn : Int) := by omega
          have hrnb : rn ≤ 256 := by omega
          by_cases hend : len ≤ p + sz
          · have HN := hide (HSTP.out hr0 (by rw [HDD.out]; exact List.drop_eq_nil_of_le (by rw [HL.out]; exact hend)))
            have hendi : (len : Int) ≤ (p : Int) + (sz : Int) := by omega
            clear HBAD HSTP HWRG HNXT hgt hc1
            go_wp2_with (go_at_call 49; refine HGET.out.mono ?_; rintro e w1 ⟨rfl, hb1⟩; have HB1 := hide (below_trans H.out.2.2.2.2 hb1); have HB01 := hide hb1; clear hb1)
            go_ret3
            exact ⟨_, 0, false, rfl, HB1.out, .inl ⟨rfl, HN.out⟩⟩
          have hendi : ¬ (len : Int) ≤ (p : Int) + (sz : Int) := by omega
          have hendj : (p : Int) + (sz : Int) < (len : Int) := by omega
          obtain ⟨c, hc⟩ : ∃ c, bs.getD (p + sz) 0 = c := ⟨_, rfl⟩
          have HCS : Hid ((bs.drop p).drop sz = c :: bs.drop (p + sz + 1)) := by
            show _ = _
            rw [HDD.out, List.drop_eq_getElem_cons (by rw [HL.out]; omega), ← hc, List.getD_eq_getElem?_getD, List.getElem?_eq_getElem (by rw [HL.out]; omega)]; rfl
          have HCELL : Hid (∀ W : World, Below w.heap.size w W → W.cell? ⟨b1, o1 + (p + sz), none⟩ = some (.int .u8 (c.toNat : Int))) := by
            show ∀ W : World, _
            intro W hW
            rw [hW.cell (p := ⟨b1, o1 + (p + sz), none⟩) hb1, hc1 (p + sz) (by omega), hc]
          have hc8 := lt8 c
          have hc8i : (c.toNat : Int) < 256 := by omega
          clear hc HBAD HSTP hc1
          by_cases hc1 : 15 < c.toNat
          · have HN := hide (HWRG.out c _ hr0 HCS.out (.inl hc1))
            have hc1i : 15 < (c.toNat : Int) := by omega
            clear HWRG HNXT hgt
            go_wp2_with (go_at_call 49; refine HGET.out.mono ?_; rintro e w1 ⟨rfl, hb1⟩; have HB1 := hide (below_trans H.out.2.2.2.2 hb1); have HB01 := hide hb1; have g1 : w1.cell? ⟨b1, o1 + (p + sz), none⟩ = some (.int .u8 (c.toNat : Int)) := HCELL.out w1 HB1.out; clear hb1)
            go_ret3
            exact ⟨_, 0, false, rfl, HB1.out, .inl ⟨rfl, HN.out⟩⟩
          have hc1i : ¬ 15 < (c.toNat : Int) := by omega
          have hrni : (rn : Int) ≤ 256 := by omega
          have HCP := hide hr0
          have HNXX := hide (fun h2 => HNXT.out c _ rfl (by rw [HLN.out]; omega) hr0 HCS.out hc1 h2)
          clear HNXT hgt hc1
          by_cases hn0 : ln = 0
          · subst hn0
            have hT : T = -1 := by rw [← H.out.2.1, List.length_eq_zero_iff.1 HLN.out]; rfl
            have HNX := hide (HNXX.out (by rw [H.out.2.1, hT]; omega))
            clear hT HWRG HNXX
            go_wp2_with (go_at_call 49; refine HGET.out.mono ?_; rintro e w1 ⟨rfl, hb1⟩; have HB1 := hide (below_trans H.out.2.2.2.2 hb1); have HB01 := hide hb1; have g1 : w1.cell? ⟨b1, o1 + (p + sz), none⟩ = some (.int .u8 (c.toNat : Int)) := HCELL.out w1 HB1.out; clear hb1)
            have hs1 : w.heap.size ≤ w1.heap.size := HB1.out.size
            have HOW1 := hide (H.out.2.2.2.1.below HB01.out)
            go_loopw [5, 11] (fun sl i wz => ∃ (j : Nat) (va : Option Addr) (vc : Nat), j ≤ rn ∧ i = .int .i64 (j : Int) ∧ sl = .slice va (0 + j) vc ∧ Hid (OwnI wz w.heap.size (.slice va (0 + j) vc) (ls ++ List.replicate j (c.toNat : Int)) ∧ Below w.heap.size w wz)) (fun _ i _ => rn - (intOf i).toNat)
            case atStart => exact ⟨0, la, lc, Nat.zero_le _, rfl, rfl, by simpa using HOW1.out, HB1.out⟩
            case round =>
              clear HOW1
              obtain ⟨j, va, vc, hj, rfl, rfl, HOV⟩ := hrel
              have hji : (j : Int) ≤ 256 := by omega
              by_cases hlt2 : (j : Int) < (rn : Int)
              · have HOA := hide (HOV.out.1.below ((Below.refl wr.heap.size wr).alloc (Nat.le_refl _) (.cells #[.int .i64 (c.toNat : Int)] 3)))
                have hsr : w.heap.size ≤ wr.heap.size := HOV.out.2.size
                go_wp2_with (at_builtin; refine pushI _ rfl _ _ rfl w.heap.size _ _ rfl HOA.out ⟨wr.heap.size, 0, none⟩ 1 (c.toNat : Int) rfl (cell_one_new _ _ _ 0 _ rfl) (by rw [List.length_append, List.length_replicate, HLN.out]; omega) (by simp; omega) ?_
                             intro v9 w9 ho9 hg9
                             rw [rep_snoc] at ho9
                             obtain ⟨va9, vc9, rfl⟩ := ho9.shape
                             have hq9 : (ls ++ List.replicate (j + 1) (c.toNat : Int)).length = 0 + (j + 1) := by rw [List.length_append, List.length_replicate, HLN.out]
                             rw [hq9] at ho9 ⊢
                             have HOV9 : Hid (OwnI w9 w.heap.size (.slice va9 (0 + (j + 1)) vc9) (ls ++ List.replicate (j + 1) (c.toNat : Int)) ∧ Below w.heap.size w w9) := ⟨ho9, (HOV.out.2.alloc hsr _).grown hg9 (by simp; omega) (blkI HOV.out.1)⟩
                             clear ho9 hg9 hq9)
                go_roundw
                case rel => exact ⟨j + 1, va9, vc9, by omega, by go_num, by first | rfl | rw [Nat.zero_add], HOV9⟩
                case measure => simp [intOf]; omega
              · obtain rfl : j = rn := by omega
                go_wp2_with fail
                go_roundw
                case rel => exact ⟨p + sz + 1, va, 0 + j, vc, _, (c.toNat : Int), by go_num, by first | rfl | rw [Nat.zero_add], by omega, by omega, by omega, by omega, HNX.out, lastLen_app ls j _ (by have := HCP.out; omega), by rw [List.length_append, List.length_replicate, HLN.out], HOV.out.1, HOV.out.2⟩
                case measure => simp [intOf]; omega
          · obtain ⟨m, rfl⟩ : ∃ m, ln = m + 1 := ⟨ln - 1, by omega⟩
            obtain ⟨g, o, rfl, gl⟩ := HLAST.out wr H.out.2.2.2.1 m rfl
            have HGL : Hid (∀ W : World, Below wr.heap.size wr W → W.cell? ⟨g, o + m, none⟩ = some (.int .i64 T)) := by
              show ∀ W : World, _
              intro W hW
              obtain ⟨g', o', e', gl'⟩ := HLAST.out W (H.out.2.2.2.1.below hW) m rfl
              cases e'
              exact gl'
            have hm1 : ((m + 1 : Nat) : Int) - 1 = (m : Int) := by omega
            have hm2 : (m : Int) < ((m + 1 : Nat) : Int) := by omega
            have hm3 : (0 : Int) < ((m + 1 : Nat) : Int) := by omega
            clear gl
            by_cases hc2 : T = (c.toNat : Int)
            · have HN := hide (HWRG.out c _ hr0 HCS.out (.inr (by rw [H.out.2.1]; exact hc2.symm)))
              have hc2i : (T == (c.toNat : Int)) = true := by rw [beq_iff_eq]; exact hc2
              clear HWRG HNXX hc2
              go_wp2_with (go_at_call 49; refine HGET.out.mono ?_; rintro e w1 ⟨rfl, hb1⟩; have HB1 := hide (below_trans H.out.2.2.2.2 hb1); have HB01 := hide hb1; have g1 : w1.cell? ⟨b1, o1 + (p + sz), none⟩ = some (.int .u8 (c.toNat : Int)) := HCELL.out w1 HB1.out; have g2 : w1.cell? ⟨g, o + m, none⟩ = some (.int .i64 T) := HGL.out w1 HB01.out; clear hb1)
              go_ret3
              first | exact ⟨_, 0, false, rfl, HB1.out, .inl ⟨rfl, HN.out⟩⟩ | exact ⟨_, 0, .inl ⟨rfl, HB1.out, HN.out⟩⟩
            have hc2i : (T == (c.toNat : Int)) = false := by rw [beq_eq_false_iff_ne]; exact hc2
            have HNX := hide (HNXX.out (by rw [H.out.2.1]; exact fun h => hc2 h.symm))
            clear hc2 HWRG HNXX
            go_wp2_with (go_at_call 49; refine HGET.out.mono ?_; rintro e w1 ⟨rfl, hb1⟩; have HB1 := hide (below_trans H.out.2.2.2.2 hb1); have HB01 := hide hb1; have g1 : w1.cell? ⟨b1, o1 + (p + sz), none⟩ = some (.int .u8 (c.toNat : Int)) := HCELL.out w1 HB1.out; have g2 : w1.cell? ⟨g, o + m, none⟩ = some (.int .i64 T) := HGL.out w1 HB01.out; clear hb1)
            have hs1 : w.heap.size ≤ w1.heap.size := HB1.out.size
            have HOW1 := hide (H.out.2.2.2.1.below HB01.out)
            go_loopw [5, 11] (fun sl i wz => ∃ (j : Nat) (va : Option Addr) (vc : Nat), j ≤ rn ∧ i = .int .i64 (j : Int) ∧ sl = .slice va ((m + 1) + j) vc ∧ Hid (OwnI wz w.heap.size (.slice va ((m + 1) + j) vc) (ls ++ List.replicate j (c.toNat : Int)) ∧ Below w.heap.size w wz)) (fun _ i _ => rn - (intOf i).toNat)
            case atStart => exact ⟨0, some ⟨g, o, none⟩, lc, Nat.zero_le _, rfl, rfl, by simpa using HOW1.out, HB1.out⟩
            case round =>
              clear HOW1
              obtain ⟨j, va, vc, hj, rfl, rfl, HOV⟩ := hrel
              have hji : (j : Int) ≤ 256 := by omega
              by_cases hlt2 : (j : Int) < (rn : Int)
              · have HOA := hide (HOV.out.1.below ((Below.refl wr.heap.size wr).alloc (Nat.le_refl _) (.cells #[.int .i64 (c.toNat : Int)] 3)))
                have hsr : w.heap.size ≤ wr.heap.size := HOV.out.2.size
                go_wp2_with (at_builtin; refine pushI _ rfl _ _ rfl w.heap.size _ _ rfl HOA.out ⟨wr.heap.size, 0, none⟩ 1 (c.toNat : Int) rfl (cell_one_new _ _ _ 0 _ rfl) (by rw [List.length_append, List.length_replicate, HLN.out]; omega) (by simp; omega) ?_
                             intro v9 w9 ho9 hg9
                             rw [rep_snoc] at ho9
                             obtain ⟨va9, vc9, rfl⟩ := ho9.shape
                             have hq9 : (ls ++ List.replicate (j + 1) (c.toNat : Int)).length = (m + 1) + (j + 1) := by rw [List.length_append, List.length_replicate, HLN.out]
                             rw [hq9] at ho9 ⊢
                             have HOV9 : Hid (OwnI w9 w.heap.size (.slice va9 ((m + 1) + (j + 1)) vc9) (ls ++ List.replicate (j + 1) (c.toNat : Int)) ∧ Below w.heap.size w w9) := ⟨ho9, (HOV.out.2.alloc hsr _).grown hg9 (by simp; omega) (blkI HOV.out.1)⟩
                             clear ho9 hg9 hq9)
                go_roundw
                case rel => exact ⟨j + 1, va9, vc9, by omega, by go_num, by first | rfl | rw [Nat.zero_add], HOV9⟩
                case measure => simp [intOf]; omega
              · obtain rfl : j = rn := by omega
                go_wp2_with fail
                go_roundw
                case rel => exact ⟨p + sz + 1, va, (m + 1) + j, vc, _, (c.toNat : Int), by go_num, by first | rfl | rw [Nat.zero_add], by omega, by omega, by omega, by omega, HNX.out, lastLen_app ls j _ (by have := HCP.out; omega), by rw [List.length_append, List.length_replicate, HLN.out], HOV.out.1, HOV.out.2⟩
                case measure => simp [intOf]; omega
        · have HN := hide (HBAD.out (.inl h0))
          have h0i : ((er : Int) != 0) = true := by rw [bne_iff_ne]; omega
          clear HBAD HSTP HWRG HNXT HS hc1
          go_wp2_with (go_at_call 49; refine HGET.out.mono ?_; rintro e w1 ⟨rfl, hb1⟩; have HB1 := hide (below_trans H.out.2.2.2.2 hb1); have HB01 := hide hb1; clear hb1)
          go_ret3
          exact ⟨_, 0, false, rfl, HB1.out, .inl ⟨rfl, HN.out⟩⟩
    · have hlti : ¬ (p : Int) < (len : Int) := by omega
      have hgei : (len : Int) ≤ (p : Int) := by omega
      have HN : Hid (lensOf bs = none) := by
        refine lstate_bad H.out.1 ?_
        rw [List.drop_eq_nil_of_le (by rw [HL.out]; omega), get_nil]
        left; decide
      go_wp2_with fail
      go_ret3
      first | exact ⟨_, 0, false, rfl, H.out.2.2.2.2, .inl ⟨rfl, HN.out⟩⟩ | exact ⟨_, 0, .inl ⟨rfl, H.out.2.2.2.2, HN.out⟩⟩
end Go.Proofs.Ytjpmeecahckglaa.Huff
