/-
  The lengths at the head of bytes: the program's reading.
-/
import Derived.Test.YthdblnfohbldcaaGreatHuffN1
import Derived.Test.YthdblnfohbldcaaGreatIBase2
import Derived.Test.YthdblnfohbldcaaGreatCut
import Derived.Test.YthdblnfohbldcaaGreatNumsGetC
namespace Go.Proofs.YthdblnfohbldcaaGreat.Huff
open Go.ChangeShapes Go.WideShapes Go.ChangeAt Go.RowKit
open Go.Proofs.YthdblnfohbldcaaGreat.Base
set_option linter.unusedVariables false
def slen : Value → Nat
  | .slice _ n _ => n
  | _ => 0
/-- What a reading of the number at the head says. -/
theorem get_says (R : List (BitVec 8)) : (Nums.get R).2.2 = 0 ∧ 1 ≤ (Nums.get R).2.1 ∧ (Nums.get R).2.1 ≤ R.length ∧ (Nums.get R).1 ≤ 9223372036854775807 ∨ (Nums.get R).2.2 ≠ 0 := by
  rcases Nums.get_cases R with ⟨u, m, h, h1, h2, h3, h4, h5⟩ | ⟨h, _⟩ | ⟨h, _⟩
  · left; rw [h]; exact ⟨rfl, h1, h3, by show u ≤ _; omega⟩
  · right; rw [h]; decide
  · right; rw [h]; decide
/-- What has been read so far: the rest R, the lengths ls. -/
def LState (bs R : List (BitVec 8)) (ls : List Int) : Prop := (∃ f, R.length < f ∧ lensGo f R ls = lensOf bs) ∧ ls.length ≤ 256
theorem lstate_start (bs : List (BitVec 8)) : LState bs bs [] := ⟨⟨bs.length + 1, by omega, rfl⟩, by simp⟩
theorem lstate_bad {bs R : List (BitVec 8)} {ls : List Int} (h : LState bs R ls) (hb : (Nums.get R).2.2 ≠ 0 ∨ 256 - ls.length < (Nums.get R).1) : lensOf bs = none := by
  obtain ⟨⟨f, hf, h⟩, _⟩ := h
  obtain ⟨m, rfl⟩ : ∃ m, f = m + 1 := ⟨f - 1, by omega⟩
  rw [← h]; simp only [lensGo]; rw [if_pos hb]
theorem lstate_end {bs R : List (BitVec 8)} {ls : List Int} (h : LState bs R ls) (h0 : (Nums.get R).2.2 = 0) (h1 : (Nums.get R).1 = 0) : lensOf bs = if lastLen ls = 0 then none else some (ls, R.drop (Nums.get R).2.1) := by
  obtain ⟨⟨f, hf, h⟩, _⟩ := h
  obtain ⟨m, rfl⟩ : ∃ m, f = m + 1 := ⟨f - 1, by omega⟩
  rw [← h]; simp only [lensGo]; rw [if_neg (by omega), if_pos h1]
theorem lstate_stop {bs R : List (BitVec 8)} {ls : List Int} (h : LState bs R ls) (h0 : (Nums.get R).1 ≠ 0) (h1 : R.drop (Nums.get R).2.1 = []) : lensOf bs = none := by
  obtain ⟨⟨f, hf, h⟩, _⟩ := h
  obtain ⟨m, rfl⟩ : ∃ m, f = m + 1 := ⟨f - 1, by omega⟩
  rw [← h]; simp only [lensGo]
  split
  · rfl
  · first | rw [if_neg h0, h1] | rw [h1]
theorem lstate_wrong {bs R cs : List (BitVec 8)} {c : BitVec 8} {ls : List Int} (h : LState bs R ls) (h0 : (Nums.get R).1 ≠ 0) (h1 : R.drop (Nums.get R).2.1 = c :: cs) (h2 : 15 < c.toNat ∨ (c.toNat : Int) = lastLen ls) : lensOf bs = none := by
  obtain ⟨⟨f, hf, h⟩, _⟩ := h
  obtain ⟨m, rfl⟩ : ∃ m, f = m + 1 := ⟨f - 1, by omega⟩
  rw [← h]; simp only [lensGo]
  split
  · rfl
  · first | (rw [if_neg h0, h1]; simp only []; rw [if_pos h2]) | (rw [h1]; simp only []; rw [if_pos h2])
theorem lstate_next {bs R cs : List (BitVec 8)} {c : BitVec 8} {ls : List Int} (h : LState bs R ls) (hg : (Nums.get R).2.2 = 0) (hl : (Nums.get R).1 ≤ 256 - ls.length) (h0 : (Nums.get R).1 ≠ 0) (h1 : R.drop (Nums.get R).2.1 = c :: cs) (h2 : ¬ 15 < c.toNat) (h3 : ¬ (c.toNat : Int) = lastLen ls) : LState bs cs (ls ++ List.replicate (Nums.get R).1 (c.toNat : Int)) := by
  obtain ⟨⟨f, hf, h⟩, hn⟩ := h
  obtain ⟨m, rfl⟩ : ∃ m, f = m + 1 := ⟨f - 1, by omega⟩
  have hlen := congrArg List.length h1
  rw [List.length_drop, List.length_cons] at hlen
  refine ⟨⟨m, by omega, ?_⟩, by rw [List.length_append, List.length_replicate]; omega⟩
  rw [← h]; simp only [lensGo]
  rw [if_neg (by omega), if_neg h0, h1]
  simp only []
  rw [if_neg (by omega)]
theorem rep_snoc (ls : List Int) (j : Nat) (c : Int) : ls ++ List.replicate j c ++ [c] = ls ++ List.replicate (j + 1) c := by rw [List.append_assoc, ← List.replicate_succ']
theorem blkI {w : World} {base : Nat} {v : Value} {xs : List Int} (h : OwnI w base v xs) : ∀ q, v.ownBlock = some q → base ≤ q := fun q e => (h.lt q e).1
set_option maxHeartbeats 2000000 in
set_option maxRecDepth 100000 in
theorem lengths_any (a : Option Addr) (len cap : Nat) (bs : List (BitVec 8)) (w : World) (hr : Rd w a len bs) (hcap : len ≤ cap) (hm : cap ≤ 9223372036854775807) :
    Calls Tryz.prog 44 #[.slice a len cap] w fun e w' => ∃ (v1 v2 : Value) (ok : Bool), e = .returned (.tuple #[v1, v2, .bool ok]) ∧ Below w.heap.size w w' ∧ (ok = false ∧ lensOf bs = none ∨ ok = true ∧ ∃ ls r a1 c1 a2 l2 c2, lensOf bs = some (ls, r) ∧ v1 = .slice a1 ls.length c1 ∧ OwnI w' w.heap.size v1 ls ∧ v2 = .slice a2 l2 c2 ∧ Rd w a2 l2 r ∧ l2 ≤ c2 ∧ c2 ≤ cap) := by
  have HR := hide hr
  have HCAP := hide hcap
  clear hr hcap
  go_enter Tryz.func44, Tryz.ntmps44
  go_wp2_with fail
  go_loopw [0, 2, 5] (fun sb sl st wr => ∃ (pa : Option Addr) (pl pc : Nat) (R : List (BitVec 8)) (la : Option Addr) (ln lc : Nat) (ls : List Int) (T : Int), sb = .slice pa pl pc ∧ sl = .slice la ln lc ∧ st = .int .i64 T ∧ ln ≤ 256 ∧ -1 ≤ T ∧ T ≤ 15 ∧ Hid (Rd w pa pl R ∧ pl ≤ pc ∧ pc ≤ cap ∧ LState bs R ls ∧ lastLen ls = T ∧ ls.length = ln ∧ OwnI wr w.heap.size (.slice la ln lc) ls ∧ Below w.heap.size w wr)) (fun sb _ _ _ => slen sb)
  case atStart => exact ⟨a, len, cap, bs, none, 0, 0, [], -1, rfl, rfl, rfl, by omega, by omega, by omega, HR.out, HCAP.out, Nat.le_refl _, lstate_start bs, rfl, rfl, ownI_none _ _, Below.refl _ _⟩
  case round =>
    obtain ⟨pa, pl, pc, R, la, ln, lc, ls, T, rfl, rfl, rfl, hln, hT1, hT2, H⟩ := hrel
    have hsz : w.heap.size ≤ wr.heap.size := H.out.2.2.2.2.2.2.2.size
    have hlni : (ln : Int) ≤ 256 := by omega
    have HGET := hide (Nums.get_any pa pl pc R wr (H.out.1.below H.out.2.2.2.2.2.2.2) H.out.2.1 (by have := H.out.2.2.1; omega))
    have HS := hide (get_says R)
    have HBAD := hide (lstate_bad H.out.2.2.2.1)
    have HEND := hide (lstate_end H.out.2.2.2.1)
    have HSTP := hide (lstate_stop H.out.2.2.2.1)
    have HWRG := hide (fun c cs => lstate_wrong (c := c) (cs := cs) H.out.2.2.2.1)
    have HNXT := hide (fun c cs => lstate_next (c := c) (cs := cs) H.out.2.2.2.1)
    obtain ⟨rn, hrn⟩ : ∃ rn, (Nums.get R).1 = rn := ⟨_, rfl⟩
    obtain ⟨sz, hszz⟩ : ∃ sz, (Nums.get R).2.1 = sz := ⟨_, rfl⟩
    obtain ⟨er, her⟩ : ∃ er, (Nums.get R).2.2 = er := ⟨_, rfl⟩
    simp only [hrn, hszz, her] at HGET HS HBAD HEND HSTP HWRG HNXT
    clear hrn hszz her
    have HLN := hide H.out.2.2.2.2.2.1
    have HRL := hide H.out.1.1
    by_cases h0 : er = 0
    · subst h0
      rw [show ((0 : Nat) : Int) = 0 from rfl] at HGET
      obtain ⟨s1, s2, s3⟩ : 1 ≤ sz ∧ sz ≤ pl ∧ rn ≤ 9223372036854775807 := by
        rcases HS.out with ⟨_, q1, q2, q3⟩ | q
        · rw [HRL.out] at q2; exact ⟨q1, q2, q3⟩
        · exact absurd rfl q
      obtain ⟨b1, o1, hpa, hb1, _⟩ := H.out.1.2.2 (by omega)
      subst hpa
      obtain ⟨la2, hcut, hla, hsp, hbl⟩ := cut_l b1 o1 pl pc sz s2 H.out.2.1
      have HRP : Hid (Rd w (some la2) (pl - sz) (R.drop sz)) := H.out.1.past sz s2 la2 hla
      have HLA := hide hla
      obtain ⟨pr, hpr⟩ : ∃ pr, pl - sz = pr := ⟨_, rfl⟩
      obtain ⟨pd, hpd⟩ : ∃ pd, pc - sz = pd := ⟨_, rfl⟩
      have HPR : Hid (pl = sz + pr ∧ pc = sz + pd ∧ pr ≤ pd ∧ pc ≤ cap) := by have h1 := H.out.2.1; have h2 := H.out.2.2.1; exact ⟨by omega, by omega, by omega, h2⟩
      rw [hpr] at HRP
      rw [hpr, hpd] at hcut
      clear hpr hpd hla hsp hbl
      by_cases hgt : 256 - ln < rn
      · have HN := hide (HBAD.out (.inr (by rw [HLN.out]; exact hgt)))
        have hgt1 : 256 - (ln : Int) < (rn : Int) := by omega
        clear HBAD HEND HSTP HWRG HNXT hgt
        go_wp2_with (go_at_call 90; refine HGET.out.mono ?_; rintro e w1 ⟨rfl, hb1⟩; have HB1 := hide (below_trans H.out.2.2.2.2.2.2.2 hb1); have HB01 := hide hb1; clear hb1)
        go_ret3
        exact ⟨_, _, false, rfl, HB1.out, .inl ⟨rfl, HN.out⟩⟩
      have hgt1 : ¬ 256 - (ln : Int) < (rn : Int) := by omega
      have hrnb : rn ≤ 256 := by omega
      by_cases hr0 : rn = 0
      · subst hr0
        rw [show ((0 : Nat) : Int) = 0 from rfl] at HGET
        have HE := hide (HEND.out rfl rfl)
        have hgt2 : ¬ 256 - (ln : Int) < 0 := by omega
        clear HBAD HEND HSTP HWRG HNXT hgt hgt1
        by_cases hT : T = 0
        · subst hT
          have HN : Hid (lensOf bs = none) := by show _ = _; rw [HE.out, if_pos H.out.2.2.2.2.1]
          go_wp2_with (go_at_call 90; refine HGET.out.mono ?_; rintro e w1 ⟨rfl, hb1⟩; have HB1 := hide (below_trans H.out.2.2.2.2.2.2.2 hb1); have HB01 := hide hb1; clear hb1)
          go_ret3
          exact ⟨_, _, false, rfl, HB1.out, .inl ⟨rfl, HN.out⟩⟩
        · have HN : Hid (lensOf bs = some (ls, R.drop sz)) := by show _ = _; rw [HE.out, if_neg (by rw [H.out.2.2.2.2.1]; exact hT)]
          have hTb : (T != 0) = true := by rw [bne_iff_ne]; exact hT
          clear hT
          go_wp2_with (go_at_call 90; refine HGET.out.mono ?_; rintro e w1 ⟨rfl, hb1⟩; have HB1 := hide (below_trans H.out.2.2.2.2.2.2.2 hb1); have HB01 := hide hb1; clear hb1)
          go_ret3
          refine ⟨.slice la ln lc, .slice (some la2) pr pd, true, rfl, HB1.out, .inr ⟨rfl, ls, R.drop sz, la, lc, some la2, pr, pd, HN.out, ?_, H.out.2.2.2.2.2.2.1.below HB01.out, rfl, HRP.out, ?_, ?_⟩⟩
          · rw [HLN.out]
          · exact HPR.out.2.2.1
          · have h1 := HPR.out.2.1; have h2 := HPR.out.2.2.2; omega
      have hr0i : ((rn : Int) == 0) = false := by rw [beq_eq_false_iff_ne]; omega
      by_cases hp0 : pr = 0
      · subst hp0
        have HN := hide (HSTP.out hr0 (List.length_eq_zero_iff.1 HRP.out.1))
        clear HBAD HEND HSTP HWRG HNXT hgt
        go_wp2_with (go_at_call 90; refine HGET.out.mono ?_; rintro e w1 ⟨rfl, hb1⟩; have HB1 := hide (below_trans H.out.2.2.2.2.2.2.2 hb1); have HB01 := hide hb1; clear hb1)
        go_ret3
        exact ⟨_, _, false, rfl, HB1.out, .inl ⟨rfl, HN.out⟩⟩
      have hp0i : ((pr : Int) == 0) = false := by rw [beq_eq_false_iff_ne]; omega
      obtain rfl : la2 = ⟨b1, o1 + sz, none⟩ := HLA.out (by have := HPR.out.1; omega)
      obtain ⟨c, cs, hcs⟩ : ∃ c cs, R.drop sz = c :: cs := by
        cases h : R.drop sz with
        | nil => have := HRP.out.1; rw [h] at this; simp at this; omega
        | cons c cs => exact ⟨c, cs, rfl⟩
      have HCS := hide hcs
      rw [hcs] at HRP
      have HCELL : Hid (∀ W : World, Below w.heap.size w W → W.cell? ⟨b1, o1 + sz, none⟩ = some (.int .u8 (c.toNat : Int))) := by
        show ∀ W : World, _
        intro W hW
        rw [hW.cell (p := ⟨b1, o1 + sz, none⟩) hb1]
        obtain ⟨b', o', e', _, hc'⟩ := HRP.out.2.2 (by omega)
        cases e'
        exact hc' 0 (by omega)
      have hpri : (0 : Int) < (pr : Int) := by omega
      have hc8 := lt8 c
      have hc8i : (c.toNat : Int) < 256 := by omega
      clear hcs HBAD HEND HSTP HLA
      by_cases hc1 : 15 < c.toNat
      · have HN := hide (HWRG.out c cs hr0 HCS.out (.inl hc1))
        have hc1i : 15 < (c.toNat : Int) := by omega
        clear HWRG HNXT hgt
        go_wp2_with (go_at_call 90; refine HGET.out.mono ?_; rintro e w1 ⟨rfl, hb1⟩; have HB1 := hide (below_trans H.out.2.2.2.2.2.2.2 hb1); have HB01 := hide hb1; have g1 : w1.cell? ⟨b1, o1 + sz, none⟩ = some (.int .u8 (c.toNat : Int)) := HCELL.out w1 HB1.out; clear hb1)
        go_ret3
        exact ⟨_, _, false, rfl, HB1.out, .inl ⟨rfl, HN.out⟩⟩
      have hc1i : ¬ 15 < (c.toNat : Int) := by omega
      by_cases hc2 : (c.toNat : Int) = T
      · have HN := hide (HWRG.out c cs hr0 HCS.out (.inr (by rw [H.out.2.2.2.2.1]; exact hc2)))
        have hc2i : ((c.toNat : Int) == T) = true := by rw [beq_iff_eq]; exact hc2
        clear HWRG HNXT hgt hc2
        go_wp2_with (go_at_call 90; refine HGET.out.mono ?_; rintro e w1 ⟨rfl, hb1⟩; have HB1 := hide (below_trans H.out.2.2.2.2.2.2.2 hb1); have HB01 := hide hb1; have g1 : w1.cell? ⟨b1, o1 + sz, none⟩ = some (.int .u8 (c.toNat : Int)) := HCELL.out w1 HB1.out; clear hb1)
        go_ret3
        exact ⟨_, _, false, rfl, HB1.out, .inl ⟨rfl, HN.out⟩⟩
      have hc2i : ((c.toNat : Int) == T) = false := by rw [beq_eq_false_iff_ne]; exact hc2
      have HNX := hide (HNXT.out c cs rfl (by rw [HLN.out]; omega) hr0 HCS.out hc1 (by rw [H.out.2.2.2.2.1]; exact hc2))
      obtain ⟨la3, hcut3, hla3, hsp3, hbl3⟩ := cut_l b1 (o1 + sz) pr pd 1 (by omega) HPR.out.2.2.1
      have HRQ : Hid (Rd w (some la3) (pr - 1) cs) := HRP.out.past 1 (by omega) la3 hla3
      have HPQ : Hid (pr - 1 ≤ pd - 1 ∧ pd - 1 ≤ cap ∧ pr - 1 < pl) := by have h1 := HPR.out; exact ⟨by omega, by omega, by omega⟩
      rw [show ((1 : Nat) : Int) = 1 from rfl] at hcut3
      have hrni : (rn : Int) ≤ 256 := by omega
      have HCP := hide hr0
      clear HWRG HNXT hgt hc2 hla3 hsp3 hbl3
      go_wp2_with (go_at_call 90; refine HGET.out.mono ?_; rintro e w1 ⟨rfl, hb1⟩; have HB1 := hide (below_trans H.out.2.2.2.2.2.2.2 hb1); have HB01 := hide hb1; have g1 : w1.cell? ⟨b1, o1 + sz, none⟩ = some (.int .u8 (c.toNat : Int)) := HCELL.out w1 HB1.out; clear hb1)
      have hs1 : w.heap.size ≤ w1.heap.size := HB1.out.size
      have HOW1 := hide (H.out.2.2.2.2.2.2.1.below HB01.out)
      go_loopw [2, 57] (fun sl i wz => ∃ (j : Nat) (va : Option Addr) (vc : Nat), j ≤ rn ∧ i = .int .i64 (j : Int) ∧ sl = .slice va (ln + j) vc ∧ Hid (OwnI wz w.heap.size (.slice va (ln + j) vc) (ls ++ List.replicate j (c.toNat : Int)) ∧ Below w.heap.size w wz)) (fun _ i _ => rn - (intOf i).toNat)
      case atStart => exact ⟨0, la, lc, Nat.zero_le _, rfl, rfl, by simpa using HOW1.out, HB1.out⟩
      case round =>
        clear HOW1
        obtain ⟨j, va, vc, hj, rfl, rfl, HOV⟩ := hrel
        have hji : (j : Int) ≤ 256 := by omega
        by_cases hlt2 : (j : Int) < (rn : Int)
        · have HOA := hide (HOV.out.1.below ((Below.refl wr.heap.size wr).alloc (Nat.le_refl _) (.cells #[.int .i64 (c.toNat : Int)] 3)))
          have hsr : w.heap.size ≤ wr.heap.size := HOV.out.2.size
          go_wp2_with (at_builtin; refine pushI _ rfl _ _ rfl w.heap.size _ _ rfl HOA.out ⟨wr.heap.size, 0, none⟩ 1 (c.toNat : Int) rfl (cell_one_new _ _ _ 0 _ rfl) (by rw [List.length_append, List.length_replicate, HLN.out]; omega) (by simp; omega) ?_
                       intro v9 w9 ho9 hg9
                       rw [rep_snoc] at ho9
                       obtain ⟨va9, vc9, rfl⟩ := ho9.shape
                       have hq9 : (ls ++ List.replicate (j + 1) (c.toNat : Int)).length = ln + (j + 1) := by rw [List.length_append, List.length_replicate, HLN.out]
                       rw [hq9] at ho9 ⊢
                       have HOV9 : Hid (OwnI w9 w.heap.size (.slice va9 (ln + (j + 1)) vc9) (ls ++ List.replicate (j + 1) (c.toNat : Int)) ∧ Below w.heap.size w w9) := ⟨ho9, (HOV.out.2.alloc hsr _).grown hg9 (by simp; omega) (blkI HOV.out.1)⟩
                       clear ho9 hg9 hq9)
          go_roundw
          case rel => exact ⟨j + 1, va9, vc9, by omega, by go_num, rfl, HOV9⟩
          case measure => simp [intOf]; omega
        · obtain rfl : j = rn := by omega
          go_wp2_with fail
          go_roundw
          case rel => exact ⟨some la3, pr - 1, pd - 1, cs, va, ln + j, vc, _, (c.toNat : Int), rfl, rfl, rfl, by omega, by omega, by omega, HRQ.out, HPQ.out.1, HPQ.out.2.1, HNX.out, lastLen_app ls j _ (by have := HCP.out; omega), by rw [List.length_append, List.length_replicate, HLN.out], HOV.out.1, HOV.out.2⟩
          case measure => simp [slen]; have := HPQ.out.2.2; omega
    · have HN := hide (HBAD.out (.inl h0))
      have h0i : ((er : Int) != 0) = true := by rw [bne_iff_ne]; omega
      clear HBAD HEND HSTP HWRG HNXT HS
      go_wp2_with (go_at_call 90; refine HGET.out.mono ?_; rintro e w1 ⟨rfl, hb1⟩; have HB1 := hide (below_trans H.out.2.2.2.2.2.2.2 hb1); have HB01 := hide hb1; clear hb1)
      go_ret3
      exact ⟨_, _, false, rfl, HB1.out, .inl ⟨rfl, HN.out⟩⟩
end Go.Proofs.YthdblnfohbldcaaGreat.Huff
