/-
  The walk of the statement FootTrailer.
-/
import Derived.Test.YtjikoamchbmhjaaFtRef
import Derived.Test.YtjikoamchbmhjaaFtSame
import Derived.Laws.StructEq
namespace Go.Proofs.Ytjikoamchbmhjaa.footTrailer
open Go.ChangeShapes Go.WideShapes Go.ChangeAt Go.RowKit
open Go.Proofs.Ytjikoamchbmhjaa.Base Go.Proofs.Ytjikoamchbmhjaa.Foot
set_option linter.unusedVariables false
def flip (c : BitVec 8) : BitVec 8 := c ^^^ BitVec.ofNat 8 1
theorem flip_val (c : BitVec 8) : bits .xor .u8 (c.toNat : Int) 1 = ((flip c).toNat : Int) := by
  have e : (1 : Int) = (((BitVec.ofNat 8 1).toNat : Nat) : Int) := by decide
  rw [e, bxor_u8]; rfl
def tailL : List (BitVec 8) := [113, 114]
def mix (bs : List (BitVec 8)) (k : Nat) : List (BitVec 8) := (bs.map flip).take k ++ (bs ++ tailL).drop k
theorem mix_zero (bs : List (BitVec 8)) : mix bs 0 = bs ++ tailL := by simp [mix]
theorem mix_end (bs : List (BitVec 8)) : mix bs bs.length = bs.map flip ++ tailL := by
  unfold mix
  rw [List.take_of_length_le (by simp), List.drop_left]
theorem mix_get (bs : List (BitVec 8)) (k : Nat) (h : k < bs.length) : (mix bs k).getD k 0 = bs.getD k 0 := by
  have hl : ((bs.map flip).take k).length = k := by rw [List.length_take, List.length_map]; omega
  rw [List.getD_eq_getElem?_getD, mix, List.getElem?_append_right (by omega), hl, Nat.sub_self, List.getElem?_drop, Nat.add_zero, List.getElem?_append_left h, ← List.getD_eq_getElem?_getD]
theorem mix_step (bs : List (BitVec 8)) (k : Nat) (h : k < bs.length) : (mix bs k).set k (flip (bs.getD k 0)) = mix bs (k + 1) := by
  have hl : ((bs.map flip).take k).length = k := by rw [List.length_take, List.length_map]; omega
  have hp : k < (bs ++ tailL).length := by rw [List.length_append]; omega
  have hm : k < (bs.map flip).length := by rw [List.length_map]; exact h
  unfold mix
  rw [List.set_append_right _ _ (by omega), hl, Nat.sub_self, getD_take _ k hm, List.drop_eq_getElem_cons hp, List.set_cons_zero, List.append_assoc]
  congr 2
  rw [List.getD_eq_getElem?_getD, List.getElem?_eq_getElem h, List.getD_eq_getElem?_getD, List.getElem?_map, List.getElem?_eq_getElem h]
  rfl
theorem flip_take (bs : List (BitVec 8)) (k : Nat) (h : k < bs.length) : (bs.map flip).take (k + 1) = (bs.map flip).take k ++ [flip (bs.getD k 0)] := by
  have hm : k < (bs.map flip).length := by rw [List.length_map]; exact h
  rw [getD_take _ k hm]
  have e : (bs.map flip).getD k 0 = flip (bs.getD k 0) := by
    rw [List.getD_eq_getElem?_getD, List.getD_eq_getElem?_getD, List.getElem?_map, List.getElem?_eq_getElem h]; rfl
  rw [e]
theorem tb_ne_own {w : World} {base g n c p : Nat} {xs : List (BitVec 8)} {B P : Int} (h : Own w base (.slice (some ⟨g, 0, none⟩) n c) xs) (hf : TB w p B P) : g ≠ p := by
  rintro rfl
  rcases h.2 with ⟨h1, _⟩ | ⟨g', c', cur, h1, _, h3, _⟩
  · cases h1
  · simp only [Value.slice.injEq, Option.some.injEq, Addr.mk.injEq] at h1
    obtain ⟨⟨rfl, _⟩, _⟩ := h1
    rw [hf] at h3
    simp only [Option.some.injEq, Obj.cells.injEq] at h3
    exact absurd h3.2.1 (by decide)
theorem own_ne_tb {w : World} {base p : Nat} {v : Value} {xs : List (BitVec 8)} {B P : Int} (h : Own w base v xs) (hf : TB w p B P) : ∀ j, v.ownBlock = some j → j ≠ p := by
  intro j e1
  rcases h.2 with ⟨h1, _⟩ | ⟨g', c', cur, h1, _⟩
  · rw [h1] at e1; cases e1
  · rw [h1] at h e1
    have e4 : g' = j := Option.some.inj e1
    rw [← e4]
    exact tb_ne_own h hf
theorem tail_get (bs : List (BitVec 8)) (n : Nat) (h : bs.length = n) : (bs ++ [113, 114] : List (BitVec 8)).getD n 0 = 113 ∧ (bs ++ [113, 114] : List (BitVec 8)).getD (n + 1) 0 = 114 := by
  subst h
  constructor
  · rw [List.getD_eq_getElem?_getD, List.getElem?_append_right (by omega), Nat.sub_self]; rfl
  · rw [List.getD_eq_getElem?_getD, List.getElem?_append_right (by omega), show bs.length + 1 - bs.length = 1 by omega]; rfl
set_option maxHeartbeats 4000000 in
set_option maxRecDepth 100000 in
theorem walk (a0 : Option Addr) (len0 cap0 : Nat) (b0 : List (BitVec 8)) (n1 : Int) (w : World) (r0 : Rd w a0 len0 b0) (l0 : len0 ≤ cap0) (m0 : cap0 ≤ 140737488351232) (z0 : a0 = none → len0 = 0 ∧ cap0 = 0) (w1 : (Lit.int .i64 n1).wf = true) :
    Calls Try.prog 3 #[.slice a0 len0 cap0, .int .i64 n1] w fun e w' => e = .returned (.bool true) ∧ Below w.heap.size w w' := by
  have HL := hide r0.1
  have R0 := hide r0
  have HO0 : Hid (Own (w.alloc (.cells #[] 5)) w.heap.size (.slice (some ⟨w.heap.size, 0, none⟩) 0 0) []) := own_empty w _ (Nat.le_refl _)
  have HR1 := hide (r0.below ((Below.refl w.heap.size w).alloc (Nat.le_refl _) (.cells #[] 5)))
  clear r0
  go_enter Try.func3, Try.ntmps3
  go_wp2_with (first
    | (at_builtin; refine join _ rfl _ _ rfl w.heap.size (.slice (some ⟨w.heap.size, 0, none⟩) 0 0) [] rfl HO0.out a0 len0 cap0 b0 rfl HR1.out z0 (by simp; omega) (by simp) ?_
       intro v3 w3 ho3 hg3
       rw [List.nil_append] at ho3
       have HO3 := hide (ho3.below ((Below.refl w3.heap.size w3).alloc (Nat.le_refl _) (.cells #[.int .u8 113, .int .u8 114] 5)))
       have HB3 : Hid (Below w.heap.size w w3) := ((Below.refl w.heap.size w).alloc (Nat.le_refl _) _).grown hg3 (by simp) (fun i e => by cases e; exact Nat.le_refl _)
       have HR3 : Hid (Rd (w3.alloc (.cells #[.int .u8 113, .int .u8 114] 5)) (some ⟨w3.heap.size, 0, none⟩) 2 [113, 114]) := rd_new w3 [113, 114] (0, 0) (by simp)
       obtain ⟨xa, xc, rfl⟩ := ho3.shape
       clear ho3 hg3)
    | (at_builtin; refine join _ rfl _ _ rfl w.heap.size _ b0 rfl HO3.out (some ⟨w3.heap.size, 0, none⟩) 2 2 [113, 114] rfl HR3.out (by intro h; cases h) (by have := HL.out; omega) (by have := HB3.out.size; simp; omega) ?_
       intro v4 w4 ho4 hg4
       have HO4 := hide ho4
       have HB4 : Hid (Below w.heap.size w w4) := (HB3.out.alloc HB3.out.size _).grown hg4 (by have := HB3.out.size; simp; omega) (fun i e => (blk HO3.out i e).1)
       have hl4 : (b0 ++ [113, 114]).length = len0 + 1 + 1 := by have := HL.out; simp; omega
       have ho5 := ho4
       unfold Own at ho5
       rw [hl4] at ho5
       obtain ⟨g, gc, rfl⟩ := own_shape ho5
       have hgc : len0 ≤ gc := by have := HO4.out.cap; omega
       clear ho4 ho5 hl4 hg4)
    | fail)
  have HT1 : Hid ((b0 ++ [113, 114]).take len0 = b0) := by show _ = _; rw [← HL.out, List.take_left]
  have HI4 := hide (HO4.out.cut len0 (by omega))
  rw [HT1.out] at HI4
  have HRO : Hid (gc ≤ 9223372036854775807) := HO4.out.room
  have hgl : g < w4.heap.size := HO4.out.lt'.2
  refine (trailer_any _ len0 gc b0 n1 w4 (HI4.out.rd (by have := HL.out; omega)) hgc HRO.out).mono ?_
  rintro e w5 ⟨rfl, hb5⟩
  obtain ⟨T, hT⟩ : ∃ T, trailOf b0 n1 = T := ⟨_, rfl⟩
  rw [hT]
  have HT := hide hT
  clear hT
  obtain ⟨B, P, E⟩ := T
  simp only
  obtain ⟨w6, hw6⟩ : ∃ w6, w5.alloc (.cells #[.int .i64 B, .int .i64 P] 24) = w6 := ⟨_, rfl⟩
  have hb6 : Below w5.heap.size w5 w6 := by rw [← hw6]; exact (Below.refl _ _).alloc (Nat.le_refl _) _
  have HN6 : Hid (TB w6 w5.heap.size B P) := by rw [← hw6]; exact TB.new _ _ _
  obtain ⟨p, hp⟩ : ∃ p, w5.heap.size = p := ⟨_, rfl⟩
  rw [hp] at HN6
  have HB6 := hide (below_trans (below_trans HB4.out hb5) hb6)
  have HO6 := hide ((HO4.out.below hb5).below hb6)
  have HGP : Hid (g < p) := by show g < p; rw [← hp]; exact Nat.lt_of_lt_of_le hgl hb5.size
  clear hb5 hb6 HO3 HR3
  go_wp2_with fail
  have HR6 := hide (R0.out.below HB6.out)
  refine (refTrailer_any a0 len0 cap0 b0 n1 w6 HR6.out l0 (by omega)).mono ?_
  rintro e w7 ⟨rfl, hb7⟩
  rw [HT.out]
  simp only
  obtain ⟨w8, hw8⟩ : ∃ w8, w7.alloc (.cells #[.int .i64 B, .int .i64 P] 24) = w8 := ⟨_, rfl⟩
  have hb8 : Below w7.heap.size w7 w8 := by rw [← hw8]; exact (Below.refl _ _).alloc (Nat.le_refl _) _
  have HN8 : Hid (TB w8 w7.heap.size B P) := by rw [← hw8]; exact TB.new _ _ _
  obtain ⟨q, hq⟩ : ∃ q, w7.heap.size = q := ⟨_, rfl⟩
  rw [hq] at HN8
  have HB8 := hide (below_trans (below_trans HB6.out hb7) hb8)
  have HO8 := hide ((HO6.out.below hb7).below hb8)
  have HM8 := hide ((HN6.out.below hb7).below hb8)
  have HSZ : Hid (w6.heap.size ≤ w7.heap.size) := hb7.size
  clear hb7 hb8
  have p0 := HM8.out.c0
  have p1 := HM8.out.c1
  have q0 := HN8.out.c0
  have q1 := HN8.out.c1
  have s1 : (B != B) = false := by simp
  have s2 : (P != P) = false := by simp
  have s3 : (E != E) = false := by simp
  have s4 : (B == B) = true := by simp
  have s5 : (P == P) = true := by simp
  have s6 : (E == E) = true := by simp
  go_wp2_with fail
  have HI8 := hide (HO8.out.cut len0 (by omega))
  rw [HT1.out] at HI8
  refine (same_eq _ _ len0 gc len0 cap0 b0 w8 (HI8.out.rd (by have := HL.out; omega)) (R0.out.below HB8.out)).mono ?_
  rintro e w9 ⟨rfl, hb9⟩
  have HB9 := hide (below_trans HB8.out hb9)
  have HO9 := hide (HO8.out.below hb9)
  have HM9 := hide (HM8.out.below hb9)
  have HN9 := hide (HN8.out.below hb9)
  clear hb9 p0 p1 q0 q1
  have HTG := hide (tail_get b0 len0 HL.out)
  have c1 := HO9.out.cell len0 (by omega)
  have c2 := HO9.out.cell (len0 + 1) (by omega)
  rw [HTG.out.1] at c1
  rw [HTG.out.2] at c2
  have c1' : w9.cell? ⟨g, len0, none⟩ = some (.int .u8 113) := c1
  have c2' : w9.cell? ⟨g, len0 + 1, none⟩ = some (.int .u8 114) := c2
  have hli : (len0 : Int) < (len0 : Int) + 1 + 1 := by omega
  have hli2 : (len0 : Int) + 1 < (len0 : Int) + 1 + 1 := by omega
  have hlb : (len0 : Int) ≤ 140737488351232 := by omega
  clear c1 c2
  go_wp2_with fail
  have HFL : Hid ((b0.map flip).length = len0) := by show _ = _; rw [List.length_map]; exact HL.out
  have hg : w.heap.size ≤ g := HO9.out.lt'.1
  have hg9 : g < w9.heap.size := HO9.out.lt'.2
  clear c1' c2' hli hli2
  go_loopw [10, 11] (fun o i wr => ∃ (k : Nat) (a : Option Addr) (c : Nat), k ≤ len0 ∧ i = .int .i64 (k : Int) ∧ o = .slice a k c ∧ Hid (Own wr w9.heap.size (.slice a k c) ((b0.map flip).take k)) ∧ Hid (Own wr w.heap.size (.slice (some ⟨g, 0, none⟩) (len0 + 1 + 1) gc) (mix b0 k)) ∧ Hid (TB wr p B P) ∧ Hid (TB wr q B P) ∧ Hid (Below w.heap.size w wr) ∧ w9.heap.size ≤ wr.heap.size) (fun _ i _ => len0 - (intOf i).toNat)
  case atStart => exact ⟨0, _, _, Nat.zero_le _, rfl, rfl, own_none _ _, by rw [mix_zero]; exact HO9, HM9, HN9, HB9, Nat.le_refl _⟩
  case round =>
    clear HO9 HB9 HM9 HN9
    obtain ⟨k, a, c, hk, rfl, rfl, HC, HG, HPP, HQQ, HB, hsz⟩ := hrel
    by_cases hlt : k < len0
    · have g1 := HG.out.cell k (by omega)
      rw [mix_get b0 k (by have := HL.out; omega)] at g1
      have g2 := HG.out.frozen k
      have hst := HG.out.store k (flip (b0.getD k 0))
      rw [mix_step b0 k (by have := HL.out; omega)] at hst
      have HFT := hide (flip_take b0 k (by have := HL.out; omega))
      have hf := flip_val (b0.getD k 0)
      generalize flip (b0.getD k 0) = d at hst hf HFT
      generalize b0.getD k 0 = x at g1 hf
      have HST := hide hst
      clear hst
      have hki : (k : Int) < (len0 : Int) := by omega
      have hki2 : (k : Int) < (len0 : Int) + 1 + 1 := by omega
      have HCK : Hid (Own (wr.setCell ⟨g, k, none⟩ (.int .u8 (d.toNat : Int))) w9.heap.size (.slice a k c) ((b0.map flip).take k)) :=
        keep HC.out HST.out.2 (fun i j e1 e2 => by
          have := (blk HC.out i e1).1
          have e3 : g = j := Option.some.inj e2
          omega)
      have hgw : w.heap.size ≤ wr.heap.size := HB.out.size
      have HP2 : Hid (TB (wr.setCell ⟨g, k, none⟩ (.int .u8 (d.toNat : Int))) p B P) := HPP.out.grown HST.out.2 (fun e => tb_ne_own HG.out HPP.out (Option.some.inj e))
      have HQ2 : Hid (TB (wr.setCell ⟨g, k, none⟩ (.int .u8 (d.toNat : Int))) q B P) := HQQ.out.grown HST.out.2 (fun e => tb_ne_own HG.out HQQ.out (Option.some.inj e))
      go_wp2_with (at_builtin; refine push _ rfl _ _ rfl w9.heap.size _ ((b0.map flip).take k) rfl (HCK.out.below ((Below.refl _ _).alloc (Nat.le_refl _) _)) ⟨wr.heap.size, 0, none⟩ 1 d rfl ?_ (by rw [List.length_take, HFL.out]; omega) (by simp; omega) ?_
                   · simpa using cell_one_new (wr.setCell ⟨g, k, none⟩ (.int .u8 (d.toNat : Int))) (.int .u8 (d.toNat : Int)) 5 0 _ rfl
                   intro v' w7 hown hgrow
                   have HG7 := hide hgrow
                   rw [← HFT.out] at hown
                   obtain ⟨a', c', hv'⟩ := hown.shape
                   rw [show ((b0.map flip).take (k + 1)).length = k + 1 by rw [List.length_take, HFL.out]; omega] at hv'
                   subst hv'
                   have HO7 := hide hown
                   clear hown hgrow)
      go_roundw
      case rel =>
        have hal := (Below.refl (wr.setCell ⟨g, k, none⟩ (.int .u8 (d.toNat : Int))).heap.size (wr.setCell ⟨g, k, none⟩ (.int .u8 (d.toNat : Int)))).alloc (Nat.le_refl _) (.cells #[.int .u8 (d.toNat : Int)] 5)
        have hbb : Below w.heap.size w ((wr.setCell ⟨g, k, none⟩ (.int .u8 (d.toNat : Int))).alloc (.cells #[.int .u8 (d.toNat : Int)] 5)) :=
          (grown_below HB.out HST.out.2 hg).alloc (by simp; omega) _
        have hsz7 := HG7.out.size
        simp at hsz7
        refine ⟨k + 1, a', c', by omega, by go_num, rfl, HO7, ?_, ?_, ?_, ?_, by omega⟩
        · show Own _ _ _ _
          refine keep (HST.out.1.below hal) HG7.out (fun i j e1 e2 => ?_)
          have h2 := (blk HC.out j e2).1
          have e3 : g = i := Option.some.inj e1
          omega
        · exact (HP2.out.below hal).grown HG7.out (fun e => own_ne_tb HC.out HPP.out p e rfl)
        · exact (HQ2.out.below hal).grown HG7.out (fun e => own_ne_tb HC.out HQQ.out q e rfl)
        · exact hbb.grown HG7.out (by simp; omega) (fun j e => by have h2 := (blk HC.out j e).1; have := HB.out.size; omega)
      case measure => simp [intOf]; omega
    · have hk' : k = len0 := by omega
      subst hk'
      have HF : Hid (mix b0 k = b0.map flip ++ tailL) := by show _ = _; rw [← mix_end, HL.out]
      have HT2 : Hid ((b0.map flip).take k = b0.map flip) := by show _ = _; rw [List.take_of_length_le (by have := HFL.out; omega)]
      have HG2 : Hid (Own wr w.heap.size (.slice (some ⟨g, 0, none⟩) k gc) (b0.map flip)) := by
        have h := HG.out.cut k (by omega)
        rw [HF.out, show (b0.map flip ++ tailL).take k = b0.map flip by rw [← HFL.out, List.take_left]] at h
        exact h
      have HC2 : Hid (Own wr w9.heap.size (.slice a k c) (b0.map flip)) := by
        have h := HC.out; rw [HT2.out] at h; exact h
      have HPQ : Hid (p ≠ q) := by
        show p ≠ q
        have h1 := HN6.out.lt
        have h2 : w6.heap.size ≤ q := by rw [← hq]; exact HSZ.out
        omega
      clear HG HC HF HT2
      generalize b0.map flip = F at HG2 HC2 HFL
      go_wp2_with fail
      refine (trailer_any _ k gc F n1 wr (HG2.out.rd (by have := HFL.out; omega)) hgc HRO.out).mono ?_
      rintro e v1 ⟨rfl, hv1⟩
      obtain ⟨T, hT⟩ : ∃ T, trailOf F n1 = T := ⟨_, rfl⟩
      rw [hT]
      have HT3 := hide hT
      clear hT
      obtain ⟨B2, P2, E2⟩ := T
      simp only
      have HP1 := hide (HPP.out.below hv1)
      have HQ1 := hide (HQQ.out.below hv1)
      have HC3 := hide (HC2.out.below hv1)
      have HB1 := hide (below_trans HB.out hv1)
      have p0 := HP1.out.c0
      have p1 := HP1.out.c1
      have f0 := HP1.out.fz 0
      have f1 := HP1.out.fz 1
      obtain ⟨v2, hv2⟩ : ∃ v2, (v1.setCell ⟨p, 0, none⟩ (.int .i64 B2)).setCell ⟨p, 1, none⟩ (.int .i64 P2) = v2 := ⟨_, rfl⟩
      have hgr2 : v1.grownBy v2 (some p) := by rw [← hv2]; exact grown2 _ _ _ _
      have HP2 : Hid (TB v2 p B2 P2) := by rw [← hv2]; exact HP1.out.set2 _ _
      have HQ2 := hide (HQ1.out.grown hgr2 (fun e => HPQ.out (Option.some.inj e)))
      have HC4 : Hid (Own v2 w9.heap.size (.slice a k c) F) := keep HC3.out hgr2 (fun i j e1 e2 => by
        have h := own_ne_tb HC3.out HP1.out i e1
        have e3 : p = j := Option.some.inj e2
        omega)
      have hpw : w.heap.size ≤ p := by have h1 := HB4.out.size; have h2 := HGP.out; omega
      have HB2 := hide (grown_below HB1.out hgr2 hpw)
      clear hgr2 hv1
      go_wp2_with fail
      refine (refTrailer_any a k c F n1 v2 (Got.rd HC4.out (by rw [HFL.out]; omega)) (Got.cap HC4.out).1 (by omega)).mono ?_
      rintro e v3 ⟨rfl, hv3⟩
      rw [HT3.out]
      simp only
      have HP3 := hide (HP2.out.below hv3)
      have HQ3 := hide (HQ2.out.below hv3)
      have HB3' := hide (below_trans HB2.out hv3)
      clear hv3 p0 p1 f0 f1
      have q0 := HQ3.out.c0
      have q1 := HQ3.out.c1
      have f0 := HQ3.out.fz 0
      have f1 := HQ3.out.fz 1
      obtain ⟨v4, hv4⟩ : ∃ v4, (v3.setCell ⟨q, 0, none⟩ (.int .i64 B2)).setCell ⟨q, 1, none⟩ (.int .i64 P2) = v4 := ⟨_, rfl⟩
      have hgr4 : v3.grownBy v4 (some q) := by rw [← hv4]; exact grown2 _ _ _ _
      have HQ4 : Hid (TB v4 q B2 P2) := by rw [← hv4]; exact HQ3.out.set2 _ _
      have HP4 := hide (HP3.out.grown hgr4 (fun e => HPQ.out (Option.some.inj e).symm))
      have hqw : w.heap.size ≤ q := by have h1 := HB6.out.size; have h2 := HSZ.out; omega
      have HB4' := hide (grown_below HB3'.out hgr4 hqw)
      have x0 := HP4.out.c0
      have x1 := HP4.out.c1
      have y0 := HQ4.out.c0
      have y1 := HQ4.out.c1
      have u4 : (B2 == B2) = true := by simp
      have u5 : (P2 == P2) = true := by simp
      have u6 : (E2 == E2) = true := by simp
      clear hgr4
      go_wp2_with fail
      go_ret
      exact ⟨rfl, HB4'.out⟩
end Go.Proofs.Ytjikoamchbmhjaa.footTrailer
