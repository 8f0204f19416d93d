/-
  What the program adds to a text of its own: a token's text, a token's bytes.
-/
import Derived.Test.YthdblnfohbldcaaGreatLzC1
import Derived.WalkArith
namespace Go.Proofs.YthdblnfohbldcaaGreat.Lz
open Go.ChangeShapes Go.WideShapes Go.ChangeAt Go.RowKit
open Go.Proofs.YthdblnfohbldcaaGreat.Base Go.Proofs.YthdblnfohbldcaaGreat.Nums
set_option linter.unusedVariables false
theorem own_named {w : World} {base : Nat} {v : Value} {bs : List (BitVec 8)} (h : Own w base v bs) : ∃ a n c, v = .slice a n c ∧ Hid (n = bs.length) := by
  obtain ⟨a, c, e⟩ := h.shape
  exact ⟨a, _, c, e, rfl⟩
/-- Since the world W the slice v has been added to: it is cur now, and reads as xs. -/
def Ext (W wr : World) (v : Value) (base : Nat) (cur : Value) (xs : List (BitVec 8)) : Prop := Own wr base cur xs ∧ W.grownBy wr v.ownBlock ∧ ∀ i, cur.ownBlock = some i → v.ownBlock = some i ∨ W.heap.size ≤ i
theorem Ext.refl {W : World} {v : Value} {base : Nat} {xs : List (BitVec 8)} (h : Own W base v xs) : Ext W W v base v xs := ⟨h, World.grownBy.refl _ _, fun i e => .inl e⟩
theorem Ext.below {W wr w' : World} {v cur : Value} {base : Nat} {xs : List (BitVec 8)} (h : Ext W wr v base cur xs) (hb : Below wr.heap.size wr w') : Ext W w' v base cur xs :=
  ⟨h.1.below hb, grown_new h.2.1 (below_grown hb) (fun i e => by cases e), h.2.2⟩
theorem Ext.start {W wr w' : World} {v cur : Value} {base : Nat} {xs : List (BitVec 8)} (hb : Below W.heap.size W wr) (h : Ext wr w' v base cur xs) : Ext W w' v base cur xs :=
  ⟨h.1, ⟨h.2.1.os.trans hb.os, h.2.1.tape.trans hb.tape, h.2.1.output.trans hb.output, Nat.le_trans hb.size h.2.1.size, fun i hi hp => (h.2.1.block i (Nat.lt_of_lt_of_le hi hb.size) hp).trans (hb.block i hi)⟩, fun i e => by
    rcases h.2.2 i e with e2 | e2
    · exact .inl e2
    · exact .inr (Nat.le_trans hb.size e2)⟩
theorem Ext.step {W wr w' : World} {v cur cur' : Value} {base : Nat} {xs ys : List (BitVec 8)} (h : Ext W wr v base cur xs) (ho : Own w' base cur' ys) (hg : wr.grownBy w' cur.ownBlock) (hb : cur'.ownBlock = cur.ownBlock ∨ ∃ g, cur'.ownBlock = some g ∧ wr.heap.size ≤ g) : Ext W w' v base cur' ys := by
  obtain ⟨h1, h2, h3⟩ := h
  refine ⟨ho, ⟨hg.os.trans h2.os, hg.tape.trans h2.tape, hg.output.trans h2.output, Nat.le_trans h2.size hg.size, fun i hi hp => ?_⟩, fun i e => ?_⟩
  · refine (hg.block i (Nat.lt_of_lt_of_le hi h2.size) (fun e => ?_)).trans (h2.block i hi hp)
    rcases h3 i e.symm with e2 | e2
    · exact hp e2.symm
    · omega
  · rcases hb with e2 | ⟨g, e2, e3⟩
    · exact h3 i (by rw [← e2]; exact e)
    · rw [e2] at e; cases e; exact .inr (Nat.le_trans h2.size e3)
theorem Ext.push {W wr w' : World} {v cur : Value} {base g n c : Nat} {xs ys : List (BitVec 8)} (h : Ext W wr v base cur xs) (ho : Own w' base (.slice (some ⟨g, 0, none⟩) n c) ys) (hg : cur.ownBlock = some g ∧ wr.grownBy w' (some g) ∨ wr.heap.size ≤ g ∧ wr.grownBy w' none) : Ext W w' v base (.slice (some ⟨g, 0, none⟩) n c) ys := by
  rcases hg with ⟨e, k⟩ | ⟨e, k⟩
  · exact h.step ho (by rw [e]; exact k) (.inl (by rw [e]; rfl))
  · exact h.step ho (grown_any k _) (.inr ⟨g, rfl, e⟩)
theorem Ext.trans {W w1 w2 : World} {v v1 v2 : Value} {base : Nat} {xs ys : List (BitVec 8)} (h : Ext W w1 v base v1 xs) (k : Ext w1 w2 v1 base v2 ys) : Ext W w2 v base v2 ys := by
  obtain ⟨h1, h2, h3⟩ := h
  obtain ⟨k1, k2, k3⟩ := k
  refine ⟨k1, ⟨k2.os.trans h2.os, k2.tape.trans h2.tape, k2.output.trans h2.output, Nat.le_trans h2.size k2.size, fun i hi hp => ?_⟩, fun i e => ?_⟩
  · refine (k2.block i (Nat.lt_of_lt_of_le hi h2.size) (fun e => ?_)).trans (h2.block i hi hp)
    rcases h3 i e.symm with e2 | e2
    · exact hp e2.symm
    · omega
  · rcases k3 i e with e2 | e2
    · exact h3 i e2
    · exact .inr (Nat.le_trans h2.size e2)
theorem Ext.row {W wr : World} {v cur u : Value} {base g : Nat} {xs : List (BitVec 8)} {d l : Int} (h : Ext W wr v base cur xs) (hr : TRow W g u d l) (hv : ∀ i, v.ownBlock = some i → i ≠ g) : TRow wr g u d l := hr.grown h.2.1 (fun e => hv g e rfl)
theorem Ext.rd {W wr : World} {v cur : Value} {base len : Nat} {a : Option Addr} {xs bs : List (BitVec 8)} (h : Ext W wr v base cur xs) (hr : Rd W a len bs) (hv : 0 < len → ∀ ad, a = some ad → v.ownBlock ≠ some ad.block) : Rd wr a len bs := by
  by_cases hl : len = 0
  · subst hl
    have : bs = [] := List.length_eq_zero_iff.1 hr.1
    subst this; exact rd_zero _ _
  · exact hr.grown h.2.1 (hv (by omega))
theorem Ext.size {W wr : World} {v cur : Value} {base : Nat} {xs : List (BitVec 8)} (h : Ext W wr v base cur xs) : W.heap.size ≤ wr.heap.size := h.2.1.size
set_option maxHeartbeats 2000000 in
set_option maxRecDepth 100000 in
theorem grow_any (base : Nat) (v : Value) (bs : List (BitVec 8)) (a : Option Addr) (n c : Nat) (t : Tok) (w : World) (ho : Own w base v bs) (hr : Rd w a n t.lit) (hz : a = none → n = 0 ∧ c = 0) (hlen : 0 ≤ t.len)
    (hd : 0 < t.len → 1 ≤ t.dist ∧ t.dist ≤ (bs.length : Int) + (t.lit.length : Int)) (hb : bs.length + t.lit.length + t.len.toNat ≤ 70368744177664) (hbase : base ≤ w.heap.size) :
    Calls Tryz.prog 43 #[v, .agg #[.slice a n c, .int .i64 t.dist, .int .i64 t.len]] w fun e w' => ∃ v', e = .returned v' ∧ Ext w w' v base v' (grow bs t) := by
  obtain ⟨lit, d, l⟩ := t
  simp only at hr hlen hd hb ⊢
  obtain ⟨m, rfl⟩ := Int.eq_ofNat_of_zero_le hlen
  obtain ⟨va, vc, rfl⟩ := ho.shape
  have HO := hide ho
  have HR := hide hr
  have HL := hide hr.1
  have hvlt : ∀ i, (Value.slice va bs.length vc).ownBlock = some i → i < w.heap.size := fun i e => (blk ho i e).2
  have HV := hide hvlt
  clear ho hr hvlt hlen
  have HBW : Hid (Below w.heap.size w (w.alloc (.cells #[.slice a n c, .int .i64 d, .int .i64 (m : Int)] 74))) := (Below.refl _ _).alloc (Nat.le_refl _) _
  have HT0 := hide (TRow.new w (.slice a n c) d (m : Int))
  go_enter Tryz.func43, Tryz.ntmps43
  go_wp2_with (at_builtin; refine join2 _ rfl _ _ rfl base _ bs rfl (HO.out.below HBW.out) a n c lit rfl (HR.out.below HBW.out) hz (by have := HL.out; omega) (Nat.le_trans hbase HBW.out.size) ?_
               intro v1 w1 ho1 hg1 hv1
               have HE1 := hide ((Ext.refl (HO.out.below HBW.out)).step ho1 hg1 hv1)
               have HT1 := hide (HE1.out.row HT0.out (fun i e => by have := HV.out i e; omega))
               have k1 := HT1.out.c1
               have k2 := HT1.out.c2
               clear ho1 hg1 hv1)
  obtain ⟨va1, vc1, hv1⟩ := HE1.out.1.shape
  subst hv1
  clear HR HT0 k1 k2
  generalize hX : bs ++ lit = X at HE1
  have hXl : X.length = bs.length + lit.length := by rw [← hX, List.length_append]
  obtain ⟨dt, hdt⟩ : ∃ dt, dt = d.toNat := ⟨_, rfl⟩
  have HG : Hid (grow bs ⟨lit, d, (m : Int)⟩ = copyN dt m X) := by show _ = _; rw [← hX, hdt]; rfl
  clear hX
  go_loopw [0, 11] (fun o x wr => ∃ (k : Nat) (a' : Option Addr) (c' : Nat), k ≤ m ∧ x = .int .i64 (k : Int) ∧ o = .slice a' (X.length + k) c' ∧ Hid (Ext (w.alloc (.cells #[.slice a n c, .int .i64 d, .int .i64 (m : Int)] 74)) wr (.slice va bs.length vc) base (.slice a' (X.length + k) c') (copyN dt k X))) (fun _ x _ => m - (intOf x).toNat)
  case atStart => exact ⟨0, va1, vc1, Nat.zero_le _, rfl, rfl, HE1⟩
  case round =>
    obtain ⟨k, a', c', hk, rfl, rfl, HE⟩ := hrel
    clear HE1 HT1
    have hT := HE.out.row (TRow.new w (.slice a n c) d (m : Int)) (fun i e => by have := HV.out i e; omega)
    have k1 := hT.c1
    clear hT
    by_cases hlt : k < m
    · have hki : (k : Int) < (m : Int) := by omega
      obtain ⟨hd1, hd2⟩ := hd (by omega)
      obtain ⟨dn, rfl⟩ := Int.eq_ofNat_of_zero_le (by omega : 0 ≤ d)
      have hdd : dt = dn := by omega
      clear hdt
      subst hdd
      obtain ⟨g, rfl⟩ : ∃ g, a' = some ⟨g, 0, none⟩ := by
        rcases HE.out.1.2 with ⟨h1, _⟩ | ⟨g, cp, cur, h1, _⟩
        · simp only [Value.slice.injEq] at h1; omega
        · simp only [Value.slice.injEq] at h1; exact ⟨g, h1.1⟩
      obtain ⟨P, hP⟩ : ∃ P, P + dt = X.length + k := ⟨X.length + k - dt, by omega⟩
      have hc0 := HE.out.1.cell P (by omega)
      generalize hC : (copyN dt k X).getD P 0 = C at hc0
      have HS : Hid (copyN dt (k + 1) X = copyN dt k X ++ [C]) := by
        show _ = _
        rw [copyN_snoc, length_copyN, ← hP, Nat.add_sub_cancel, hC]
      clear hC
      generalize hN : X.length + k = N at HE hP
      have hNl : N ≤ 70368744177664 := by omega
      have hmm : m ≤ 70368744177664 := by omega
      have hPN : (P : Int) < (N : Int) := by omega
      have hsub : (N : Int) - (dt : Int) = (P : Int) := by omega
      have HN := hide hN
      have HP := hide hP
      clear hN hP hd1 hd2 hd hXl hb
      have HLE : Hid (Own wr base (.slice (some ⟨g, 0, none⟩) N c') (copyN dt k X)) := HE.out.1
      have hcl : (copyN dt k X).length = N := by rw [length_copyN]; exact HN.out
      have HCL := hide hcl
      clear hcl
      have hbs : base ≤ wr.heap.size := Nat.le_trans hbase (Nat.le_trans HBW.out.size HE.out.size)
      go_wp2_with (at_builtin; refine push2 _ rfl _ _ rfl base _ (copyN dt k X) rfl (HLE.out.below ((Below.refl wr.heap.size wr).alloc (Nat.le_refl _) _)) ⟨wr.heap.size, 0, none⟩ 1 C rfl ?_ (by have := HCL.out; omega) (by simp; omega) ?_
                   · exact cell_one_new _ _ _ 0 _ rfl
                   intro g4 c4 w4 hown4 hgrow4
                   have HE4 := hide ((HE.out.below ((Below.refl wr.heap.size wr).alloc (Nat.le_refl _) _)).push hown4 hgrow4)
                   clear hown4 hgrow4)
      go_roundw
      case rel => exact ⟨k + 1, some ⟨g4, 0, none⟩, c4, by omega, by go_num, by rw [HCL.out, ← HN.out]; rfl, by
        have h := HE4.out
        rw [HCL.out, ← HN.out] at h
        rw [HS.out]; exact h⟩
      case measure => simp [intOf]; omega
    · have hkm : k = m := by omega
      subst hkm
      go_wp2
      go_ret
      exact ⟨_, rfl, by rw [HG.out]; exact Ext.start HBW.out HE.out⟩
set_option maxHeartbeats 2000000 in
set_option maxRecDepth 100000 in
theorem put_tok (base : Nat) (v : Value) (bs : List (BitVec 8)) (a : Option Addr) (n c : Nat) (t : Tok) (w : World) (ho : Own w base v bs) (hr : Rd w a n t.lit) (hz : a = none → n = 0 ∧ c = 0)
    (hap : 0 < n → ∀ ad, a = some ad → v.ownBlock ≠ some ad.block) (hlen : t.bare ∨ 4 ≤ t.len ∧ 0 ≤ t.dist) (hwl : t.len ≤ 9223372036854775807) (hwd : t.dist ≤ 9223372036854775807) (hb : bs.length + t.lit.length ≤ 70368744177664) (hbase : base ≤ w.heap.size) :
    Calls Tryz.prog 51 #[v, .agg #[.slice a n c, .int .i64 t.dist, .int .i64 t.len]] w fun e w' => ∃ v', e = .returned v' ∧ Ext w w' v base v' (bs ++ putTok t) := by
  obtain ⟨lit, d, l⟩ := t
  simp only at hr hlen hb hwl hwd ⊢
  obtain ⟨va, vc, rfl⟩ := ho.shape
  have HO := hide ho
  have HR := hide hr
  have HL := hide hr.1
  have HA := hide hap
  have hvlt : ∀ i, (Value.slice va bs.length vc).ownBlock = some i → i < w.heap.size := fun i e => (blk ho i e).2
  have HV := hide hvlt
  have hn : n ≤ 70368744177664 := by have := hr.1; omega
  have hbn : bs.length + n ≤ 70368744177664 := by have := hr.1; omega
  have hwf : (Lit.int .i64 (n : Int)).wf = true := WalkArith.wf_i64 (by omega)
  clear ho hr hvlt hap
  have HBW : Hid (Below w.heap.size w (w.alloc (.cells #[.slice a n c, .int .i64 d, .int .i64 l] 74))) := (Below.refl _ _).alloc (Nat.le_refl _) _
  have HT0 := hide (TRow.new w (.slice a n c) d l)
  go_enter Tryz.func51, Tryz.ntmps51
  go_wp2_with fail
  refine (put_any _ _ hwf).mono ?_
  rintro e w1 ⟨v1, rfl, ho1, hb1⟩
  have hpl := put_nine n (by omega)
  rw [putI_nat] at ho1
  have HB1 := hide (below_trans HBW.out hb1)
  have HT1 := hide (HT0.out.below hb1)
  have HO1 := hide ho1
  have HE1 := hide (Ext.refl (HO.out.below HB1.out))
  obtain ⟨v1a, v1c, hv1⟩ := ho1.shape
  subst hv1
  have hs1 := HB1.out.size
  clear hb1 ho1 HT0 HBW
  have k0 := HT1.out.c0
  go_wp2_with (at_builtin
               first
               | (refine join2 _ rfl _ _ rfl base _ bs rfl HE1.out.1 v1a _ v1c (put n) rfl (Got.rd HO1.out (by omega)) (Got.nil HO1.out) (by omega) (by omega) ?_
                  intro v2 w2 ho2 hg2 hv2
                  have HE2 := hide (HE1.out.step ho2 hg2 hv2)
                  obtain ⟨v2a, n2, v2c, hv2', HN2⟩ := own_named ho2
                  subst hv2'
                  have HT2 := hide (HE2.out.row HT1.out (fun i e => by have := HV.out i e; omega))
                  have k0' := HT2.out.c0
                  have HR2 := hide (HE2.out.rd (HR.out.below HB1.out) HA.out)
                  have hs2 := HE2.out.size
                  clear ho2 hg2 hv2)
               | (refine join2 _ rfl _ _ rfl base _ (bs ++ put n) rfl HE2.out.1 a n c lit rfl HR2.out hz (by rw [List.length_append]; omega) (by omega) ?_
                  intro v3 w3 ho3 hg3 hv3
                  have HE3 := hide (HE2.out.step ho3 hg3 hv3)
                  obtain ⟨v3a, n3, v3c, hv3', HN3⟩ := own_named ho3
                  subst hv3'
                  have HT3 := hide (HE3.out.row HT1.out (fun i e => by have := HV.out i e; omega))
                  have k0'' := HT3.out.c0
                  have k1'' := HT3.out.c1
                  have k2'' := HT3.out.c2
                  have hs3 := HE3.out.size
                  clear ho3 hg3 hv3))
  refine (isNone_any a n c d l _).mono ?_
  rintro e w4 ⟨rfl, hb4⟩
  have HE4 := hide (HE3.out.below hb4)
  have HT4 := hide (HT3.out.below hb4)
  have hs4 := HE4.out.size
  clear hb4 k0'' k1'' k2'' k0 k0' HE2 HR2 HT2 hs2 HE1 HO1 HE3 HT3 hs3 HR
  by_cases hn0 : d = 0 ∧ l = 0
  · rw [decide_eq_true hn0]
    have HP : Hid (putTok ⟨lit, d, l⟩ = put n ++ lit) := by show _ = _; rw [putTok_bare ⟨lit, d, l⟩ hn0, HL.out]
    go_wp2_with fail
    go_ret
    refine ⟨_, rfl, ?_⟩
    rw [HP.out, ← List.append_assoc]
    exact Ext.start HB1.out HE4.out
  · rw [decide_eq_false hn0]
    obtain ⟨h4, h5⟩ : 4 ≤ l ∧ 0 ≤ d := by
      rcases hlen with h | h
      · exact absurd h hn0
      · exact h
    obtain ⟨m, rfl⟩ : ∃ m : Nat, l = (m : Int) + 4 := ⟨(l - 4).toNat, by omega⟩
    obtain ⟨dd, rfl⟩ := Int.eq_ofNat_of_zero_le h5
    have HP : Hid (putTok ⟨lit, (dd : Int), (m : Int) + 4⟩ = put n ++ (lit ++ (put m ++ put dd))) := by
      show _ = _
      rw [putTok_match ⟨lit, (dd : Int), (m : Int) + 4⟩ hn0, HL.out]
      have e1 : ((m : Int) + 4 - 4).toNat = m := by omega
      simp only [e1, Int.toNat_natCast]
    have hm1 : (m : Int) ≤ 9223372036854775803 := by omega
    have hwm : (Lit.int .i64 (m : Int)).wf = true := WalkArith.wf_i64 (by omega)
    have hwdd : (Lit.int .i64 (dd : Int)).wf = true := WalkArith.wf_i64 (by omega)
    have hq : (m : Int) + 4 - 4 = (m : Int) := by omega
    have hpm := put_nine m (by omega)
    have hpd := put_nine dd (by omega)
    have hl3 : (bs ++ put n ++ lit).length ≤ 70368744177700 := by simp only [List.length_append]; omega
    have k2 := HT4.out.c2
    clear hn0 hlen h4 h5
    generalize hO3 : bs ++ put n ++ lit = O3 at HE4 hl3 HN3
    have HO3 := hide hO3
    clear hO3
    go_wp2_with fail
    refine (put_any _ _ hwm).mono ?_
    rintro e w5 ⟨v5, rfl, ho5, hb5⟩
    rw [putI_nat] at ho5
    have HO5 := hide ho5
    obtain ⟨v5a, n5, v5c, hv5, HN5⟩ := own_named ho5
    subst hv5
    have HE5 := hide (HE4.out.below hb5)
    have HT5 := hide (HT4.out.below hb5)
    have k1 := HT5.out.c1
    have hs5 := HE5.out.size
    clear ho5 hb5 HE4 HT4 hs4 k2
    go_wp2_with (at_builtin; refine join2 _ rfl _ _ rfl base _ O3 rfl HE5.out.1 v5a n5 v5c (put m) rfl (Got.rd HO5.out (by omega)) (Got.nil HO5.out) (by have := HN5.out; omega) (by omega) ?_
                 intro v6 w6 ho6 hg6 hv6
                 have HE6 := hide (HE5.out.step ho6 hg6 hv6)
                 obtain ⟨v6a, n6, v6c, hv6', HN6⟩ := own_named ho6
                 subst hv6'
                 have HT6 := hide (HE6.out.row HT1.out (fun i e => by have := HV.out i e; omega))
                 have k1' := HT6.out.c1
                 have hs6 := HE6.out.size
                 clear ho6 hg6 hv6)
    refine (put_any _ _ hwdd).mono ?_
    rintro e w7 ⟨v7, rfl, ho7, hb7⟩
    rw [putI_nat] at ho7
    have HO7 := hide ho7
    obtain ⟨v7a, n7, v7c, hv7, HN7⟩ := own_named ho7
    subst hv7
    have HE7 := hide (HE6.out.below hb7)
    have hs7 := HE7.out.size
    clear ho7 hb7 HE6 HT6 hs6 k1 k1' HE5 HT5 hs5 HO5
    go_wp2_with (at_builtin; refine join2 _ rfl _ _ rfl base _ (O3 ++ put m) rfl HE7.out.1 v7a n7 v7c (put dd) rfl (Got.rd HO7.out (by omega)) (Got.nil HO7.out) (by have := HN7.out; rw [List.length_append]; omega) (by omega) ?_
                 intro v8 w8 ho8 hg8 hv8
                 have HE8 := hide (HE7.out.step ho8 hg8 hv8)
                 clear ho8 hg8 hv8)
    go_ret
    refine ⟨_, rfl, ?_⟩
    rw [HP.out]
    have h := Ext.start HB1.out HE8.out
    rw [← HO3.out] at h
    simp only [List.append_assoc] at h
    exact h
end Go.Proofs.YthdblnfohbldcaaGreat.Lz
