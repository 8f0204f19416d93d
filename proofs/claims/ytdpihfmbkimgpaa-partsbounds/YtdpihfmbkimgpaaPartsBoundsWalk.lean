/-
  The walk of the statement PartsBounds.
-/
import Derived.Test.YtdpihfmbkimgpaaPaRoom
import Derived.Deep.AppendLies
namespace Go.Proofs.Ytdpihfmbkimgpaa.partsBounds
open Go.ChangeShapes Go.WideShapes Go.ChangeAt Go.RowKit
open Go.Proofs.Ytdpihfmbkimgpaa.Base Go.Proofs.Ytdpihfmbkimgpaa.Pa
set_option linter.unusedVariables false
/-- append of one text, told with where the new slice lies. -/
theorem pushL {ops : Array Oper} {rest : List Oper} {o : Oper} {a : Act} {Q : Exit → Act → World → Prop} (w : World) (hgd : o.guard = none) (s x : Operand)
    (ho : o.op = .call { callee := .builtin .append, args := #[s, x], argTypes := #[24, 24] })
    (base : Nat) (v : Value) (ss : List ByteArray) (hs : a.eval s = v) (hown : OwnS w base v ss) (ad : Addr) (cap : Nat) (c : ByteArray) (hx : a.eval x = .slice (some ad) 1 cap)
    (hc : w.cell? (ad.add 0) = some (.string c)) (hl : ss.length + 1 ≤ 8796093022208) (hbase : base ≤ w.heap.size) (N : Nat) (hN : ss.length + 1 = N)
    (h : ∀ g cap w', OwnS w' base (.slice (some ⟨g, 0, none⟩) N cap) (ss ++ [c]) → w.grownBy w' v.ownBlock → (v.ownBlock = some g ∨ g = w.heap.size) → wpList Try.prog ops Q rest (a.put o.dst (.slice (some ⟨g, 0, none⟩) N cap)) w') : wpList Try.prog ops Q (o :: rest) a w := by
  obtain ⟨i0, hi, hz0, hz1, hz2⟩ := info_parts infoS
  subst hN
  refine wpList_append_lies w hgd s x 24 ho base 9 i0 (.string ⟨#[]⟩) 1 16 Try.underlying24 hi hz0 hz1 hz2 rfl (by omega) v ss.length (svals ss) hs hown ad 1 cap [.string c] hx rfl ?_ ?_ (by omega) (by unfold maxLen; omega) (by omega) hbase w.heap.size rfl ?_
  · intro j u hu
    cases j with
    | zero => simp at hu; subst hu; exact hc
    | succ j => simp at hu
  · intro u hu
    simp at hu
    subst hu
    rfl
  · intro g cap' w' h1 h2 h3 _
    refine h g cap' w' ?_ h2 h3
    unfold OwnS
    rw [List.length_append, svals_append]
    exact h1
/-- What stands through the statement: the document's bounds, the second ones, the sample with its mark. -/
structure PK (w wr : World) (v1 v2 : Value) (W : List ByteArray) (gx len c : Nat) (X : List ByteArray) : Prop where
  below : Below w.heap.size w wr
  one : OwnS wr w.heap.size v1 W
  two : OwnS wr w.heap.size v2 W
  sam : OwnS wr w.heap.size (.slice (some ⟨gx, 0, none⟩) (len + 1) c) (X ++ [markS])
theorem PK.next {w wr wr' : World} {v1 v2 : Value} {W X : List ByteArray} {gx len c : Nat} (h : PK w wr v1 v2 W gx len c X) (hb : Below wr.heap.size wr wr') : PK w wr' v1 v2 W gx len c X :=
  ⟨below_trans h.below hb, h.one.below hb, h.two.below hb, h.sam.below hb⟩
theorem PK.grown {w wr wr' : World} {v1 v2 : Value} {W X : List ByteArray} {gx len c : Nat} {q : Option Nat} (h : PK w wr v1 v2 W gx len c X) (hg : wr.grownBy wr' q) (hq : ∀ j, q = some j → w.heap.size ≤ j ∧ v1.ownBlock ≠ some j ∧ v2.ownBlock ≠ some j ∧ gx ≠ j) : PK w wr' v1 v2 W gx len c X :=
  ⟨h.below.grown hg h.below.size (fun k e => (hq k e).1), keepS h.one hg (fun i j e1 e2 e => (hq j e2).2.1 (by rw [e1, e])), keepS h.two hg (fun i j e1 e2 e => (hq j e2).2.2.1 (by rw [e1, e])), keepS h.sam hg (fun i j e1 e2 e => (hq j e2).2.2.2 (by rw [← blk_eq e1, e]))⟩
/-- The block of a slice is none of the others'. -/
def Apart (w wr : World) (v v1 v2 : Value) (gx : Nat) : Prop := ∀ j, v.ownBlock = some j → w.heap.size ≤ j ∧ v1.ownBlock ≠ some j ∧ v2.ownBlock ≠ some j ∧ gx ≠ j
theorem PK.fresh {w wr : World} {v1 v2 : Value} {W X : List ByteArray} {gx len c : Nat} (h : PK w wr v1 v2 W gx len c X) : ∀ j, wr.heap.size ≤ j → w.heap.size ≤ j ∧ v1.ownBlock ≠ some j ∧ v2.ownBlock ≠ some j ∧ gx ≠ j := fun j hj =>
  ⟨Nat.le_trans h.below.size hj, fun e => by have := (h.one.blk j e).2; omega, fun e => by have := (h.two.blk j e).2; omega, by have := h.sam.lt'.2; omega⟩
theorem bndS_small (ss : List ByteArray) (n : Int) : (bndS ss n).length ≤ 65535 := by
  by_cases h : bErr ss n = 0
  · have := isParts_bounds (bErr_zero h).2.1
    rw [bndS_len h]; omega
  · unfold bndS; rw [if_neg h]; exact Nat.zero_le _
theorem bndS_sizes (ss : List ByteArray) (n : Int) : ∀ s ∈ bndS ss n, s.size ≤ 9223372036854775807 := by
  by_cases h : bErr ss n = 0
  · intro s hs; have := bndS_short h s hs; omega
  · unfold bndS; rw [if_neg h]; intro s hs; cases hs
def gone : ByteArray := ⟨#[103, 111, 110, 101]⟩
def more : ByteArray := ⟨#[109, 111, 114, 101]⟩
def l3q : List ByteArray := [⟨#[113]⟩, ⟨#[114]⟩, ⟨#[115]⟩]
theorem sam_rds {w wr : World} {v1 v2 : Value} {W X : List ByteArray} {gx len c : Nat} (h : PK w wr v1 v2 W gx len c X) (hl : X.length = len) (hs : ∀ s ∈ X, s.size ≤ 140737488351233) (hm : len ≤ 8796093021952) : RdS wr (some ⟨gx, 0, none⟩) len X := by
  have h1 := h.sam.cut (fun s hs2 => by
    rcases List.mem_append.1 hs2 with h | h
    · have := hs s h; omega
    · rw [List.mem_singleton] at h; rw [h]; decide) (by omega) len (by omega)
  rwa [take_mark X markS len hl] at h1
set_option maxHeartbeats 4000000 in
set_option maxRecDepth 100000 in
theorem walk0 (a0 : Option Addr) (len0 cap0 : Nat) (ss0 : List ByteArray) (n : Int) (w : World) (r0 : RdS w a0 len0 ss0) (m0 : len0 ≤ 8796093021952) (z0 : a0 = none → len0 = 0 ∧ cap0 = 0) (y0 : ∀ s ∈ ss0, s.size ≤ 140737488351232) :
    Calls Try.prog 6 #[.slice a0 len0 cap0, .int .i64 n] w fun e w' => e = .returned (.bool true) ∧ Below w.heap.size w w' := by
  have H0 := hide r0
  have HL0 := hide r0.1
  have HZ0 := hide z0
  have HY0 := hide y0
  have HWL := hide (bndS_small ss0 n)
  have HWS := hide (bndS_sizes ss0 n)
  have HCB := hide (fun (a : Option Addr) (len cap : Nat) (ss : List ByteArray) (W : World) (h : RdS W a len ss) => bounds_any a len cap ss n W h)
  have HCR := hide (fun (a : Option Addr) (len cap : Nat) (ss : List ByteArray) (W : World) (h : RdS W a len ss) => refBounds_any a len cap ss n W h)
  clear r0 z0 y0
  go_enter Try.func6, Try.ntmps6
  go_wp2_with fail
  refine (HCR.out a0 len0 cap0 ss0 w H0.out).mono ?_
  rintro e w1 ⟨v1, rfl, ho1, hb1⟩
  have HC1 := hide (fun W h => HCB.out (some ⟨0, 0, none⟩) 0 0 [] W h)
  generalize hEE : ((bErr ss0 n : Nat) : Int) = E
  have HEE := hide hEE
  have HWW : Hid (∃ W, bndS ss0 n = W) := ⟨_, rfl⟩
  obtain ⟨W, hW⟩ := HWW.out
  rw [hW] at ho1 HWL HWS
  have HW := hide hW
  clear hW hEE HC1 HWW
  obtain ⟨a1, c1, rfl⟩ := ho1.shape
  have hL := HWL.out
  obtain ⟨L, hLL⟩ : ∃ L, W.length = L := ⟨_, rfl⟩
  rw [hLL] at ho1 hL ⊢
  have HLL := hide hLL
  have HO1 := hide ho1
  have HB1 := hide hb1
  clear hLL ho1 hb1
  go_wp2_with fail
  refine (roomy_any a0 len0 cap0 ss0 w1 (H0.out.below HB1.out) HZ0.out m0).mono ?_
  rintro e w2 ⟨gx, cx, rfl, ho2, hb2⟩
  have HX2 := hide ho2
  have HG2 := hide (World.ownsRow.lt ho2 gx rfl)
  have HO2 := hide (HO1.out.below hb2)
  have HB2 := hide (below_trans HB1.out hb2)
  have HRX2 : Hid (RdS w2 (some ⟨gx, 0, none⟩) len0 ss0) := by
    have h1 := ho2.cut (fun s hs2 => by
      rcases List.mem_append.1 hs2 with h | h
      · have := HY0.out s h; omega
      · rw [List.mem_singleton] at h; rw [h]; decide) (by omega) len0 (by omega)
    rwa [take_mark ss0 markS len0 HL0.out] at h1
  clear ho2 hb2
  go_wp2_with fail
  refine (HCB.out (some ⟨gx, 0, none⟩) len0 cx ss0 w2 HRX2.out).mono ?_
  rintro e w3 ⟨v3, rfl, ho3, hb3⟩
  rw [HEE.out]
  rw [HW.out] at ho3
  obtain ⟨a3, c3, rfl⟩ := ho3.shape
  rw [HLL.out] at ho3 ⊢
  have HO3 := hide ho3
  have HB3 := hide (below_trans HB2.out hb3)
  have HX3 := hide (HX2.out.below hb3)
  have HW3 := hide (HO2.out.below hb3)
  have HRX3 := hide (HRX2.out.below hb3)
  clear ho3 hb3
  go_wp2_with fail
  refine (HCB.out (some ⟨gx, 0, none⟩) len0 cx ss0 w3 HRX3.out).mono ?_
  rintro e w4 ⟨v4, rfl, ho4, hb4⟩
  rw [HEE.out]
  rw [HW.out] at ho4
  obtain ⟨a4, c4, rfl⟩ := ho4.shape
  rw [HLL.out] at ho4 ⊢
  have HB4 := hide (below_trans HB3.out hb4)
  have HPK : Hid (PK w w4 (.slice a1 L c1) (.slice a4 L c4) W gx len0 cx ss0) := ⟨HB4.out, HW3.out.below hb4, ho4.mono HB3.out.size, (HX3.out.below hb4).mono HB1.out.size⟩
  have HA4 : Hid (Apart w w4 (.slice a3 L c3) (.slice a1 L c1) (.slice a4 L c4) gx) := fun j e => by
    have h1 := HO3.out.blk j e
    refine ⟨Nat.le_trans HB2.out.size h1.1, fun e2 => ?_, fun e2 => ?_, ?_⟩
    · have := (HO2.out.blk j e2).2; omega
    · have := (ho4.blk j e2).1; omega
    · have := HG2.out.2; omega
  have HO4 := hide ((HO3.out.below hb4).mono HB2.out.size)
  clear ho4 hb4 HO3 HX3 HW3 HRX3 HX2 HO2 HRX2 HG2
  go_wp2_with fail
  have HB5 := hide ((Below.refl w4.heap.size w4).alloc (Nat.le_refl _) (.cells (svals l3q).toArray 9))
  refine (bounds_any (some ⟨w4.heap.size, 0, none⟩) 3 3 l3q 3 _ (rds_new w4 l3q (by decide) (by decide +kernel))).mono ?_
  rintro e w5 ⟨v5, rfl, ho5, hb5⟩
  have HPK5 := hide (HPK.out.next (below_trans HB5.out hb5))
  have HO5 := hide (HO4.out.below (below_trans HB5.out hb5))
  have HA5 := hide HA4.out
  generalize ((bErr l3q 3 : Nat) : Int) = E9
  clear ho5 hb5 HB5 HPK HO4 HA4
  have hEq : ((E : Int) == E) = true := by simp
  go_wp2_with fail
  refine (sameTexts_eq a3 a1 L c3 L c1 W w5 (HO5.out.rds (by rw [HLL.out]; omega) HWS.out) (HPK5.out.one.rds (by rw [HLL.out]; omega) HWS.out)).mono ?_
  rintro e w6 ⟨rfl, hb6⟩
  have HPK6 := hide (HPK5.out.next hb6)
  have HO6 := hide (HO5.out.below hb6)
  clear hb6 HPK5 HO5
  go_wp2_with fail
  refine (sameTexts_eq a4 a1 L c4 L c1 W w6 (HPK6.out.two.rds (by rw [HLL.out]; omega) HWS.out) (HPK6.out.one.rds (by rw [HLL.out]; omega) HWS.out)).mono ?_
  rintro e w7 ⟨rfl, hb7⟩
  have HPK7 := hide (HPK6.out.next hb7)
  have HO7 := hide (HO6.out.below hb7)
  clear hb7 HPK6 HO6
  go_wp2_with fail
  go_loopw [13] (fun i wr => ∃ (k : Nat) (X : List ByteArray), k ≤ L ∧ i = .int .i64 (k : Int) ∧ Hid (OwnS wr w.heap.size (.slice a3 L c3) X) ∧ Hid (X.length = L) ∧ Hid (PK w wr (.slice a1 L c1) (.slice a4 L c4) W gx len0 cx ss0)) (fun i _ => L - (intOf i).toNat)
  case atStart => exact ⟨0, W, Nat.zero_le _, rfl, HO7, HLL, HPK7⟩
  case round =>
    obtain ⟨k, X, hk, rfl, HOk, HXL, HPKk⟩ := hrel
    by_cases hlt : k < L
    · have hki : (k : Int) < (L : Int) := by omega
      obtain ⟨g3, rfl⟩ : ∃ g, a3 = some ⟨g, 0, none⟩ := by
        rcases HOk.out.2 with ⟨_, h2⟩ | ⟨g, _, _, h1, _⟩
        · rw [HXL.out] at h2; omega
        · simp only [Value.slice.injEq] at h1; exact ⟨g, h1.1⟩
      have ck := HOk.out.cell k hlt
      have fk := HOk.out.frozen k
      generalize X.getD k ⟨#[]⟩ = z at ck
      have HSt := hide (HOk.out.store k gone)
      go_wp2_with fail
      go_roundw
      case rel => exact ⟨k + 1, X.set k gone, by omega, by go_num, HSt.out.1, (by show (X.set k gone).length = L; rw [List.length_set]; exact HXL.out), HPKk.out.grown HSt.out.2 HA5.out⟩
      case measure => (simp [intOf] <;> omega)
    · have hkl : k = L := by omega
      subst hkl
      have hki : ¬ (k : Int) < (k : Int) := by omega
      rename World => V0
      go_wp2_with fail
      go_loopw [8, 14] (fun v i wr => ∃ (j : Nat) (Y : List ByteArray), j ≤ 64 ∧ i = .int .i64 (j : Int) ∧ Hid (OwnS wr w.heap.size v Y) ∧ Hid (Y.length = k + j) ∧ Hid (Apart w wr v (.slice a1 k c1) (.slice a4 k c4) gx) ∧ Hid (PK w wr (.slice a1 k c1) (.slice a4 k c4) W gx len0 cx ss0)) (fun v i _ => 64 - (intOf i).toNat)
      case atStart => exact ⟨0, X, Nat.zero_le _, rfl, HOk, HXL, HA5, HPKk⟩
      case round =>
        obtain ⟨j, Y, hj, rfl, HOj, HYL, HAj, HPKj⟩ := hrel
        obtain ⟨aj, cj, rfl⟩ := HOj.out.shape
        rename World => V1
        rw [HYL.out] at HOj HAj ⊢
        by_cases hjl : j < 64
        · have hji : (j : Int) < 64 := by omega
          go_wp2_with (at_builtin; refine pushL _ rfl _ _ rfl w.heap.size _ Y rfl (HOj.out.below ((Below.refl _ _).alloc (Nat.le_refl _) _)) ⟨V1.heap.size, 0, none⟩ 1 more rfl ?_ (by rw [HYL.out]; omega) (by have := HPKj.out.below.size; simp; omega) (k + (j + 1)) (by rw [HYL.out]; omega) ?_
                       · simp [Addr.add, more]
                       intro g9 c9 w9 ho9 hg9 hw9
                       have HPK9 := hide ((HPKj.out.next ((Below.refl _ _).alloc (Nat.le_refl _) (.cells #[.string more] 9))).grown hg9 HAj.out)
                       have HA9 : Hid (Apart w w9 (.slice (some ⟨g9, 0, none⟩) (k + (j + 1)) c9) (.slice a1 k c1) (.slice a4 k c4) gx) := fun q e => by
                         have e2 := blk_eq e
                         subst e2
                         rcases hw9 with h | h
                         · exact HAj.out q h
                         · exact HPKj.out.fresh q (by rw [h]; simp)
                       have HO9 := hide ho9
                       clear ho9 hg9 hw9)
          go_roundw
          case rel => exact ⟨j + 1, Y ++ [more], by omega, by go_num, HO9, (by show (Y ++ [more]).length = k + (j + 1); rw [List.length_append, HYL.out]; simp; omega), HA9, HPK9⟩
          case measure => (simp [intOf] <;> omega)
        · have hj64 : j = 64 := by omega
          subst hj64
          go_wp2_with fail
          refine (sameTexts_eq a4 a1 k c4 k c1 W V1 (HPKj.out.two.rds (by rw [HLL.out]; omega) HWS.out) (HPKj.out.one.rds (by rw [HLL.out]; omega) HWS.out)).mono ?_
          rintro e w10 ⟨rfl, hb10⟩
          have HPK10 := hide (HPKj.out.next hb10)
          clear hb10 HPKj HOj HAj
          go_wp2_with fail
          refine (kept_any gx len0 cx w.heap.size len0 cap0 a0 ss0 w10 HPK10.out.sam (H0.out.below HPK10.out.below) HY0.out m0 HL0.out).mono ?_
          rintro e w11 ⟨rfl, hb11⟩
          have HPK11 := hide (HPK10.out.next hb11)
          clear hb11 HPK10
          go_wp2_with fail
          refine (HCB.out (some ⟨gx, 0, none⟩) len0 cx ss0 w11 (sam_rds HPK11.out HL0.out (fun s hs => by have := HY0.out s hs; omega) m0)).mono ?_
          rintro e w12 ⟨v12, rfl, ho12, hb12⟩
          have HPK12 := hide (HPK11.out.next hb12)
          clear ho12 hb12 HPK11
          go_wp2_with fail
          refine (turned_any gx len0 cx w.heap.size ss0 w12 HPK12.out.sam HY0.out m0 HL0.out).mono ?_
          rintro e w13 ⟨v13, rfl, ho13, hx13, hg13⟩
          obtain ⟨a13, c13, rfl⟩ := ho13.shape
          have HTL : Hid ((turn ss0).length = len0) := hide ((turn_len ss0).trans HL0.out)
          have HTS := hide (turn_size HY0.out)
          rw [HTL.out] at ho13 ⊢
          have HB13 := hide (HPK12.out.below.grown hg13 HPK12.out.below.size (fun j e => by have := Option.some.inj e; have := HPK12.out.sam.lt'.1; omega))
          have HR13 := hide (ho13.rds (by rw [HTL.out]; omega) (fun s hs => by have := HTS.out s hs; omega))
          have HX13 := hide hx13
          clear ho13 hx13 hg13 HPK12
          go_wp2_with fail
          refine (HCR.out a13 len0 c13 (turn ss0) w13 HR13.out).mono ?_
          rintro e w14 ⟨v14, rfl, ho14, hb14⟩
          obtain ⟨a14, c14, rfl⟩ := ho14.shape
          obtain ⟨M, hM⟩ : ∃ M, (bndS (turn ss0) n).length = M := ⟨_, rfl⟩
          have hML := bndS_small (turn ss0) n
          rw [hM] at ho14 hML ⊢
          have HMM := hide hM
          have HB14 := hide (below_trans HB13.out hb14)
          have HO14 := hide ho14
          have HR14 : Hid (RdS w14 (some ⟨gx, 0, none⟩) len0 (turn ss0)) := by
            have h1 := (HX13.out.below hb14).cut (fun s hs2 => by
              rcases List.mem_append.1 hs2 with h | h
              · have := HTS.out s h; omega
              · rw [List.mem_singleton] at h; rw [h]; decide) (by omega) len0 (by omega)
            rwa [take_mark (turn ss0) markS len0 HTL.out] at h1
          clear ho14 hb14 hM HX13
          go_wp2_with fail
          refine (HCB.out (some ⟨gx, 0, none⟩) len0 cx (turn ss0) w14 HR14.out).mono ?_
          rintro e w15 ⟨v15, rfl, ho15, hb15⟩
          obtain ⟨a15, c15, rfl⟩ := ho15.shape
          rw [HMM.out] at ho15 ⊢
          have HB15 := hide (below_trans HB14.out hb15)
          have HO15 := hide ho15
          have HO16 := hide (HO14.out.below hb15)
          have HTZ := hide (bndS_sizes (turn ss0) n)
          generalize ((bErr (turn ss0) n : Nat) : Int) = E2
          clear ho15 hb15 HO14
          have hEq2 : ((E2 : Int) == E2) = true := by simp
          go_wp2_with fail
          refine (sameTexts_eq a15 a14 M c15 M c14 _ w15 (HO15.out.rds (by rw [HMM.out]; omega) HTZ.out) (HO16.out.rds (by rw [HMM.out]; omega) HTZ.out)).mono ?_
          rintro e w16 ⟨rfl, hb16⟩
          have HB16 := hide (below_trans HB15.out hb16)
          clear hb16
          go_wp2_with fail
          go_ret
          exact ⟨rfl, HB16.out⟩
theorem walk (a0 : Option Addr) (len0 cap0 : Nat) (ss0 : List ByteArray) (n : Int) (w : World) (r0 : RdS w a0 len0 ss0) (l0 : len0 ≤ cap0) (m0 : cap0 ≤ 8796093021952) (z0 : a0 = none → len0 = 0 ∧ cap0 = 0) (y0 : ∀ s ∈ ss0, s.size ≤ 140737488351232) (w1 : (Lit.int .i64 n).wf = true) :
    Calls Try.prog 6 #[.slice a0 len0 cap0, .int .i64 n] w fun e w' => e = .returned (.bool true) ∧ Below w.heap.size w w' := walk0 a0 len0 cap0 ss0 n w r0 (by omega) z0 y0
end Go.Proofs.Ytdpihfmbkimgpaa.partsBounds
