/-
  What was handed out is written full and grown.
-/
import Derived.Test.YtcchknpgkcmneaaNcT1
import Derived.Deep.RegionHeld
namespace Go.Proofs.Ytcchknpgkcmneaa.Curs
open Go.ChangeShapes Go.WideShapes Go.ChangeAt Go.RowKit
open Go.Proofs.Ytcchknpgkcmneaa.Base Go.Proofs.Ytcchknpgkcmneaa.Nums
set_option linter.unusedVariables false
/-- The first i are marks. -/
def part (c : BitVec 8) (bs : List (BitVec 8)) (i : Nat) : List (BitVec 8) := List.replicate i c ++ bs.drop i
theorem part_zero (c : BitVec 8) (bs : List (BitVec 8)) : part c bs 0 = bs := by simp [part]
theorem part_all (c : BitVec 8) (bs : List (BitVec 8)) : part c bs bs.length = List.replicate bs.length c := by simp [part]
theorem part_len (c : BitVec 8) (bs : List (BitVec 8)) (i : Nat) (h : i ≤ bs.length) : (part c bs i).length = bs.length := by simp [part]; omega
theorem part_set (c : BitVec 8) (bs : List (BitVec 8)) (i : Nat) (h : i < bs.length) : (part c bs i).set i c = part c bs (i + 1) := by
  unfold part
  rw [List.set_append_right _ _ (by simp), List.length_replicate, Nat.sub_self, List.drop_eq_getElem_cons h, List.set_cons_zero, List.replicate_succ', List.append_assoc]
  rfl
theorem row_at {w : World} {base m i : Nat} {v u : Value} {xs : List Value} (h : w.ownsRow base 22 1 v m xs) (hu : xs[i]? = some u) : ∃ g c, v = .slice (some ⟨g, 0, none⟩) m c ∧ w.cell? ⟨g, i, none⟩ = some u ∧ w.frozen? ⟨g, i, none⟩ = false ∧ i < m ∧ m ≤ c := by
  have hi : i < xs.length := (List.getElem?_eq_some_iff.1 hu).1
  have hl := rowV_len h
  rcases h.2 with ⟨_, h2⟩ | ⟨g, c, cur, h1, h3, h4, h5, h6⟩
  · omega
  · subst h1
    refine ⟨g, c, rfl, ?_, World.ownsRow.frozenAt h i, by omega, h5⟩
    rw [World.ownsRow.cellAt h i (by omega)]; exact hu
theorem at_map {es : List En} {n : Nat} {e : En} (f : En → Value) (he : es[n]? = some e) : (es.map f)[n]? = some (f e) := by rw [List.getElem?_map, he]; rfl
set_option maxHeartbeats 2000000 in
set_option maxRecDepth 100000 in
theorem mark_any (base gt n : Nat) (vl vw vg : Value) (es : List En) (e : En) (w : World) (h : TK w base gt vl vw vg es) (he : es[n]? = some e) (hbase : base ≤ w.heap.size) (hn : n ≤ 4194304) :
    Calls Try.prog 58 #[.pointer (some ⟨gt, 0, none⟩), .int .i64 (n : Int)] w fun e' w' => e' = .returned (.tuple #[]) ∧ (∃ g', TK w' base gt vl vw vg (es.set n ⟨e.l, e.h, g', List.replicate e.bs.length (mkL n)⟩)) ∧ Below base w w' := by
  have HTK := hide h
  have HE := hide he
  have hln : n < es.length := (List.getElem?_eq_some_iff.1 he).1
  have hni : (n : Int) ≤ 4194304 := by omega
  obtain ⟨gL, cL, hvl, cellL, _, hnL, hcL⟩ := row_at h.rl (at_map En.l he)
  subst hvl
  obtain ⟨t0, t1, t2, tf⟩ := h.cells
  obtain ⟨la, k, hla⟩ := (h.en n e he).f
  have hkl : k = e.bs.length := by have := (h.en n e he).l; rw [hla] at this; exact (Got.cap this).2
  have hk20 : k ≤ 1048576 := by have := (h.en n e he).k; omega
  have hki : (k : Int) ≤ 1048576 := by omega
  have HLA := hide hla
  have HKL := hide hkl
  rw [hla] at cellL
  obtain ⟨c, hc⟩ : ∃ c, mkL n = c := ⟨_, rfl⟩
  obtain ⟨d, hd⟩ : ∃ d, mkG n = d := ⟨_, rfl⟩
  have HC := hide hc
  have HD := hide hd
  have hcn : ((n : Int) % 199) = (c.toNat : Int) := by have := mkL_nat n; rw [hc] at this; omega
  have hct : Int.tmod (n : Int) 199 = (c.toNat : Int) := by rw [Int.tmod_eq_emod_of_nonneg (by omega)]; exact hcn
  have hdn : 200 + ((n : Int) % 55) = (d.toNat : Int) := by have := mkG_nat n; rw [hd] at this; omega
  have hdt : 200 + Int.tmod (n : Int) 55 = (d.toNat : Int) := by rw [Int.tmod_eq_emod_of_nonneg (by omega)]; exact hdn
  have hc8 : c.toNat < 256 := c.isLt
  have hd8 : d.toNat < 256 := d.isLt
  have hm55 : (n : Int) % 55 < 55 ∧ 0 ≤ (n : Int) % 55 := by omega
  have hnLi : (n : Int) < (es.length : Int) := by omega
  clear h he hla hkl hc hd
  go_enter Try.func58, Try.ntmps58
  go_wp2_with fail
  go_loopw [5] (fun s5 wr => ∃ i : Nat, i ≤ k ∧ s5 = .int .i64 (i : Int) ∧ Hid (TK wr base gt (.slice (some ⟨gL, 0, none⟩) es.length cL) vw vg (es.set n { e with bs := part c e.bs i })) ∧ Hid (Below base w wr)) (fun s5 _ => k - (intOf s5).toNat)
  case atStart => exact ⟨0, Nat.zero_le _, rfl, by
    show TK _ _ _ _ _ _ _
    rw [part_zero]
    have hs : es.set n { e with bs := e.bs } = es := by
      apply List.ext_getElem?
      intro m
      by_cases hmn : m = n
      · subst hmn; rw [List.getElem?_set_self hln, HE.out]
      · rw [List.getElem?_set_ne (fun e => hmn e.symm)]
    rw [hs]; exact HTK.out, Below.refl _ _⟩
  case round =>
    obtain ⟨i, hi, rfl, HT, HB⟩ := hrel
    have HEI : Hid ((es.set n { e with bs := part c e.bs i })[n]? = some { e with bs := part c e.bs i }) := get_set_self hln
    by_cases hlt : (i : Int) < (k : Int)
    · obtain ⟨gl, hgl⟩ : ∃ gl, la = some ⟨gl, 0, none⟩ := by
        have hq := (HT.out.en n _ HEI.out).l
        rw [show ({ e with bs := part c e.bs i } : En).l = .slice la k k from HLA.out] at hq
        rcases hq.2 with ⟨e1, _⟩ | ⟨g, cap, cur, e1, _⟩
        · simp only [Value.slice.injEq] at e1; omega
        · simp only [Value.slice.injEq] at e1; exact ⟨g, e1.1⟩
      subst hgl
      have HQ := hide (HT.out.en n _ HEI.out)
      have HPL := hide (part_len c e.bs i (by have := HKL.out; omega))
      obtain ⟨gh, ch, hgh⟩ : ∃ gh ch, e.h = .slice (some ⟨gh, 0, none⟩) k ch := by
        have hq := HQ.out.h
        have hl := HPL.out
        rcases hq.2 with ⟨e1, e2⟩ | ⟨g, cap, cur, e1, _⟩
        · have h3 := HKL.out; simp only at e2; omega
        · simp only at e1
          rw [hl] at e1
          have h3 := HKL.out
          rw [← h3] at e1
          exact ⟨g, cap, e1⟩
      have HGH := hide hgh
      have HOL := HQ.out.l
      rw [show ({ e with bs := part c e.bs i } : En).l = .slice (some ⟨gl, 0, none⟩) k k from HLA.out] at HOL
      have HOH := HQ.out.h
      rw [show ({ e with bs := part c e.bs i } : En).h = .slice (some ⟨gh, 0, none⟩) k ch from hgh] at HOH
      have a1 := HOL.cell i (by omega)
      have a2 := HOL.frozen i
      obtain ⟨gW, cW, hvw, cellW, _, _, hcW⟩ := row_at HT.out.rw' (at_map En.h HEI.out)
      rw [List.length_set] at hvw hcW
      subst hvw
      rw [show ({ e with bs := part c e.bs i } : En).h = .slice (some ⟨gh, 0, none⟩) k ch from hgh] at cellW
      obtain ⟨q0, q1, q2, qf⟩ := HT.out.cells
      have HTS := hide (HT.out.both HEI.out HLA.out hgh (i := i) c)
      -- the world between the two writings
      obtain ⟨w1, hw1⟩ : ∃ w1, wr.setCell ⟨gl, i, none⟩ (.int .u8 (c.toNat : Int)) = w1 := ⟨_, rfl⟩
      have hg1 := (HOL.store i c).2
      rw [hw1] at hg1 HTS
      obtain ⟨cl0, tl⟩ := row_ty HOL rfl
      obtain ⟨cw0, tw⟩ := row_ty HT.out.rw' (i := gW) rfl
      have b1 : w1.cell? ⟨gt, 1, none⟩ = some (.slice (some ⟨gW, 0, none⟩) es.length cW) := hg1.cell q1 (fun e => ty_ne tl HT.out.tb (by decide) (Option.some.inj e).symm)
      have b2 : w1.cell? ⟨gW, n, none⟩ = some (.slice (some ⟨gh, 0, none⟩) k ch) := hg1.cell cellW (fun e => ty_ne tl tw (by decide) (Option.some.inj e).symm)
      have hne : gh ≠ gl := fun e2 => HT.out.ap n n 1 0 _ _ HEI.out HEI.out (by omega) (by omega) (.inr (by omega)) gh (by show e.h.ownBlock = _; rw [hgh]; rfl) (by show e.l.ownBlock = _; rw [HLA.out, e2]; rfl)
      have HOH1 := HOH.other hg1 hne
      have b3 := HOH1.cell i (by omega)
      have b4 := HOH1.frozen i
      generalize (part c e.bs i).getD i 0 = old at a1 b3
      have HBN : Hid (Below base w (w1.setCell ⟨gh, i, none⟩ (.int .u8 (c.toNat : Int)))) := by
        rw [← hw1]
        exact (HB.out.setCell (show base ≤ gl from (blk HOL gl rfl).1) _).setCell (show base ≤ gh from (blk HOH gh rfl).1) _
      clear HOL HOH HOH1 hg1 tl tw hne
      go_wp2_with fail
      go_roundw
      case measure => simp [intOf]; omega
      case rel =>
        refine ⟨i + 1, by omega, by go_num, ?_, HBN⟩
        have h1 := HTS.out
        rw [List.set_set] at h1
        simp only at h1
        rw [part_set c e.bs i (by have := HKL.out; omega)] at h1
        exact h1
    · obtain rfl : k = i := by omega
      have HT1 : Hid (TK wr base gt (.slice (some ⟨gL, 0, none⟩) es.length cL) vw vg (es.set n { e with bs := List.replicate k c })) := by
        have h1 := HT.out
        have h3 := HKL.out
        rw [show part c e.bs k = List.replicate k c by rw [h3]; exact part_all c e.bs] at h1
        exact h1
      have HE1 : Hid ((es.set n { e with bs := List.replicate k c })[n]? = some { e with bs := List.replicate k c }) := get_set_self hln
      generalize hes1 : es.set n { e with bs := List.replicate k c } = es1 at HT1 HE1
      have HES := hide hes1
      have HOL : Hid (Own wr base (.slice la k k) (List.replicate k c)) := by
        have h1 := (HT1.out.en n _ HE1.out).l
        rw [show ({ e with bs := List.replicate k c } : En).l = .slice la k k from HLA.out] at h1
        exact h1
      obtain ⟨tp1, tp2, tp3, tp4⟩ := HT1.out.tops
      have HLT := HT1.out.lt
      obtain ⟨B, hBq⟩ : ∃ B, wr.heap.size = B := ⟨_, rfl⟩
      rw [hBq] at tp1 tp2 tp3 tp4 HLT
      have HTP1 := hide tp1
      have HTP2 := hide tp2
      have HTP3 := hide tp3
      have HTP4 := hide tp4
      have HGB := hide HLT
      have hbB : base ≤ B := by rw [← hBq]; exact Nat.le_trans hbase HB.out.size
      have HBQ := hide hBq
      clear HT HEI hi tp1 tp2 tp3 tp4 HLT hes1 hBq
      go_wp2_with fail
      clear hlt
      go_loopw [4, 6] (fun s4 s6 wy => ∃ (j : Nat) (xa : Option Addr) (xc : Nat) (X : List (BitVec 8)), j ≤ 64 ∧ s6 = .int .i64 (j : Int) ∧ s4 = .slice xa (k + j) xc ∧ Hid (X.length = k) ∧ Hid (Own wy base (.slice xa (k + j) xc) (X ++ List.replicate j d)) ∧ Hid (k + j = xc ∨ ∀ i, (Value.slice xa (k + j) xc).ownBlock = some i → B ≤ i) ∧ Hid (1 ≤ j → ∀ i, (Value.slice xa (k + j) xc).ownBlock = some i → B ≤ i) ∧ Hid (TK wy base gt (.slice (some ⟨gL, 0, none⟩) es.length cL) vw vg es1) ∧ Hid (B ≤ wy.heap.size) ∧ Hid (Below base w wy)) (fun _ s6 _ => 64 - (intOf s6).toNat)
      case atStart => exact ⟨0, la, k, List.replicate k c, Nat.zero_le _, rfl, rfl, by show _ = _; simp, by show Own _ _ _ _; rw [List.replicate_zero, List.append_nil]; exact HOL.out, .inl rfl, fun h => by omega, HT1, by show _ ≤ _; rw [HBQ.out]; exact Nat.le_refl _, HB⟩
      case round =>
        clear HT1 HB HOL
        obtain ⟨j, xa, xc, X, hj, rfl, rfl, HX, HO, HF, HN, HT, HBS, HB⟩ := hrel
        by_cases hj2 : (j : Int) < 64
        · have hsz := HBS.out
          have HOA : Hid (Own (wr.alloc (.cells #[.int .u8 (d.toNat : Int)] 5)) base (.slice xa (k + j) xc) (X ++ List.replicate j d)) := HO.out.below ((Below.refl _ _).alloc (Nat.le_refl _) _)
          have HBA : Hid (Below B wr (wr.alloc (.cells #[.int .u8 (d.toNat : Int)] 5))) := (Below.refl _ _).alloc hsz _
          have hbw : base ≤ wr.heap.size := by omega
          go_wp2_with (at_builtin; refine pushOut B _ rfl _ _ rfl base xa (k + j) xc (X ++ List.replicate j d) rfl HOA.out HF.out ⟨wr.heap.size, 0, none⟩ 1 d rfl (cell_one_new _ _ _ 0 _ rfl) (by omega) (by simp; omega) (by simp; omega) ?_
                       intro g5 c5 w9 ho9 hg9 hb9
                       have HO9 : Hid (Own w9 base (.slice (some ⟨g5, 0, none⟩) (k + j + 1) c5) (X ++ List.replicate (j + 1) d)) := by rw [List.replicate_succ', ← List.append_assoc]; exact ho9
                       have HG9 := hide hg9
                       have HB9 := hide (HBA.out.trans hb9)
                       clear ho9 hg9 hb9)
          go_roundw
          case measure => simp [intOf]; omega
          case rel => exact ⟨j + 1, _, c5, X, by omega, by go_num, rfl, HX, HO9, .inr (fun i e => by cases e; exact HG9.out), fun _ i e => by cases e; exact HG9.out, HT.out.low HB9.out HGB.out (fun i e => (HTP1.out i e).2) (fun i e => (HTP2.out i e).2) (fun i e => (HTP3.out i e).2) (fun n e he j i e2 => (HTP4.out n e he j i e2).2), Nat.le_trans HBS.out HB9.out.size, HB.out.trans (HB9.out.mono hbB)⟩
        · obtain rfl : j = 64 := by omega
          obtain ⟨gG, cG, hvg, cellG, frG, hnG, hcG⟩ := row_at HT.out.rg (at_map En.g HE1.out)
          have hlen1 : es1.length = es.length := by rw [← HES.out, List.length_set]
          rw [hlen1] at hvg hcG
          obtain ⟨q0, q1, q2, qf⟩ := HT.out.cells
          rw [hvg] at q2
          have HFIN := hide (HT.out.setG HE1.out hvg (by rw [HD.out]; exact HO.out) (by show X.length = (List.replicate k c).length; rw [List.length_replicate]; exact HX.out) (HN.out (by omega)) (fun n e he j i e2 => (HTP4.out n e he j i e2).2))
          have HBF : Hid (Below base w (wr.setCell ⟨gG, n, none⟩ (.slice xa (k + 64) xc))) := HB.out.setCell (show base ≤ gG from (HTP3.out gG (by rw [hvg]; rfl)).1) _
          obtain ⟨old, hold⟩ : ∃ o, ({ e with bs := List.replicate k c } : En).g = o := ⟨_, rfl⟩
          rw [hold] at cellG
          have HVG := hide hvg
          clear hj hj2 HX HF HN hold hvg hlen1
          go_wp2_with fail
          go_end0
          refine ⟨rfl, ⟨.slice xa (k + 64) xc, ?_⟩, HBF.out⟩
          have h1 := HFIN.out
          rw [← HES.out, List.set_set] at h1
          rw [HC.out, ← HKL.out]
          exact h1
end Go.Proofs.Ytcchknpgkcmneaa.Curs
