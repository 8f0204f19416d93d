/-
  All that was handed out stands.
-/
import Derived.Test.YtcchknpgkcmneaaNcT4
import Derived.Test.YtcchknpgkcmneaaNumsHead
namespace Go.Proofs.Ytcchknpgkcmneaa.Curs
open Go.ChangeShapes Go.WideShapes Go.ChangeAt Go.RowKit
open Go.Proofs.Ytcchknpgkcmneaa.Base Go.Proofs.Ytcchknpgkcmneaa.Nums
set_option linter.unusedVariables false
theorem row_some {w : World} {base m : Nat} {v : Value} {xs : List Value} (h : w.ownsRow base 22 1 v m xs) : ∃ a c, v = .slice a m c := rowV_shape h
set_option maxHeartbeats 2000000 in
set_option maxRecDepth 100000 in
theorem stands_any (base gt : Nat) (vl vw vg : Value) (es : List En) (w : World) (h : TK w base gt vl vw vg es) (hes : es.length ≤ 4194304) :
    Calls Try.prog 16 #[.pointer (some ⟨gt, 0, none⟩)] w fun e' w' => e' = .returned (.bool true) ∧ Below w.heap.size w w' := by
  have HTK := hide h
  obtain ⟨m, hm⟩ : ∃ m, es.length = m := ⟨_, rfl⟩
  have HM := hide hm
  have hmi : (m : Int) ≤ 4194304 := by omega
  obtain ⟨aL, cL, hvl⟩ := row_some h.rl
  obtain ⟨aW, cW, hvw⟩ := row_some h.rw'
  obtain ⟨aG, cG, hvg⟩ := row_some h.rg
  rw [hm] at hvl hvw hvg
  subst hvl hvw hvg
  clear h hm
  go_enter Try.func16, Try.ntmps16
  go_wp2_with fail
  go_loopw [3] (fun s3 wr => ∃ n : Nat, n ≤ m ∧ s3 = .int .i64 (n : Int) ∧ Hid (Below w.heap.size w wr)) (fun s3 _ => m - (intOf s3).toNat)
  case atStart => exact ⟨0, Nat.zero_le _, rfl, Below.refl _ _⟩
  case round =>
    obtain ⟨n, hn, rfl, HB⟩ := hrel
    have HT := hide (HTK.out.below HB.out)
    obtain ⟨y0, y1, y2, yf⟩ := HT.out.cells
    by_cases hlt : (n : Int) < (m : Int)
    · obtain ⟨e, he⟩ : ∃ e, es[n]? = some e := ⟨_, List.getElem?_eq_getElem (by have := HM.out; omega)⟩
      have HE := hide he
      have HQ := hide (HT.out.en n e he)
      obtain ⟨gL, cL', q1, cellL, _, _, hcL⟩ := row_at HT.out.rl (at_map En.l he)
      obtain ⟨gW, cW', q2, cellW, _, _, hcW⟩ := row_at HT.out.rw' (at_map En.h he)
      obtain ⟨gG, cG', q3, cellG, _, _, hcG⟩ := row_at HT.out.rg (at_map En.g he)
      simp only [Value.slice.injEq] at q1 q2 q3
      obtain ⟨rfl, -, rfl⟩ := q1
      obtain ⟨rfl, -, rfl⟩ := q2
      obtain ⟨rfl, -, rfl⟩ := q3
      obtain ⟨la, lk, lc, hla, hlk⟩ := Lz.own_named HQ.out.l
      obtain ⟨ha, hk, hc, hha, hhk⟩ := Lz.own_named HQ.out.h
      have hlk' : lk = e.bs.length := hlk
      have hhk' : hk = lk := by have : hk = e.bs.length := hhk; omega
      subst hhk'
      rw [hla] at cellL
      rw [hha] at cellW
      have HLA := hide hla
      have HLK := hide hlk'
      have hk20 : hk ≤ 1048576 := by have := HQ.out.k; omega
      have hki : (hk : Int) ≤ 1048576 := by omega
      have HRL : Hid (Rd wr la hk e.bs) := Got.rd (by have := HQ.out.l; rw [hla] at this; exact this) (by have := HQ.out.k; omega)
      have HRH : Hid (Rd wr ha hk e.bs) := Got.rd (by have := HQ.out.h; rw [hha] at this; exact this) (by have := HQ.out.k; omega)
      have HSM : Hid (∀ W, Below wr.heap.size wr W → Calls Try.prog 51 #[.slice la hk lc, .slice ha hk hc] W fun e w' => e = .returned (.bool true) ∧ Below wr.heap.size wr w') := fun W hW =>
        (same_any la ha hk lc hk hc e.bs e.bs W (HRL.out.below hW) (HRH.out.below hW)).mono fun e w' ⟨h1, h2⟩ => ⟨by rw [h1, decide_eq_true rfl], hW.trans (h2.mono hW.size)⟩
      have hltn : n < m := by omega
      obtain ⟨d, hd⟩ : ∃ d, mkG n = d := ⟨_, rfl⟩
      have HD := hide hd
      have hdn : 200 + ((n : Int) % 55) = (d.toNat : Int) := by have := mkG_nat n; rw [hd] at this; omega
      have hdt : 200 + Int.tmod (n : Int) 55 = (d.toNat : Int) := by rw [Int.tmod_eq_emod_of_nonneg (by omega)]; exact hdn
      have hd8 : d.toNat < 256 := d.isLt
      have hm55 : (n : Int) % 55 < 55 ∧ 0 ≤ (n : Int) % 55 := by omega
      clear he hla hha hlk hhk hlk' hd
      go_wp2_with fail
      go_region_held (fun V => V.cell? ⟨gt, 0, none⟩ = some (.slice (some ⟨gL, 0, none⟩) m cL) ∧ V.cell? ⟨gt, 1, none⟩ = some (.slice (some ⟨gW, 0, none⟩) m cW) ∧ V.cell? ⟨gL, n, none⟩ = some (.slice la hk lc) ∧ V.cell? ⟨gW, n, none⟩ = some (.slice ha hk hc)) (first | go_keep | exact E8.out) (first
        | (go_at_call 51; refine (HSM.out _ ((Below.refl _ _).drew)).mono ?_; rintro e w1 ⟨rfl, hb1⟩; have HB1 := hide hb1; have E8 := hide (And.intro ((hb1.cell (p := ⟨gt, 0, none⟩) HT.out.lt).trans y0) (And.intro ((hb1.cell (p := ⟨gt, 1, none⟩) HT.out.lt).trans y1) (And.intro ((hb1.cell (p := ⟨gL, n, none⟩) (block_lt_of_cell cellL)).trans cellL) ((hb1.cell (p := ⟨gW, n, none⟩) (block_lt_of_cell cellW)).trans cellW)))); clear hb1))
      have HT1 := hide (HT.out.below HB1.out)
      have HBB := hide (below_trans HB.out HB1.out)
      have HQ1 := hide (HT1.out.en n e HE.out)
      have cellL1 := (HB1.out.cell (p := ⟨gL, n, none⟩) (block_lt_of_cell cellL)).trans cellL
      have cellG1 := (HB1.out.cell (p := ⟨gG, n, none⟩) (block_lt_of_cell cellG)).trans cellG
      obtain ⟨z0, z1, z2, zf⟩ := HT1.out.cells
      clear y0 y1 y2 yf E8 cellL cellW cellG HT HB HQ HSM HRL HRH
      rcases HQ1.out.g with hg | ⟨xs, hxl, hxo⟩
      · rw [hg] at cellG1
        clear hg
        go_wp2_with fail
        go_loopw [4] (fun s4 wy => s4 = .int .i64 (hk : Int) ∧ Hid (Below w1.heap.size w1 wy)) (fun _ _ => 0)
        case atStart => exact ⟨rfl, Below.refl _ _⟩
        case round =>
          obtain ⟨rfl, HBY⟩ := hrel
          have x2 := (HBY.out.cell (p := ⟨gt, 2, none⟩) HT1.out.lt).trans z2
          have x3 := (HBY.out.cell (p := ⟨gG, n, none⟩) (block_lt_of_cell cellG1)).trans cellG1
          have hk0 : ¬ (hk : Int) < 0 := by omega
          have hkd : decide ((hk : Int) < 0) = false := by simp
          clear z0 z1 z2 zf cellL1 cellG1
          go_wp2_with fail
          first
            | (go_roundw
               case measure => simp [intOf]; omega
               case rel => exact ⟨n + 1, by omega, by go_num, below_trans HBB.out HBY.out⟩)
            | (go_quiet (fail)
               go_wp2_with fail
               go_roundw
               case measure => simp [intOf]; omega
               case rel => exact ⟨n + 1, by omega, by go_num, below_trans HBB.out (below_drewN HBY.out _)⟩)
      · obtain ⟨ga, gk, gc, hga, hgk⟩ := Lz.own_named hxo
        rw [hga] at cellG1 hxo
        have hgk' : gk = hk + 64 := by have h1 : gk = (xs ++ List.replicate 64 (mkG n)).length := hgk; rw [List.length_append, List.length_replicate] at h1; have := HLK.out; omega
        subst hgk'
        have HXO := hide hxo
        have HXL : Hid (xs.length = hk) := by show _ = _; rw [hxl]; exact HLK.out.symm
        clear hga hgk hxo hxl
        go_wp2_with fail
        go_loopw [4] (fun s4 wy => ∃ i : Nat, hk ≤ i ∧ i ≤ hk + 64 ∧ s4 = .int .i64 (i : Int) ∧ Hid (Below w1.heap.size w1 wy)) (fun s4 _ => hk + 64 - (intOf s4).toNat)
        case atStart => exact ⟨hk, Nat.le_refl _, by omega, rfl, Below.refl _ _⟩
        case round =>
          obtain ⟨i, hi1, hi2, rfl, HBY⟩ := hrel
          have x2 := (HBY.out.cell (p := ⟨gt, 2, none⟩) HT1.out.lt).trans z2
          have x3 := (HBY.out.cell (p := ⟨gG, n, none⟩) (block_lt_of_cell cellG1)).trans cellG1
          have HXY := hide (HXO.out.below HBY.out)
          clear z0 z1 z2 zf cellL1 cellG1
          by_cases hi3 : (i : Int) < (hk : Int) + 64
          · obtain ⟨gg, hgg⟩ : ∃ g, ga = some ⟨g, 0, none⟩ := by
              rcases HXY.out.2 with ⟨e1, _⟩ | ⟨g, cap, cur, e1, _⟩
              · simp only [Value.slice.injEq] at e1; omega
              · simp only [Value.slice.injEq] at e1; exact ⟨g, e1.1⟩
            subst hgg
            have x4 := HXY.out.cell i (by omega)
            rw [List.getD_eq_getElem?_getD, List.getElem?_append_right (by have := HXL.out; omega), List.getElem?_replicate, if_pos (by have := HXL.out; omega), Option.getD_some, HD.out] at x4
            have hi4 : i < hk + 64 := by omega
            have hi5 : decide (i < hk + 64) = true := by simp; omega
            have hidc : decide ((i : Int) < (hk : Int) + 64) = true := by simp; omega
            go_wp2_with fail
            go_roundw
            case measure => simp [intOf]; omega
            case rel => exact ⟨i + 1, by omega, by omega, by go_num, HBY⟩
          · go_wp2_with fail
            go_roundw
            case measure => simp [intOf]; omega
            case rel => exact ⟨n + 1, by omega, by go_num, below_trans HBB.out HBY.out⟩
    · go_wp2_with fail
      go_ret
      exact ⟨rfl, HB.out⟩
set_option maxHeartbeats 2000000 in
set_option maxRecDepth 100000 in
theorem ends_any (base gt : Nat) (vl vw vg : Value) (es : List En) (w : World) (h : TK w base gt vl vw vg es) (hes : es.length ≤ 4194000) (hbase : base ≤ w.heap.size) :
    Calls Try.prog 17 #[.pointer (some ⟨gt, 0, none⟩)] w fun e' w' => e' = .returned (.bool true) ∧ Below base w w' := by
  have HTK := hide h
  obtain ⟨m, hm⟩ : ∃ m, es.length = m := ⟨_, rfl⟩
  have HM := hide hm
  have hmi : (m : Int) ≤ 4194000 := by omega
  have hmn : m ≤ 4194000 := by omega
  obtain ⟨aL, cL, hvl⟩ := row_some h.rl
  rw [hm] at hvl
  subst hvl
  clear h hm hes
  go_enter Try.func17, Try.ntmps17
  go_wp2_with fail
  go_loopw [3] (fun s3 wr => ∃ (n : Nat) (es' : List En), n ≤ m + 1 ∧ s3 = .int .i64 (n : Int) ∧ Hid (es'.length = m) ∧ Hid (TK wr base gt (.slice aL m cL) vw vg es') ∧ Hid (Below base w wr)) (fun s3 _ => m + 1 - (intOf s3).toNat)
  case atStart => exact ⟨0, es, Nat.zero_le _, rfl, HM, HTK, Below.refl _ _⟩
  case round =>
    clear HTK HM
    obtain ⟨n, es', hn, rfl, HL, HT, HB⟩ := hrel
    obtain ⟨y0, y1, y2, yf⟩ := HT.out.cells
    have HBS : Hid (base ≤ wr.heap.size) := Nat.le_trans hbase HB.out.size
    by_cases hlt : (n : Int) < (m : Int)
    · obtain ⟨e, he⟩ : ∃ e, es'[n]? = some e := ⟨_, List.getElem?_eq_getElem (by have := HL.out; omega)⟩
      have HMK := hide (mark_any base gt n _ _ _ es' e wr HT.out he HBS.out (by omega))
      clear he
      go_wp2_with fail
      refine HMK.out.mono ?_
      rintro e' wz ⟨rfl, ⟨gz, htz⟩, hbz⟩
      have HTZ := hide htz
      have HBZ := hide (HB.out.trans hbz)
      clear htz hbz HMK
      go_wp2_with fail
      go_roundw
      case measure => simp [intOf]; omega
      case rel => exact ⟨n + 2, _, by omega, by go_num, by show _ = _; rw [List.length_set]; exact HL.out, HTZ, HBZ⟩
    · have HST := hide (stands_any base gt _ _ _ es' wr HT.out (by have := HL.out; omega))
      go_wp2_with fail
      refine HST.out.mono ?_
      rintro e' wz ⟨rfl, hbz⟩
      have HBZ := hide (HB.out.trans (hbz.mono HBS.out))
      clear hbz HST
      go_wp2_with fail
      go_ret
      exact ⟨rfl, HBZ.out⟩
end Go.Proofs.Ytcchknpgkcmneaa.Curs
