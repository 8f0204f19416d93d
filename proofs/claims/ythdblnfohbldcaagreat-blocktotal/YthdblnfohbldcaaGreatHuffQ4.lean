/-
  mixed: things and packages in one row.
-/
import Derived.Test.YthdblnfohbldcaaGreatHuffQ3
import Derived.Great.BuildSlice
namespace Go.Proofs.YthdblnfohbldcaaGreat.Pm
open Go.ChangeShapes Go.WideShapes Go.ChangeAt Go.RowKit
open Go.Proofs.YthdblnfohbldcaaGreat.Base
set_option linter.unusedVariables false
theorem elemP : Tryz.prog.underlying 156 = some (.slice (Tryz.prog.elem 156)) := by kernel_rfl
theorem elemSize (W : World) : (sizeOf (Tryz.prog.elem 156)).run Tryz.prog W = .ok 257 W := by
  have h : (Tryz.prog.info? (Tryz.prog.elem 156)).map (·.size) = some 257 := by kernel_rfl
  cases hq : Tryz.prog.info? (Tryz.prog.elem 156) with
  | none => simp [hq] at h
  | some i => simp [hq] at h; simp [sizeOf, typeInfo, hq, h]
/-- 'packs[1:]'. -/
theorem slice_1 (b off len cap : Nat) (h : 0 < len) (hc : len ≤ cap) : ∃ la : Addr, (∀ W, (Instr.sliceAt 156 (.slice (some ⟨b, off, none⟩) len cap) (some (.int .i64 1)) none none).run Tryz.prog W = .ok (.slice (some la) (len - 1) (cap - 1)) W) ∧
    (1 < len → la = ⟨b, off + 257, none⟩) ∧ la.spot = none := by
  refine ⟨if cap = 1 then ⟨b, off, none⟩ else ⟨b, off + 257, none⟩, fun W => ?_, fun hc => by rw [if_neg (by omega)], by split <;> rfl⟩
  rw [run_sliceAt_slice (h := elemP), run_slice_l (ht := elemP) (h0 := by omega) (h1 := by omega), elemSize]
  simp only [Result.andThen, sliced, Int.toNat_one]
  by_cases hc : cap = 1
  · rw [if_pos hc, if_pos hc]
  · rw [if_neg hc, if_neg hc]
    simp [Addr.add]
theorem rdp_rest {w : World} {b off len : Nat} {la : Addr} {q : Pk} {qs : List Pk} (hr : RdP .u8 w (some ⟨b, off, none⟩) len (q :: qs)) (hl : 1 < len → la = ⟨b, off + 257, none⟩) : RdP .u8 w (some la) (len - 1) qs := by
  obtain ⟨h1, h2, h3⟩ := hr
  rw [List.length_cons] at h1
  refine ⟨by omega, fun p hp => h2 p (by simp [hp]), fun hp => ?_⟩
  obtain ⟨b', off', e, hb, hc⟩ := h3 (by omega)
  simp only [Option.some.injEq, Addr.mk.injEq, and_true] at e
  obtain ⟨rfl, rfl⟩ := e
  refine ⟨b, off + 257, by rw [hl (by omega)], hb, ?_⟩
  have := range_drop hc h2 1 (by simp)
  simpa using this
theorem fill_one (A : Array Value) (V : List Value) (hA : A.size = 257) (hV : V.length = 257) : Instr.fill (fun i => some (i * 257, 257)) A [(0, .agg V.toArray)] = some V.toArray := by
  have := Great.fill_whole (s := 257) (by omega) [.agg V.toArray] A (by intro v hv; simp at hv; subst hv; simp [Value.cells, hV]) (by simp [hA])
  simpa [Value.cells] using this
theorem wp_build1 {o : Oper} {a : Act} {w : World} {K : Act → World → Prop} {Q : Exit → Act → World → Prop} (x : Operand) (ho : o.op = .buildSlice 156 1 #[(0, x)]) (V : List Value) (hV : V.length = 257) (hx : a.eval x = .agg V.toArray)
    (h : K (a.put o.dst (.slice (some ⟨w.heap.size, 0, none⟩) 1 1)) (w.alloc (.cells V.toArray 161))) : o.wp Tryz.prog a w K Q := by
  obtain ⟨Z, HZ, HI, hz⟩ := zeroP
  obtain ⟨i0, hi, hz0, hz1, hz2⟩ := info_of HI
  refine wp_buildSlice 156 161 1 _ ho V.toArray i0 (.agg Z.toArray) Tryz.underlying156 hi hz0 (by rw [hz1]; decide) (by rw [hz1]; decide) ?_ h
  rw [hz1]
  have := fill_one ((Array.range (1 * 257)).map ((Value.agg Z.toArray).cells[· % (Value.agg Z.toArray).cells.size]!)) V (by rw [Array.size_map, Array.size_range]) hV
  simpa [hx] using this
theorem wpList_build1 {ops : Array Oper} {rest : List Oper} {o : Oper} {a : Act} {w : World} {Q : Exit → Act → World → Prop} (hg : o.guard = none) (x : Operand) (ho : o.op = .buildSlice 156 1 #[(0, x)]) (V : List Value) (hV : V.length = 257) (hx : a.eval x = .agg V.toArray)
    (h : wpList Tryz.prog ops Q rest (a.put o.dst (.slice (some ⟨w.heap.size, 0, none⟩) 1 1)) (w.alloc (.cells V.toArray 161))) : wpList Tryz.prog ops Q (o :: rest) a w :=
  wpList_plain hg fun _ hK => wp_build1 x ho V hV hx (hK _ _ h)
theorem merged_emit {t q : Pk} {ts qs : List Pk} (h : q.1 < t.1) : merged (t :: ts) (q :: qs) = q :: merged (t :: ts) qs := by rw [merged, if_neg (by omega)]
theorem merged_keep {t q : Pk} {ts qs : List Pk} (h : ¬ q.1 < t.1) : merged (t :: ts) (q :: qs) = t :: merged ts (q :: qs) := by rw [merged, if_pos (by omega)]
theorem merged_last {t : Pk} {ts : List Pk} : merged (t :: ts) [] = t :: merged ts [] := by rw [merged_nil, merged_nil]
theorem new_cells (w : World) (V : List Value) (t : TypeId) (j : Nat) (u : Value) (h : V[j]? = some u) : (w.alloc (.cells V.toArray t)).cell? ((⟨w.heap.size, 0, none⟩ : Addr).add j) = some u := by
  rw [Addr.add_mid, Nat.zero_add, cell_of_row _ _ _ _ _ _ (heap_alloc_new w (.cells V.toArray t)), List.getElem?_toArray]; exact h
theorem own_more {t : TypeId} {K : IntKind} {w : World} {base g n C : Nat} {X : List Pk} {q : Pk} (hX : Wide 256 X) (hq : q.2.length = 256) (hn : X.length = n) (h : w.ownsRow base t 257 (.slice (some ⟨g, 0, none⟩) (n + 1) C) (n + 1) (lcells K X ++ pcells K q)) : OwnP t K w base (.slice (some ⟨g, 0, none⟩) (n + 1) C) (X ++ [q]) := by
  refine ⟨fun p hp => ?_, ?_⟩
  · rcases List.mem_append.1 hp with h1 | h1
    · exact hX p h1
    · simp at h1; subst h1; exact hq
  · rw [List.length_append, hn, lcells_append]
    have e : lcells K [q] = pcells K q := by simp [lcells]
    rw [e]
    exact h
def slen : Value → Nat | .slice _ l _ => l | _ => 0
set_option maxHeartbeats 2000000 in
set_option maxRecDepth 100000 in
theorem mixed_any (a : Option Addr) (la ca : Nat) (ts : List Pk) (pa : Addr) (lp cp : Nat) (ps : List Pk) (w : World) (hr : RdP .u8 w a la ts) (hq : RdP .u8 w (some pa) lp ps) (hn : la ≤ 1000) (hp : lp ≤ 1000) (hlc : lp ≤ cp) (hcm : cp ≤ 1000000) (hsp : pa.spot = none) :
    Calls Tryz.prog 137 #[.slice a la ca, .slice (some pa) lp cp] w fun e w' => ∃ v, e = .returned v ∧ OwnP 161 .u8 w' w.heap.size v (merged ts ps) ∧ Below w.heap.size w w' := by
  obtain ⟨Z, HZ, HI, hz⟩ := zeroP
  obtain ⟨i0, hi, hz0, hz1, hz2⟩ := info_of HI
  have HL := hide hr.1
  have HWD := hide hr.2.1
  have HC := hide hr.2.2
  have HQ := hide hq
  have HZL : Hid (Z.length = 257) := by show _ = _; rw [HZ.out]; exact pcells_len _ (List.length_replicate ..)
  have HTOT : Hid ((merged ts ps).length = la + lp) := by show _ = _; rw [merged_len, hr.1, hq.1]
  obtain ⟨C, hC⟩ : ∃ C : Nat, la + lp = C := ⟨_, rfl⟩
  rw [hC] at HTOT
  have hCi : (la : Int) + (lp : Int) = (C : Int) := by omega
  have hCb : C ≤ 2000 := by omega
  have HW0 := hide (merged_wide hr.2.1 hq.2.1)
  obtain ⟨d, hu, hd⟩ := uP
  have HU := hide hu
  clear hr hq HI hC hu
  go_enter Tryz.func137, Tryz.ntmps137
  go_wp2_with (at_make; refine wpList_make_own _ rfl _ _ 156 rfl w.heap.size 161 i0 (.agg Z.toArray) 257 Tryz.underlying156 hi hz0 hz1 .i64 .i64 _ C rfl rfl rfl (by rw [hz2]; omega) (by unfold maxLen; omega) (Nat.le_refl _) ?_
               intro w5 hown hgrow)
  have HO0 : Hid (OwnP 161 .u8 w5 w.heap.size (.slice (some ⟨w.heap.size, 0, none⟩) 0 C) []) := ⟨by simp [Wide], hown⟩
  have HB0 : Hid (Below w.heap.size w w5) := (Below.refl _ _).grown hgrow (Nat.le_refl _) (fun i e => by cases e)
  clear hown hgrow
  obtain ⟨g, hg⟩ : ∃ g, w.heap.size = g := ⟨_, rfl⟩
  have HG : Hid (w.heap.size = g) := hg
  rw [hg] at HO0 HB0 ⊢
  clear hg
  go_loopw [1, 5, 16] (fun p r i wr => ∃ (k pl pc n : Nat) (pa : Addr) (qs X : List Pk), k ≤ la ∧ i = .int .i64 (k : Int) ∧ p = .slice (some pa) pl pc ∧ pl ≤ pc ∧ pc ≤ 1000000 ∧ pa.spot = none ∧ Hid (RdP .u8 w (some pa) pl qs) ∧ r = .slice (some ⟨g, 0, none⟩) n C ∧ n ≤ C ∧ Hid (X.length = n) ∧ Hid (OwnP 161 .u8 wr g (.slice (some ⟨g, 0, none⟩) n C) X) ∧ Hid (merged ts ps = X ++ merged (ts.drop k) qs) ∧ Hid (Below g w wr)) (fun _ _ i _ => la - (intOf i).toNat)
  case atStart => exact ⟨0, lp, cp, 0, pa, ps, [], Nat.zero_le _, rfl, rfl, hlc, hcm, hsp, HQ, rfl, Nat.zero_le _, rfl, HO0, rfl, HB0⟩
  case round =>
    clear HO0 HB0 hlc hcm hsp HQ
    obtain ⟨k, pl, pc, n, pa, qs, X, hk, rfl, rfl, hlc, hcm, hsp, HQ, rfl, hnC, HXL, HO, HM, HB⟩ := hrel
    by_cases hlt : k < la
    · obtain ⟨b1, o1, rfl, hb1, hc1⟩ := HC.out (by omega)
      have hki : (k : Int) < (la : Int) := by omega
      obtain ⟨t, ht⟩ : ∃ t, ts.getD k (0, []) = t := ⟨_, rfl⟩
      have HDK : Hid (ts.drop k = t :: ts.drop (k + 1)) := by
        show _ = _
        rw [List.drop_eq_getElem_cons (by rw [HL.out]; exact hlt), ← ht, List.getD_eq_getElem?_getD, List.getElem?_eq_getElem (by rw [HL.out]; exact hlt)]; rfl
      have HBw : Hid (Below w.heap.size w wr) := by rw [HG.out]; exact HB.out
      have R1 : Hid (wr.rangeAt b1 (o1 + k * 257) (pcells .u8 t)) := by
        rw [← ht]
        exact range_below (range_one hc1 HWD.out k (by rw [HL.out]; exact hlt)) HBw.out hb1
      have HTL : Hid (t.2.length = 256) := by show _ = _; rw [← ht]; exact wide_get HWD.out k (by rw [HL.out]; exact hlt)
      have HVL := hide (pcells_len .u8 HTL.out)
      have HV1 := hide (pcells_one .u8 t)
      rw [HDK.out] at HM
      have HPB : Hid (PBlk 161 .u8 ((wr.alloc (.cells Z.toArray 161)).setCells wr.heap.size 0 (pcells .u8 t)) wr.heap.size t) := pblk_set (cs := Z) (heap_alloc_new _ _) (by rw [HZL.out, HVL.out])
      have hgs : g ≤ wr.heap.size := by rw [← HG.out]; exact HB.out.size
      have HB6 : Hid (Below g w ((wr.alloc (.cells Z.toArray 161)).setCells wr.heap.size 0 (pcells .u8 t))) := below_setCells _ (HB.out.alloc hgs _) (Nat.le_trans hgs (by simp)) hgs
      have HGR : Hid (wr.grownBy ((wr.alloc (.cells Z.toArray 161)).setCells wr.heap.size 0 (pcells .u8 t)) none) := by
        have h1 := grown_setCells (pcells .u8 t) 0 (wr.alloc (.cells Z.toArray 161)) (World.grownBy_alloc wr (.cells Z.toArray 161) (some wr.heap.size))
        exact ⟨h1.os, h1.tape, h1.output, h1.size, fun i hi _ => h1.block i hi (fun e => by have := Option.some.inj e; omega)⟩
      have HGN : Hid (g < wr.heap.size) := (HO.out.2.lt g rfl).2
      have HO6 : Hid (OwnP 161 .u8 ((wr.alloc (.cells Z.toArray 161)).setCells wr.heap.size 0 (pcells .u8 t)) g (.slice (some ⟨g, 0, none⟩) n C) X) := HO.out.keep HGR.out (fun i _ => by simp)
      have HTH : Hid ((wr.alloc (.cells Z.toArray 161)).there wr.heap.size 0 (pcells .u8 t).toArray.size) := by
        have e : (pcells .u8 t).toArray.size = 257 := by rw [List.size_toArray, HVL.out]
        rw [e]; exact there_new wr Z _ HZL.out
      have I1 : Hid ((Tryz.prog.info? 161).map (·.size) = some (pcells .u8 t).length) := by show _ = _; rw [HVL.out]; exact sizeP
      have I2 : Hid ((Tryz.prog.info? 161).map (·.size) = some (pcells .u8 t).toArray.size) := by show _ = _; rw [List.size_toArray, HVL.out]; exact sizeP
      obtain ⟨V, hV⟩ : ∃ V, pcells .u8 t = V := ⟨_, rfl⟩
      have HV := hide hV
      rw [hV] at R1 HVL HV1 HPB HB6 HGR HO6 HTH I1 I2
      obtain ⟨w6, hw6⟩ : ∃ w6, (wr.alloc (.cells Z.toArray 161)).setCells wr.heap.size 0 V = w6 := ⟨_, rfl⟩
      have HW6 := hide hw6
      rw [hw6] at HPB HB6 HGR HO6
      clear hc1 ht hV hw6
      go_wp2_with (first
        | (refine wpList_load_mid rfl 161 (.tmp 18) rfl b1 (o1 + k * 257) rfl V _ R1.out HU.out hd I1.out ?_)
        | (refine wpList_store_mid rfl 161 (.tmp 7) (.tmp 19) rfl wr.heap.size 0 V.toArray rfl rfl HTH.out I2.out (all_oneCell_toArray HV1.out) ?_
           rw [List.toList_toArray, HW6.out]))
      simp only [Act.put]
      obtain ⟨gt, hgt⟩ : ∃ gt, wr.heap.size = gt := ⟨_, rfl⟩
      rw [hgt] at HPB HGN hgs ⊢
      clear HTH HW6 hgt R1 HGR HBw HO HB
      go_loopw [1, 5] (fun p r wz => ∃ (pl pc n : Nat) (pa : Addr) (qs X : List Pk), p = .slice (some pa) pl pc ∧ pl ≤ pc ∧ pc ≤ 1000000 ∧ pa.spot = none ∧ Hid (RdP .u8 w (some pa) pl qs) ∧ r = .slice (some ⟨g, 0, none⟩) n C ∧ n ≤ C ∧ Hid (X.length = n) ∧ Hid (OwnP 161 .u8 wz g (.slice (some ⟨g, 0, none⟩) n C) X) ∧ Hid (merged ts ps = X ++ merged (t :: ts.drop (k + 1)) qs) ∧ Hid (PBlk 161 .u8 wz gt t) ∧ Hid (Below g w wz)) (fun p _ _ => slen p)
      case atStart => exact ⟨pl, pc, n, pa, qs, X, rfl, hlc, hcm, hsp, HQ, rfl, hnC, HXL, HO6, HM, HPB, HB6⟩
      case round =>
        clear HO6 HM HPB HB6 HXL HQ hlc hcm hsp hnC
        obtain ⟨pl, pc, n, pa, qs, X, rfl, hlc, hcm, hsp, HQ, rfl, hnC, HXL, HO, HM, HPB, HB⟩ := hrel
        have hn1 : n + 1 ≤ C := by
          have h1 := HTOT.out
          have h2 := HXL.out
          rw [HM.out, List.length_append, merged_len, List.length_cons] at h1
          omega
        have tw := HPB.out.w
        by_cases hex : ∃ q qs', qs = q :: qs' ∧ q.1 < t.1
        · obtain ⟨q, qs', hqe, hqt⟩ := hex
          rw [hqe] at HQ HM
          have hpl : 0 < pl := by have := HQ.out.1; rw [List.length_cons] at this; omega
          obtain ⟨b2, o2, hpa, hb2, hc2⟩ := HQ.out.2.2 hpl
          obtain rfl := Option.some.inj hpa
          obtain ⟨lx, hsl, hlx, hlxs⟩ := slice_1 b2 o2 pl pc hpl hlc
          have HQ' := hide (rdp_rest HQ.out hlx)
          have HBw : Hid (Below w.heap.size w wr) := by rw [HG.out]; exact HB.out
          have R2 : Hid (wr.rangeAt b2 o2 (pcells .u8 q)) := by
            have := range_below (range_one hc2 HQ.out.2.1 0 (by simp)) HBw.out hb2
            rw [Nat.zero_mul, Nat.add_zero] at this
            exact this
          have q0 := R2.out 0 _ (pcells_w _ q)
          rw [Nat.add_zero] at q0
          have HQL : Hid (q.2.length = 256) := HQ.out.2.1 q (by simp)
          have HVL := hide (pcells_len .u8 HQL.out)
          have HV1 := hide (pcells_one .u8 q)
          rw [merged_emit hqt] at HM
          have HM' : Hid (merged ts ps = (X ++ [q]) ++ merged (t :: ts.drop (k + 1)) qs') := by show _ = _; rw [HM.out, List.append_assoc]; rfl
          obtain ⟨Q1, hQ1⟩ : ∃ Q1, q.1 = Q1 := ⟨_, rfl⟩
          obtain ⟨T1, hT1⟩ : ∃ T1, t.1 = T1 := ⟨_, rfl⟩
          rw [hQ1] at q0 hqt
          rw [hT1] at tw hqt
          have g1 : decide ((0 : Int) < (pl : Int)) = true := by rw [decide_eq_true_iff]; omega
          have g2 : decide ((Q1 : Int) < (T1 : Int)) = true := by rw [decide_eq_true_iff]; omega
          have g3 : (0 : Int) < (pl : Int) := by omega
          have g4 : (Q1 : Int) < (T1 : Int) := by omega
          have I1 : Hid ((Tryz.prog.info? 161).map (·.size) = some (pcells .u8 q).length) := by show _ = _; rw [HVL.out]; exact sizeP
          obtain ⟨V2, hV2⟩ : ∃ V2, pcells .u8 q = V2 := ⟨_, rfl⟩
          have HV2 := hide hV2
          rw [hV2] at R2 HVL HV1 I1
          have HF := hide (fun A h => fill_one A V2 h HVL.out)
          have HOR := hide HO.out.2
          have HOW := hide HO.out.1
          rw [HXL.out] at HOR
          clear hc2 hpa hV2 hQ1 hT1
          go_wp2_with fail
          go_quiet (fail)
          obtain ⟨w7, hw7⟩ : ∃ w7, wr.drewN nq = w7 := ⟨_, rfl⟩
          have R7 : Hid (w7.rangeAt b2 o2 V2) := by rw [← hw7]; exact fun j v hv => R2.out j v hv
          have HOR7 : Hid (w7.ownsRow g 161 257 (.slice (some ⟨g, 0, none⟩) n C) n (lcells .u8 X)) := by rw [← hw7]; exact HOR.out
          have HP7 : Hid (PBlk 161 .u8 w7 gt t) := by rw [← hw7]; exact HPB.out
          have HB7 : Hid (Below g w w7) := by rw [← hw7]; exact below_drewN HB.out nq
          rw [hw7]
          clear hw7 R2 HOR HPB HB HO HBw
          have HP8 : Hid (PBlk 161 .u8 (w7.alloc (.cells V2.toArray 161)) gt t) := HP7.out.grown (World.grownBy_alloc w7 _ none) (by simp)
          have h7s : g ≤ w7.heap.size := by rw [← HG.out]; exact HB7.out.size
          have HB8 : Hid (Below g w (w7.alloc (.cells V2.toArray 161))) := HB7.out.alloc h7s _
          have HOR8 := hide (HOR7.out.alloc (.cells V2.toArray 161))
          go_wp2_with (first
            | (refine wpList_load_mid rfl 161 (.tmp 34) rfl b2 o2 rfl V2 _ R7.out HU.out hd I1.out ?_)
            | (refine wpList_build1 rfl (.tmp 35) rfl V2 HVL.out rfl ?_)
            | (refine wpList_append_fits _ rfl (.tmp 32) (.tmp 36) 156 rfl g 161 i0 257 Tryz.underlying156 hi hz1 g n C (lcells .u8 X) rfl HOR8.out ⟨w7.heap.size, 0, none⟩ 1 1 V2 rfl (by rw [HVL.out]) (fun j u h => new_cells w7 V2 _ j u h) HV1.out hn1 ?_
               intro w9 hown9 hg9))
          have HO9 : Hid (OwnP 161 .u8 w9 g (.slice (some ⟨g, 0, none⟩) (n + 1) C) (X ++ [q])) := by
            rw [← HV2.out] at hown9
            exact own_more HOW.out HQL.out HXL.out hown9
          have HP9 : Hid (PBlk 161 .u8 w9 gt t) := HP8.out.grown hg9 (fun e => by have := Option.some.inj e; have := HGN.out; omega)
          have HB9 : Hid (Below g w w9) := HB8.out.grown hg9 (Nat.le_trans h7s (by simp)) (fun i e => by cases e; exact Nat.le_refl _)
          clear hown9 hg9
          go_roundw
          case rel => exact ⟨pl - 1, pc - 1, n + 1, lx, qs', X ++ [q], rfl, by omega, by omega, hlxs, HQ', rfl, hn1, by show (X ++ [q]).length = n + 1; rw [List.length_append, HXL.out]; rfl, HO9, HM', HP9, HB9⟩
          case measure => simp [slen]; omega
        · have HM' : Hid (merged ts ps = (X ++ [t]) ++ merged (ts.drop (k + 1)) qs) := by
            show _ = _
            rw [HM.out, List.append_assoc]
            congr 1
            cases qs with
            | nil => exact merged_last
            | cons q qs' => exact merged_keep (fun h => hex ⟨q, qs', rfl, h⟩)
          have I1 : Hid ((Tryz.prog.info? 161).map (·.size) = some V.length) := by show _ = _; rw [HVL.out]; exact sizeP
          have HOR := hide HO.out.2
          have HOW := hide HO.out.1
          rw [HXL.out] at HOR
          have RT : Hid (wr.rangeAt gt 0 V) := by rw [← HV.out]; exact HPB.out.range
          have HBw : Hid (Below w.heap.size w wr) := by rw [HG.out]; exact HB.out
          have HFIN : Hid (∀ nq, (wr.drewN nq).rangeAt gt 0 V ∧ (wr.drewN nq).ownsRow g 161 257 (.slice (some ⟨g, 0, none⟩) n C) n (lcells .u8 X) ∧ Below g w (wr.drewN nq)) := fun nq => ⟨fun j v hv => RT.out j v hv, HOR.out, below_drewN HB.out nq⟩
          obtain ⟨T1, hT1⟩ : ∃ T1, t.1 = T1 := ⟨_, rfl⟩
          rw [hT1] at tw
          have HCASE : (¬ (0 : Int) < (pl : Int)) ∨ ∃ b2 o2 Q1, pa = ⟨b2, o2, none⟩ ∧ (0 : Int) < (pl : Int) ∧ wr.cell? ⟨b2, o2, none⟩ = some (.int .i64 ((Q1 : Nat) : Int)) ∧ ¬ (Q1 : Int) < (T1 : Int) := by
            rcases Nat.eq_zero_or_pos pl with h0 | h0
            · exact .inl (by omega)
            · obtain ⟨b2, o2, hpa, hb2, hc2⟩ := HQ.out.2.2 h0
              cases qs with
              | nil => have := HQ.out.1; simp at this; omega
              | cons q qs' =>
                have R2 := range_below (range_one hc2 HQ.out.2.1 0 (by simp)) HBw.out hb2
                rw [Nat.zero_mul, Nat.add_zero] at R2
                have q0 := R2 0 _ (pcells_w _ q)
                rw [Nat.add_zero] at q0
                refine .inr ⟨b2, o2, q.1, Option.some.inj hpa, by omega, q0, fun h => hex ⟨q, qs', rfl, by omega⟩⟩
          clear hex hT1 HO HB HBw RT HM HOR
          rcases HCASE with h0 | ⟨b2, o2, Q1, rfl, h0, q0, hqt⟩
          all_goals
            first
              | (have g1 : decide ((0 : Int) < (pl : Int)) = false := by rw [decide_eq_false_iff_not]; exact h0
                 have g1n : decide (0 < pl) = false := by rw [decide_eq_false_iff_not]; omega)
              | (have g1n : decide (0 < pl) = true := by rw [decide_eq_true_iff]; omega
                 have g2n : decide (Q1 < T1) = false := by rw [decide_eq_false_iff_not]; omega
                 have g1 : decide ((0 : Int) < (pl : Int)) = true := by rw [decide_eq_true_iff]; exact h0
                 have g2 : decide ((Q1 : Int) < (T1 : Int)) = false := by rw [decide_eq_false_iff_not]; exact hqt)
            go_wp2_with fail
            go_quiet (fail)
            obtain ⟨R7, HOR7, HB7⟩ := HFIN.out nq
            have R7 := hide R7
            have HOR7 := hide HOR7
            have HB7 := hide HB7
            obtain ⟨w7, hw7⟩ : ∃ w7, wr.drewN nq = w7 := ⟨_, rfl⟩
            rw [hw7] at R7 HOR7 HB7 ⊢
            clear hw7
            have h7s : g ≤ w7.heap.size := by rw [← HG.out]; exact HB7.out.size
            have HB8 : Hid (Below g w (w7.alloc (.cells V.toArray 161))) := HB7.out.alloc h7s _
            have HOR8 := hide (HOR7.out.alloc (.cells V.toArray 161))
            go_wp2_with (first
              | (refine wpList_load_mid rfl 161 (.tmp 7) rfl gt 0 rfl V _ R7.out HU.out hd I1.out ?_)
              | (refine wpList_build1 rfl (.tmp 41) rfl V HVL.out rfl ?_)
              | (refine wpList_append_fits _ rfl (.tmp 40) (.tmp 42) 156 rfl g 161 i0 257 Tryz.underlying156 hi hz1 g n C (lcells .u8 X) rfl HOR8.out ⟨w7.heap.size, 0, none⟩ 1 1 V rfl (by rw [HVL.out]) (fun j u h => new_cells w7 V _ j u h) HV1.out hn1 ?_
                 intro w9 hown9 hg9))
            have HO9 : Hid (OwnP 161 .u8 w9 g (.slice (some ⟨g, 0, none⟩) (n + 1) C) (X ++ [t])) := by
              rw [← HV.out] at hown9
              exact own_more HOW.out HTL.out HXL.out hown9
            have HB9 : Hid (Below g w w9) := HB8.out.grown hg9 (Nat.le_trans h7s (by simp)) (fun i e => by cases e; exact Nat.le_refl _)
            clear hown9 hg9
            go_roundw
            case rel => exact ⟨k + 1, pl, pc, n + 1, _, qs, X ++ [t], by omega, by go_num, rfl, hlc, hcm, by first | exact hsp | rfl, HQ, rfl, hn1, by show (X ++ [t]).length = n + 1; rw [List.length_append, HXL.out]; rfl, HO9, HM', HB9⟩
            case measure => simp [intOf]; omega
    · obtain rfl : k = la := by omega
      have HMF : Hid (merged ts ps = X ++ qs) := by
        show _ = _
        rw [HM.out, List.drop_eq_nil_of_le (by rw [HL.out]; exact Nat.le_refl _), nil_merged]
      have HNB : Hid (n + pl ≤ C) := by
        show _ ≤ _
        have h1 := HTOT.out
        rw [HMF.out, List.length_append, HXL.out, HQ.out.1] at h1
        omega
      have HOR := hide HO.out.2
      rw [HXL.out] at HOR
      have HLQ : Hid ((lcells .u8 qs).length = pl * 257) := by show _ = _; rw [lcells_len .u8 HQ.out.2.1, HQ.out.1]
      have HBw : Hid (Below w.heap.size w wr) := by rw [HG.out]; exact HB.out
      have HNW : Hid (∀ j u, (lcells .u8 qs)[j]? = some u → wr.cell? (pa.add j) = some u) := fun j u h => by
        by_cases hpl : 0 < pl
        · obtain ⟨b2, o2, hpa, hb2, hc2⟩ := HQ.out.2.2 hpl
          obtain rfl := Option.some.inj hpa
          rw [Addr.add_mid]
          exact range_below hc2 HBw.out hb2 j u h
        · have h1 := HLQ.out
          rw [List.getElem?_eq_none (by omega)] at h
          cases h
      have HONE := hide (lcells_one .u8 qs)
      have hki : ¬ (k : Int) < (k : Int) := by omega
      go_wp2_with (first
        | (refine wpList_append_fits _ rfl (.tmp 45) (.tmp 46) 156 rfl g 161 i0 257 Tryz.underlying156 hi hz1 g n C (lcells .u8 X) rfl HOR.out pa pl pc (lcells .u8 qs) rfl HLQ.out HNW.out HONE.out HNB.out ?_
           intro w9 hown9 hg9))
      have HO9 : Hid (OwnP 161 .u8 w9 g (.slice (some ⟨g, 0, none⟩) (n + pl) C) (merged ts ps)) := by
        refine ⟨HW0.out, ?_⟩
        rw [HMF.out, List.length_append, HXL.out, HQ.out.1, lcells_append]
        exact hown9
      have HB9 : Hid (Below g w w9) := HB.out.grown hg9 (by rw [← HG.out]; exact HB.out.size) (fun i e => by cases e; exact Nat.le_refl _)
      clear hown9 hg9
      go_ret
      exact ⟨_, rfl, by rw [HG.out]; exact HO9.out, by rw [HG.out]; exact HB9.out⟩
end Go.Proofs.YthdblnfohbldcaaGreat.Pm
