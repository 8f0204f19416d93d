/-
  mixed: things and packages in one row.
-/
import Derived.Test.YthdblnfohbldcaaGreatHuffQ3J
import Derived.Great.BuildSlice
import Derived.Laws.StructEq
namespace Go.Proofs.YthdblnfohbldcaaGreat.Pm
open Go.ChangeShapes Go.WideShapes Go.ChangeAt Go.RowKit
open Go.Proofs.YthdblnfohbldcaaGreat.Base
set_option linter.unusedVariables false
theorem elemP : Tryz.prog.underlying 156 = some (.slice (Tryz.prog.elem 156)) := by kernel_rfl
theorem elemSize (W : World) : (sizeOf (Tryz.prog.elem 156)).run Tryz.prog W = .ok 257 W := by
  have h : (Tryz.prog.info? (Tryz.prog.elem 156)).map (·.size) = some 257 := by kernel_rfl
  cases hq : Tryz.prog.info? (Tryz.prog.elem 156) with
  | none => simp [hq] at h
  | some i => simp [hq] at h; simp [sizeOf, typeInfo, hq, h]
/-- 'packs[1:]'. -/
theorem slice_1 (b off len cap : Nat) (h : 0 < len) (hc : len ≤ cap) : ∃ la : Addr, (∀ W, (Instr.sliceAt 156 (.slice (some ⟨b, off, none⟩) len cap) (some (.int .i64 1)) none none).run Tryz.prog W = .ok (.slice (some la) (len - 1) (cap - 1)) W) ∧
    (1 < len → la = ⟨b, off + 257, none⟩) ∧ la.spot = none := by
  refine ⟨if cap = 1 then ⟨b, off, none⟩ else ⟨b, off + 257, none⟩, fun W => ?_, fun hc => by rw [if_neg (by omega)], by split <;> rfl⟩
  rw [run_sliceAt_slice (h := elemP), run_slice_l (ht := elemP) (h0 := by omega) (h1 := by omega), elemSize]
  simp only [Result.andThen, sliced, Int.toNat_one]
  by_cases hc : cap = 1
  · rw [if_pos hc, if_pos hc]
  · rw [if_neg hc, if_neg hc]
    simp [Addr.add]
theorem rdp_rest {w : World} {b off len : Nat} {la : Addr} {q : Pk} {qs : List Pk} (hr : RdP .u8 w (some ⟨b, off, none⟩) len (q :: qs)) (hl : 1 < len → la = ⟨b, off + 257, none⟩) : RdP .u8 w (some la) (len - 1) qs := by
  obtain ⟨h1, h2, h3⟩ := hr
  rw [List.length_cons] at h1
  refine ⟨by omega, fun p hp => h2 p (by simp [hp]), fun hp => ?_⟩
  obtain ⟨b', off', e, hb, hc⟩ := h3 (by omega)
  simp only [Option.some.injEq, Addr.mk.injEq, and_true] at e
  obtain ⟨rfl, rfl⟩ := e
  refine ⟨b, off + 257, by rw [hl (by omega)], hb, ?_⟩
  have := range_drop hc h2 1 (by simp)
  simpa using this
theorem fill_one (A : Array Value) (V : List Value) (hA : A.size = 257) (hV : V.length = 257) : Instr.fill (fun i => some (i * 257, 257)) A [(0, .agg V.toArray)] = some V.toArray := by
  have := Great.fill_whole (s := 257) (by omega) [.agg V.toArray] A (by intro v hv; simp at hv; subst hv; simp [Value.cells, hV]) (by simp [hA])
  simpa [Value.cells] using this
theorem wp_build1 {o : Oper} {a : Act} {w : World} {K : Act → World → Prop} {Q : Exit → Act → World → Prop} (x : Operand) (ho : o.op = .buildSlice 156 1 #[(0, x)]) (V : List Value) (hV : V.length = 257) (hx : a.eval x = .agg V.toArray)
    (h : K (a.put o.dst (.slice (some ⟨w.heap.size, 0, none⟩) 1 1)) (w.alloc (.cells V.toArray 161))) : o.wp Tryz.prog a w K Q := by
  obtain ⟨Z, HZ, HI, hz⟩ := zeroP
  obtain ⟨i0, hi, hz0, hz1, hz2⟩ := info_of HI
  refine wp_buildSlice 156 161 1 _ ho V.toArray i0 (.agg Z.toArray) Tryz.underlying156 hi hz0 (by rw [hz1]; decide) (by rw [hz1]; decide) ?_ h
  rw [hz1]
  have := fill_one ((Array.range (1 * 257)).map ((Value.agg Z.toArray).cells[· % (Value.agg Z.toArray).cells.size]!)) V (by rw [Array.size_map, Array.size_range]) hV
  simpa [hx] using this
theorem wpList_build1 {ops : Array Oper} {rest : List Oper} {o : Oper} {a : Act} {w : World} {Q : Exit → Act → World → Prop} (hg : o.guard = none) (x : Operand) (ho : o.op = .buildSlice 156 1 #[(0, x)]) (V : List Value) (hV : V.length = 257) (hx : a.eval x = .agg V.toArray)
    (h : wpList Tryz.prog ops Q rest (a.put o.dst (.slice (some ⟨w.heap.size, 0, none⟩) 1 1)) (w.alloc (.cells V.toArray 161))) : wpList Tryz.prog ops Q (o :: rest) a w :=
  wpList_plain hg fun _ hK => wp_build1 x ho V hV hx (hK _ _ h)
theorem merged_emit {t q : Pk} {ts qs : List Pk} (h : q.1 < t.1) : merged (t :: ts) (q :: qs) = q :: merged (t :: ts) qs := by rw [merged, if_neg (by omega)]
theorem merged_keep {t q : Pk} {ts qs : List Pk} (h : ¬ q.1 < t.1) : merged (t :: ts) (q :: qs) = t :: merged ts (q :: qs) := by rw [merged, if_pos (by omega)]
theorem merged_last {t : Pk} {ts : List Pk} : merged (t :: ts) [] = t :: merged ts [] := by rw [merged_nil, merged_nil]
theorem new_cells (w : World) (V : List Value) (t : TypeId) (j : Nat) (u : Value) (h : V[j]? = some u) : (w.alloc (.cells V.toArray t)).cell? ((⟨w.heap.size, 0, none⟩ : Addr).add j) = some u := by
  rw [Addr.add_mid, Nat.zero_add, cell_of_row _ _ _ _ _ _ (heap_alloc_new w (.cells V.toArray t)), List.getElem?_toArray]; exact h
theorem own_more {t : TypeId} {K : IntKind} {w : World} {base g n C : Nat} {X : List Pk} {q : Pk} (hX : Wide 256 X) (hq : q.2.length = 256) (hn : X.length = n) (h : w.ownsRow base t 257 (.slice (some ⟨g, 0, none⟩) (n + 1) C) (n + 1) (lcells K X ++ pcells K q)) : OwnP t K w base (.slice (some ⟨g, 0, none⟩) (n + 1) C) (X ++ [q]) := by
  refine ⟨fun p hp => ?_, ?_⟩
  · rcases List.mem_append.1 hp with h1 | h1
    · exact hX p h1
    · simp at h1; subst h1; exact hq
  · rw [List.length_append, hn, lcells_append]
    have e : lcells K [q] = pcells K q := by simp [lcells]
    rw [e]
    exact h
def slen : Value → Nat | .slice _ l _ => l | _ => 0
set_option maxHeartbeats 2000000 in
set_option maxRecDepth 100000 in
theorem mixed_any (a : Option Addr) (la ca : Nat) (ts : List Pk) (pa : Addr) (lp cp : Nat) (ps : List Pk) (w : World) (hr : RdP .u8 w a la ts) (hq : RdP .u8 w (some pa) lp ps) (hn : la ≤ 1000) (hp : lp ≤ 1000) (hlc : lp ≤ cp) (hcm : cp ≤ 1000000) (hsp : pa.spot = none) :
    Calls Tryz.prog 137 #[.slice a la ca, .slice (some pa) lp cp] w fun e w' => ∃ v, e = .returned v ∧ OwnP 161 .u8 w' w.heap.size v (merged ts ps) ∧ Below w.heap.size w w' := by
  obtain ⟨Z, HZ, HI, hz⟩ := zeroP
  obtain ⟨i0, hi, hz0, hz1, hz2⟩ := info_of HI
  have HL := hide hr.1
  have HWD := hide hr.2.1
  have HC := hide hr.2.2
  have HQ := hide hq
  have HZL : Hid (Z.length = 257) := by show _ = _; rw [HZ.out]; exact pcells_len _ (List.length_replicate ..)
  have HTOT : Hid ((merged ts ps).length = la + lp) := by show _ = _; rw [merged_len, hr.1, hq.1]
  obtain ⟨C, hC⟩ : ∃ C : Nat, la + lp = C := ⟨_, rfl⟩
  rw [hC] at HTOT
  have hCi : (la : Int) + (lp : Int) = (C : Int) := by omega
  have hCb : C ≤ 2000 := by omega
  have HW0 := hide (merged_wide hr.2.1 hq.2.1)
  obtain ⟨d, hu, hd⟩ := uP
  have HU := hide hu
  clear hr hq HI hC hu
  go_enter Tryz.func137, Tryz.ntmps137
  go_wp2_with (at_make; refine wpList_make_own _ rfl _ _ 156 rfl w.heap.size 161 i0 (.agg Z.toArray) 257 Tryz.underlying156 hi hz0 hz1 .i64 .i64 _ C rfl rfl rfl (by rw [hz2]; omega) (by unfold maxLen; omega) (Nat.le_refl _) ?_
               intro w5 hown hgrow)
  have HO0 : Hid (OwnP 161 .u8 w5 w.heap.size (.slice (some ⟨w.heap.size, 0, none⟩) 0 C) []) := ⟨by simp [Wide], hown⟩
  have HB0 : Hid (Below w.heap.size w w5) := (Below.refl _ _).grown hgrow (Nat.le_refl _) (fun i e => by cases e)
  clear hown hgrow
  obtain ⟨g, hg⟩ : ∃ g, w.heap.size = g := ⟨_, rfl⟩
  have HG : Hid (w.heap.size = g) := hg
  rw [hg] at HO0 HB0 ⊢
  clear hg
  go_loopw [1, 5, 16] (fun p r i wr => ∃ (k pl pc n : Nat) (pa : Addr) (qs X : List Pk), k ≤ la ∧ i = .int .i64 (k : Int) ∧ p = .slice (some pa) pl pc ∧ pl ≤ pc ∧ pc ≤ 1000000 ∧ pa.spot = none ∧ Hid (RdP .u8 w (some pa) pl qs) ∧ r = .slice (some ⟨g, 0, none⟩) n C ∧ n ≤ C ∧ Hid (X.length = n) ∧ Hid (OwnP 161 .u8 wr g (.slice (some ⟨g, 0, none⟩) n C) X) ∧ Hid (merged ts ps = X ++ merged (ts.drop k) qs) ∧ Hid (Below g w wr)) (fun _ _ i _ => la - (intOf i).toNat)
  case atStart => exact ⟨0, lp, cp, 0, pa, ps, [], Nat.zero_le _, rfl, rfl, hlc, hcm, hsp, HQ, rfl, Nat.zero_le _, rfl, HO0, rfl, HB0⟩
  case round =>
    clear HO0 HB0 hlc hcm hsp HQ
    obtain ⟨k, pl, pc, n, pa, qs, X, hk, rfl, rfl, hlc, hcm, hsp, HQ, rfl, hnC, HXL, HO, HM, HB⟩ := hrel
    by_cases hlt : k < la
    · obtain ⟨b1, o1, rfl, hb1, hc1⟩ := HC.out (by omega)
      have hki : (k : Int) < (la : Int) := by omega
      obtain ⟨t, ht⟩ : ∃ t, ts.getD k (0, []) = t := ⟨_, rfl⟩
      have HDK : Hid (ts.drop k = t :: ts.drop (k + 1)) := by
        show _ = _
        rw [List.drop_eq_getElem_cons (by rw [HL.out]; exact hlt), ← ht, List.getD_eq_getElem?_getD, List.getElem?_eq_getElem (by rw [HL.out]; exact hlt)]; rfl
      have HBw : Hid (Below w.heap.size w wr) := by rw [HG.out]; exact HB.out
      have R1 : Hid (wr.rangeAt b1 (o1 + k * 257) (pcells .u8 t)) := by
        rw [← ht]
        exact range_below (range_one hc1 HWD.out k (by rw [HL.out]; exact hlt)) HBw.out hb1
      have HTL : Hid (t.2.length = 256) := by show _ = _; rw [← ht]; exact wide_get HWD.out k (by rw [HL.out]; exact hlt)
      have HVL := hide (pcells_len .u8 HTL.out)
      have HV1 := hide (pcells_one .u8 t)
      rw [HDK.out] at HM
      have HPB : Hid (PBlk 161 .u8 ((wr.alloc (.cells Z.toArray 161)).setCells wr.heap.size 0 (pcells .u8 t)) wr.heap.size t) := pblk_set (cs := Z) (heap_alloc_new _ _) (by rw [HZL.out, HVL.out])
      have hgs : g ≤ wr.heap.size := by rw [← HG.out]; exact HB.out.size
      have HB6 : Hid (Below g w ((wr.alloc (.cells Z.toArray 161)).setCells wr.heap.size 0 (pcells .u8 t))) := below_setCells _ (HB.out.alloc hgs _) (Nat.le_trans hgs (by simp)) hgs
      have HGR : Hid (wr.grownBy ((wr.alloc (.cells Z.toArray 161)).setCells wr.heap.size 0 (pcells .u8 t)) none) := by
        have h1 := grown_setCells (pcells .u8 t) 0 (wr.alloc (.cells Z.toArray 161)) (World.grownBy_alloc wr (.cells Z.toArray 161) (some wr.heap.size))
        exact ⟨h1.os, h1.tape, h1.output, h1.size, fun i hi _ => h1.block i hi (fun e => by have := Option.some.inj e; omega)⟩
      have HGN : Hid (g < wr.heap.size) := (HO.out.2.lt g rfl).2
      have HO6 : Hid (OwnP 161 .u8 ((wr.alloc (.cells Z.toArray 161)).setCells wr.heap.size 0 (pcells .u8 t)) g (.slice (some ⟨g, 0, none⟩) n C) X) := HO.out.keep HGR.out (fun i _ => by simp)
      have HTH : Hid ((wr.alloc (.cells Z.toArray 161)).there wr.heap.size 0 (pcells .u8 t).toArray.size) := by
        have e : (pcells .u8 t).toArray.size = 257 := by rw [List.size_toArray, HVL.out]
        rw [e]; exact there_new wr Z _ HZL.out
      have I1 : Hid ((Tryz.prog.info? 161).map (·.size) = some (pcells .u8 t).length) := by show _ = _; rw [HVL.out]; exact sizeP
      have I2 : Hid ((Tryz.prog.info? 161).map (·.size) = some (pcells .u8 t).toArray.size) := by show _ = _; rw [List.size_toArray, HVL.out]; exact sizeP
      obtain ⟨V, hV⟩ : ∃ V, pcells .u8 t = V := ⟨_, rfl⟩
      have HV := hide hV
      rw [hV] at R1 HVL HV1 HPB HB6 HGR HO6 HTH I1 I2
      obtain ⟨w6, hw6⟩ : ∃ w6, (wr.alloc (.cells Z.toArray 161)).setCells wr.heap.size 0 V = w6 := ⟨_, rfl⟩
      have HW6 := hide hw6
      rw [hw6] at HPB HB6 HGR HO6
      clear hc1 ht hV hw6
      go_wp2_with (first
        | (refine wpList_load_mid rfl 161 (.tmp 18) rfl b1 (o1 + k * 257) rfl V _ R1.out HU.out hd I1.out ?_)
        | (refine wpList_store_mid rfl 161 (.tmp 7) (.tmp 19) rfl wr.heap.size 0 V.toArray rfl rfl HTH.out I2.out (all_oneCell_toArray HV1.out) ?_
           rw [List.toList_toArray, HW6.out]))
      simp only [Act.put]
      obtain ⟨gt, hgt⟩ : ∃ gt, wr.heap.size = gt := ⟨_, rfl⟩
      rw [hgt] at HPB HGN hgs ⊢
      clear HTH HW6 hgt R1 HGR HBw HO HB
      go_loopw [1, 5] (fun p r wz => ∃ (pl pc n : Nat) (pa : Addr) (qs X : List Pk), p = .slice (some pa) pl pc ∧ pl ≤ pc ∧ pc ≤ 1000000 ∧ pa.spot = none ∧ Hid (RdP .u8 w (some pa) pl qs) ∧ r = .slice (some ⟨g, 0, none⟩) n C ∧ n ≤ C ∧ Hid (X.length = n) ∧ Hid (OwnP 161 .u8 wz g (.slice (some ⟨g, 0, none⟩) n C) X) ∧ Hid (merged ts ps = X ++ merged (t :: ts.drop (k + 1)) qs) ∧ Hid (PBlk 161 .u8 wz gt t) ∧ Hid (Below g w wz)) (fun p _ _ => slen p)
      case atStart => exact ⟨pl, pc, n, pa, qs, X, rfl, hlc, hcm, hsp, HQ, rfl, hnC, HXL, HO6, HM, HPB, HB6⟩
      case round =>
        clear HO6 HM HPB HB6 HXL HQ hlc hcm hsp hnC
        obtain ⟨pl, pc, n, pa, qs, X, rfl, hlc, hcm, hsp, HQ, rfl, hnC, HXL, HO, HM, HPB, HB⟩ := hrel
        have hn1 : n + 1 ≤ C := by
          have h1 := HTOT.out
          have h2 := HXL.out
          rw [HM.out, List.length_append, merged_len, List.length_cons] at h1
          omega
        have tw := HPB.out.w
        by_cases hex : ∃ q qs', qs = q :: qs' ∧ q.1 < t.1
        · obtain ⟨q, qs', hqe, hqt⟩ := hex
          rw [hqe] at HQ HM
          have hpl : 0 < pl := by have := HQ.out.1; rw [List.length_cons] at this; omega
          obtain ⟨b2, o2, hpa, hb2, hc2⟩ := HQ.out.2.2 hpl
          obtain rfl := Option.some.inj hpa
          obtain ⟨lx, hsl, hlx, hlxs⟩ := slice_1 b2 o2 pl pc hpl hlc
          have HQ' := hide (rdp_rest HQ.out hlx)
          have HBw : Hid (Below w.heap.size w wr) := by rw [HG.out]; exact HB.out
          have R2 : Hid (wr.rangeAt b2 o2 (pcells .u8 q)) := by
            have := range_below (range_one hc2 HQ.out.2.1 0 (by simp)) HBw.out hb2
            rw [Nat.zero_mul, Nat.add_zero] at this
            exact this
          have q0 := R2.out 0 _ (pcells_w _ q)
          rw [Nat.add_zero] at q0
          have HQL : Hid (q.2.length = 256) := HQ.out.2.1 q (by simp)
          have HVL := hide (pcells_len .u8 HQL.out)
          have HV1 := hide (pcells_one .u8 q)
          rw [merged_emit hqt] at HM
          have HM' : Hid (merged ts ps = (X ++ [q]) ++ merged (t :: ts.drop (k + 1)) qs') := by show _ = _; rw [HM.out, List.append_assoc]; rfl
          obtain ⟨Q1, hQ1⟩ : ∃ Q1, q.1 = Q1 := ⟨_, rfl⟩
          obtain ⟨T1, hT1⟩ : ∃ T1, t.1 = T1 := ⟨_, rfl⟩
          rw [hQ1] at q0 hqt
          rw [hT1] at tw hqt
          have g1 : decide ((0 : Int) < (pl : Int)) = true := by rw [decide_eq_true_iff]; omega
          have g2 : decide ((Q1 : Int) < (T1 : Int)) = true := by rw [decide_eq_true_iff]; omega
          have g3 : (0 : Int) < (pl : Int) := by omega
          have g4 : (Q1 : Int) < (T1 : Int) := by omega
          have I1 : Hid ((Tryz.prog.info? 161).map (·.size) = some (pcells .u8 q).length) := by show _ = _; rw [HVL.out]; exact sizeP
          obtain ⟨V2, hV2⟩ : ∃ V2, pcells .u8 q = V2 := ⟨_, rfl⟩
          have HV2 := hide hV2
          rw [hV2] at R2 HVL HV1 I1
          have HF := hide (fun A h => fill_one A V2 h HVL.out)
          have HOR := hide HO.out.2
          have HOW := hide HO.out.1
          rw [HXL.out] at HOR
          clear hc2 hpa hV2 hQ1 hT1
          go_wp2_with fail
          go_quiet (fail)
          obtain ⟨w7, hw7⟩ : ∃ w7, wr.drewN nq = w7 := ⟨_, rfl⟩
          have R7 : Hid (w7.rangeAt b2 o2 V2) := by rw [← hw7]; exact fun j v hv => R2.out j v hv
          have HOR7 : Hid (w7.ownsRow g 161 257 (.slice (some ⟨g, 0, none⟩) n C) n (lcells .u8 X)) := by rw [← hw7]; exact HOR.out
          have HP7 : Hid (PBlk 161 .u8 w7 gt t) := by rw [← hw7]; exact HPB.out
          have HB7 : Hid (Below g w w7) := by rw [← hw7]; exact below_drewN HB.out nq
          rw [hw7]
          clear hw7 R2 HOR HPB HB HO HBw
          have HP8 : Hid (PBlk 161 .u8 (w7.alloc (.cells V2.toArray 161)) gt t) := HP7.out.grown (World.grownBy_alloc w7 _ none) (by simp)
          have h7s : g ≤ w7.heap.size := by rw [← HG.out]; exact HB7.out.size
          have HB8 : Hid (Below g w (w7.alloc (.cells V2.toArray 161))) := HB7.out.alloc h7s _
          have HOR8 := hide (HOR7.out.alloc (.cells V2.toArray 161))
          go_wp2_with (first
            | (refine wpList_load_mid rfl 161 (.tmp 34) rfl b2 o2 rfl V2 _ R7.out HU.out hd I1.out ?_)
            | (refine wpList_build1 rfl (.tmp 35) rfl V2 HVL.out rfl ?_)
            | (refine wpList_append_fits _ rfl (.tmp 32) (.tmp 36) 156 rfl g 161 i0 257 Tryz.underlying156 hi hz1 g n C (lcells .u8 X) rfl HOR8.out ⟨w7.heap.size, 0, none⟩ 1 1 V2 rfl (by rw [HVL.out]) (fun j u h => new_cells w7 V2 _ j u h) HV1.out hn1 ?_
               intro w9 hown9 hg9))
          have HO9 : Hid (OwnP 161 .u8 w9 g (.slice (some ⟨g, 0, none⟩) (n + 1) C) (X ++ [q])) := by
            rw [← HV2.out] at hown9
            exact own_more HOW.out HQL.out HXL.out hown9
          have HP9 : Hid (PBlk 161 .u8 w9 gt t) := HP8.out.grown hg9 (fun e => by have := Option.some.inj e; have := HGN.out; omega)
          have HB9 : Hid (Below g w w9) := HB8.out.grown hg9 (Nat.le_trans h7s (by simp)) (fun i e => by cases e; exact Nat.le_refl _)
          clear hown9 hg9
          go_roundw
          case rel => exact ⟨pl - 1, pc - 1, n + 1, lx, qs', X ++ [q], rfl, by omega, by omega, hlxs, HQ', rfl, hn1, by show (X ++ [q]).length = n + 1; rw [List.length_append, HXL.out]; rfl, HO9, HM', HP9, HB9⟩
          case measure => simp [slen]; omega
        · have HM' : Hid (merged ts ps = (X ++ [t]) ++ merged (ts.drop (k + 1)) qs) := by
            show _ = _
            rw [HM.out, List.append_assoc]
            congr 1
            cases qs with
            | nil => exact merged_last
            | cons q qs' => exact merged_keep (fun h => hex ⟨q, qs', rfl, h⟩)
          have I1 : Hid ((Tryz.prog.info? 161).map (·.size) = some V.length) := by show _ = _; rw [HVL.out]; exact sizeP
          have HOR := hide HO.out.2
          have HOW := hide HO.out.1
          rw [HXL.out] at HOR
          have RT : Hid (wr.rangeAt gt 0 V) := by rw [← HV.out]; exact HPB.out.range
          have HBw : Hid (Below w.heap.size w wr) := by rw [HG.out]; exact HB.out
          have HFIN : Hid (∀ nq, (wr.drewN nq).rangeAt gt 0 V ∧ (wr.drewN nq).ownsRow g 161 257 (.slice (some ⟨g, 0, none⟩) n C) n (lcells .u8 X) ∧ Below g w (wr.drewN nq)) := fun nq => ⟨fun j v hv => RT.out j v hv, HOR.out, below_drewN HB.out nq⟩
          obtain ⟨T1, hT1⟩ : ∃ T1, t.1 = T1 := ⟨_, rfl⟩
          rw [hT1] at tw
          have HCASE : (¬ (0 : Int) < (pl : Int)) ∨ ∃ b2 o2 Q1, pa = ⟨b2, o2, none⟩ ∧ (0 : Int) < (pl : Int) ∧ wr.cell? ⟨b2, o2, none⟩ = some (.int .i64 ((Q1 : Nat) : Int)) ∧ ¬ (Q1 : Int) < (T1 : Int) := by
            rcases Nat.eq_zero_or_pos pl with h0 | h0
            · exact .inl (by omega)
            · obtain ⟨b2, o2, hpa, hb2, hc2⟩ := HQ.out.2.2 h0
              cases qs with
              | nil => have := HQ.out.1; simp at this; omega
              | cons q qs' =>
                have R2 := range_below (range_one hc2 HQ.out.2.1 0 (by simp)) HBw.out hb2
                rw [Nat.zero_mul, Nat.add_zero] at R2
                have q0 := R2 0 _ (pcells_w _ q)
                rw [Nat.add_zero] at q0
                refine .inr ⟨b2, o2, q.1, Option.some.inj hpa, by omega, q0, fun h => hex ⟨q, qs', rfl, by omega⟩⟩
          clear hex hT1 HO HB HBw RT HM HOR
          rcases HCASE with h0 | ⟨b2, o2, Q1, rfl, h0, q0, hqt⟩
          all_goals
            first
              | (have g1 : decide ((0 : Int) < (pl : Int)) = false := by rw [decide_eq_false_iff_not]; exact h0
                 have g1n : decide (0 < pl) = false := by rw [decide_eq_false_iff_not]; omega)
              | (have g1n : decide (0 < pl) = true := by rw [decide_eq_true_iff]; omega
                 have g2n : decide (Q1 < T1) = false := by rw [decide_eq_false_iff_not]; omega
                 have g1 : decide ((0 : Int) < (pl : Int)) = true := by rw [decide_eq_true_iff]; exact h0
                 have g2 : decide ((Q1 : Int) < (T1 : Int)) = false := by rw [decide_eq_false_iff_not]; exact hqt)
            go_wp2_with fail
            go_quiet (fail)
            obtain ⟨R7, HOR7, HB7⟩ := HFIN.out nq
            have R7 := hide R7
            have HOR7 := hide HOR7
            have HB7 := hide HB7
            obtain ⟨w7, hw7⟩ : ∃ w7, wr.drewN nq = w7 := ⟨_, rfl⟩
            rw [hw7] at R7 HOR7 HB7 ⊢
            clear hw7
            have h7s : g ≤ w7.heap.size := by rw [← HG.out]; exact HB7.out.size
            have HB8 : Hid (Below g w (w7.alloc (.cells V.toArray 161))) := HB7.out.alloc h7s _
            have HOR8 := hide (HOR7.out.alloc (.cells V.toArray 161))
            go_wp2_with (first
              | (refine wpList_load_mid rfl 161 (.tmp 7) rfl gt 0 rfl V _ R7.out HU.out hd I1.out ?_)
              | (refine wpList_build1 rfl (.tmp 41) rfl V HVL.out rfl ?_)
              | (refine wpList_append_fits _ rfl (.tmp 40) (.tmp 42) 156 rfl g 161 i0 257 Tryz.underlying156 hi hz1 g n C (lcells .u8 X) rfl HOR8.out ⟨w7.heap.size, 0, none⟩ 1 1 V rfl (by rw [HVL.out]) (fun j u h => new_cells w7 V _ j u h) HV1.out hn1 ?_
                 intro w9 hown9 hg9))
            have HO9 : Hid (OwnP 161 .u8 w9 g (.slice (some ⟨g, 0, none⟩) (n + 1) C) (X ++ [t])) := by
              rw [← HV.out] at hown9
              exact own_more HOW.out HTL.out HXL.out hown9
            have HB9 : Hid (Below g w w9) := HB8.out.grown hg9 (Nat.le_trans h7s (by simp)) (fun i e => by cases e; exact Nat.le_refl _)
            clear hown9 hg9
            go_roundw
            case rel => exact ⟨k + 1, pl, pc, n + 1, _, qs, X ++ [t], by omega, by go_num, rfl, hlc, hcm, by first | exact hsp | rfl, HQ, rfl, hn1, by show (X ++ [t]).length = n + 1; rw [List.length_append, HXL.out]; rfl, HO9, HM', HB9⟩
            case measure => simp [intOf]; omega
    · obtain rfl : k = la := by omega
      have HMF : Hid (merged ts ps = X ++ qs) := by
        show _ = _
        rw [HM.out, List.drop_eq_nil_of_le (by rw [HL.out]; exact Nat.le_refl _), nil_merged]
      have HNB : Hid (n + pl ≤ C) := by
        show _ ≤ _
        have h1 := HTOT.out
        rw [HMF.out, List.length_append, HXL.out, HQ.out.1] at h1
        omega
      have HOR := hide HO.out.2
      rw [HXL.out] at HOR
      have HLQ : Hid ((lcells .u8 qs).length = pl * 257) := by show _ = _; rw [lcells_len .u8 HQ.out.2.1, HQ.out.1]
      have HBw : Hid (Below w.heap.size w wr) := by rw [HG.out]; exact HB.out
      have HNW : Hid (∀ j u, (lcells .u8 qs)[j]? = some u → wr.cell? (pa.add j) = some u) := fun j u h => by
        by_cases hpl : 0 < pl
        · obtain ⟨b2, o2, hpa, hb2, hc2⟩ := HQ.out.2.2 hpl
          obtain rfl := Option.some.inj hpa
          rw [Addr.add_mid]
          exact range_below hc2 HBw.out hb2 j u h
        · have h1 := HLQ.out
          rw [List.getElem?_eq_none (by omega)] at h
          cases h
      have HONE := hide (lcells_one .u8 qs)
      have hki : ¬ (k : Int) < (k : Int) := by omega
      go_wp2_with (first
        | (refine wpList_append_fits _ rfl (.tmp 45) (.tmp 46) 156 rfl g 161 i0 257 Tryz.underlying156 hi hz1 g n C (lcells .u8 X) rfl HOR.out pa pl pc (lcells .u8 qs) rfl HLQ.out HNW.out HONE.out HNB.out ?_
           intro w9 hown9 hg9))
      have HO9 : Hid (OwnP 161 .u8 w9 g (.slice (some ⟨g, 0, none⟩) (n + pl) C) (merged ts ps)) := by
        refine ⟨HW0.out, ?_⟩
        rw [HMF.out, List.length_append, HXL.out, HQ.out.1, lcells_append]
        exact hown9
      have HB9 : Hid (Below g w w9) := HB.out.grown hg9 (by rw [← HG.out]; exact HB.out.size) (fun i e => by cases e; exact Nat.le_refl _)
      clear hown9 hg9
      go_ret
      exact ⟨_, rfl, by rw [HG.out]; exact HO9.out, by rw [HG.out]; exact HB9.out⟩
end Go.Proofs.YthdblnfohbldcaaGreat.Pm
/-
  slices.Equal of two rows of packages.
-/
namespace Go.Proofs.YthdblnfohbldcaaGreat.Pm
open Go.ChangeShapes Go.WideShapes Go.ChangeAt Go.RowKit
open Go.Proofs.YthdblnfohbldcaaGreat.Base
set_option linter.unusedVariables false
theorem all_range_nat : ∀ (xs ys : List Nat), xs.length = ys.length → ((List.range xs.length).all fun i => xs.getD i 0 == ys.getD i 0) = (xs == ys)
  | [], [], _ => rfl
  | x :: xs, y :: ys, h => by
    have ih := all_range_nat xs ys (by simpa using h)
    rw [List.length_cons, List.range_succ_eq_map, List.all_cons, List.all_map]
    simp only [List.getD_cons_zero, Function.comp_def, List.getD_cons_succ, ih]
    simp [List.cons_beq_cons]
  | [], _ :: _, h => by simp at h
  | _ :: _, [], h => by simp at h
def c8 (t : Nat) : Value := .int .u8 (t : Int)
theorem equal_nats {P : Program} (w : World) (d : Nat) (t e : TypeId) (n : Nat) (ht : P.underlying t = some (.array n e)) (he : P.underlying e = some (.int .u8)) (hsz : ∀ w, (sizeOf e).run P w = .ok 1 w)
    (xs ys : List Nat) (hx : xs.length = n) (hy : ys.length = n) :
    (Op.equalIn (d + 2) t (.agg (xs.map c8).toArray) (.agg (ys.map c8).toArray)).run P w = .ok (xs == ys) w := by
  rw [← all_range_nat xs ys (hx.trans hy.symm), hx, List.range_eq_range', Op.equalIn]
  simp only [Sem.run_bind, run_underlying ht, Result.andThen_ok, hsz, Std.Legacy.Range.forIn_eq_forIn_range', Std.Legacy.Range.size, Nat.sub_zero, Nat.add_sub_cancel, Nat.div_one]
  have hl : ∀ i ∈ List.range' 0 n 1, i < n := fun i hi => by simpa using (List.mem_range'_1.1 hi).2
  generalize List.range' 0 n 1 = l at hl ⊢
  induction l with
  | nil => simp
  | cons i l ih =>
    have hi : i < n := hl i (by simp)
    have px : (part e (xs.map c8).toArray (i * 1)).run P w = .ok (c8 (xs.getD i 0)) w := by
      simp [part, isAgg, run_underlying he, List.getD, List.getElem?_eq_getElem (show i < xs.length by omega)]
    have py : (part e (ys.map c8).toArray (i * 1)).run P w = .ok (c8 (ys.getD i 0)) w := by
      simp [part, isAgg, run_underlying he, List.getD, List.getElem?_eq_getElem (show i < ys.length by omega)]
    have pe : (Op.equalIn (d + 1) e (c8 (xs.getD i 0)) (c8 (ys.getD i 0))).run P w = .ok (xs.getD i 0 == ys.getD i 0) w := by
      rw [c8, c8, run_equalIn_int w d e .u8 .u8 _ _ he]
      congr 1
      rw [Bool.eq_iff_iff]
      simp only [beq_iff_eq]
      omega
    simp only [List.forIn_cons, Sem.run_bind, px, py, pe, Result.andThen_ok, List.all_cons]
    cases hb : (xs.getD i 0 == ys.getD i 0)
    · simp
    · simp only [Bool.not_true, Bool.false_eq_true, if_false, Sem.run_pure, Result.andThen_ok, Bool.true_and]
      exact ih fun j hj => hl j (by simp [hj])
theorem extract_t (p : Pk) (h : p.2.length = 256) : (pcells .u8 p).toArray.extract 1 257 = (p.2.map c8).toArray := by
  rw [pcells]
  simp only [List.extract_toArray, List.extract, List.drop_succ_cons, List.drop_zero]
  rw [List.take_of_length_le (by simp [h])]
  rfl
set_option maxRecDepth 100000 in
theorem neq_pack (x y : Pk) (hx : x.2.length = 256) (hy : y.2.length = 256) : ∀ W, (binOp .neq 161 (.agg (pcells .u8 x).toArray) (.agg (pcells .u8 y).toArray)).run Tryz.prog W = .ok (.bool (!decide (x = y))) W := by
  intro W
  have ex := extract_t x hx
  have ey := extract_t y hy
  have e1 := fun w d => equal_nats (P := Tryz.prog) w d 159 5 256 Tryz.underlying159 Tryz.underlying5 Tryz.sizeOf5 x.2 y.2 hx hy
  have g1 : (pcells .u8 x).toArray[0]? = some (.int .i64 (x.1 : Int)) := rfl
  have g2 : (pcells .u8 y).toArray[0]? = some (.int .i64 (y.1 : Int)) := rfl
  have he : decide (x = y) = ((x.1 == y.1) && (x.2 == y.2)) := by
    rw [Bool.eq_iff_iff]
    simp [Prod.ext_iff]
  have hb : (((x.1 : Nat) : Int) == ((y.1 : Nat) : Int)) = (x.1 == y.1) := by
    rw [Bool.eq_iff_iff]; simp only [beq_iff_eq]; omega
  generalize (pcells .u8 x).toArray = A at *
  generalize (pcells .u8 y).toArray = B at *
  rw [he]
  rw [run_neq_struct, show (10000 : Nat) = 9999 + 1 from rfl, run_equalIn_agg _ _ _ _ _ (by kernel_rfl) (by kernel_rfl)]
  have q1 := fun w => run_equalIn_int (P := Tryz.prog) w 9998 2 .i64 .i64 (x.1 : Int) (y.1 : Int) Tryz.underlying2
  simp only [Program.fieldsOf, Tryz.underlying161]
  simp [Op.eqFields, part, Sem.run_bind, g1, g2, ex, ey, q1, hb, e1 W 9997, Tryz.isAgg2, Tryz.isAgg159, Tryz.sizeOf159]
  by_cases h1 : x.1 = y.1 <;> by_cases h2 : x.2 = y.2 <;> simp [h1, h2]
theorem wpQuiet_loadP {ops : Array Oper} {C : World → Prop} {Q : Act → Prop} {a : Act} {o : Oper} {rest : List Oper} (hg : o.guard = none) (x : Operand) (ho : o.op = .load 161 x) (b off : Nat) (hx : a.eval x = .pointer (some ⟨b, off, none⟩)) (V : List Value)
    (hr : ∀ w, C w → (Instr.loadAt 161 (.pointer (some ⟨b, off, none⟩))).run Tryz.prog w = .ok (.agg V.toArray) w) (h : wpQuiet Tryz.prog ops C Q rest (a.put o.dst (.agg V.toArray))) : wpQuiet Tryz.prog ops C Q (o :: rest) a :=
  BigFrame.wpQuiet_want (by simp [Region.wanted, hg]) fun K hK => ⟨.agg V.toArray, fun w hC => by
    have e : (execOp a.eval o).run Tryz.prog w = .ok (.value (.agg V.toArray)) w := by simp [execOp, ho, hx, hr w hC]
    unfold Oper.quietAt
    rw [e]
    exact ⟨rfl, rfl⟩, hK _ h⟩
theorem wpQuiet_neqP {ops : Array Oper} {C : World → Prop} {Q : Act → Prop} {a : Act} {o : Oper} {rest : List Oper} (hg : o.guard = none) (x y : Operand) (ho : o.op = .binOp .neq 161 x y 161) (A B : Array Value) (hx : a.eval x = .agg A) (hy : a.eval y = .agg B) (r : Bool)
    (hr : ∀ w, (binOp .neq 161 (.agg A) (.agg B)).run Tryz.prog w = .ok (.bool r) w) (h : wpQuiet Tryz.prog ops C Q rest (a.put o.dst (.bool r))) : wpQuiet Tryz.prog ops C Q (o :: rest) a :=
  BigFrame.wpQuiet_want (by simp [Region.wanted, hg]) fun K hK => ⟨.bool r, fun w hC => by
    have e : (execOp a.eval o).run Tryz.prog w = .ok (.value (.bool r)) w := by
      have hm : Tryz.prog.eqGuardType Tryz.prog.depth 161 = false := by kernel_rfl
      simp [execOp, ho, hx, hy, hr w, run_eqGuard_agg, hm]
    unfold Oper.quietAt
    rw [e]
    exact ⟨rfl, rfl⟩, hK _ h⟩
theorem drewN_range {w : World} {b o : Nat} {cs : List Value} (h : w.rangeAt b o cs) (n : Nat) : (w.drewN n).rangeAt b o cs := fun j v hv => h j v hv
theorem drewN_more {w wr : World} (h : ∃ m, wr = w.drewN m) (n : Nat) : ∃ m, wr.drewN n = w.drewN m := by
  obtain ⟨m, rfl⟩ := h
  exact ⟨m + n, by simp [World.drewN, Nat.add_assoc]⟩
theorem take_same {ps qs : List Pk} {k : Nat} (h1 : k < ps.length) (h2 : k < qs.length) (h : ps.take k = qs.take k) (e : ps.getD k (0, []) = qs.getD k (0, [])) : ps.take (k + 1) = qs.take (k + 1) := by
  rw [List.take_succ_eq_append_getElem h1, List.take_succ_eq_append_getElem h2, h]
  rw [List.getD_eq_getElem?_getD, List.getElem?_eq_getElem h1, List.getD_eq_getElem?_getD, List.getElem?_eq_getElem h2] at e
  simp only [Option.getD_some] at e
  rw [e]
set_option maxHeartbeats 2000000 in
set_option maxRecDepth 100000 in
theorem equal_any (a b : Option Addr) (la ca lb cb : Nat) (ps qs : List Pk) (w : World) (hr : RdP .u8 w a la ps) (hq : RdP .u8 w b lb qs) (hn : la ≤ 65536) :
    Calls Tryz.prog 139 #[.slice a la ca, .slice b lb cb] w fun e w' => e = .returned (.bool (decide (ps = qs))) ∧ ∃ n, w' = w.drewN n := by
  have HLP := hide hr.1
  have HLQ := hide hq.1
  have HWP := hide hr.2.1
  have HWQ := hide hq.2.1
  have HCP := hide hr.2.2
  have HCQ := hide hq.2.2
  clear hr hq
  by_cases hll : la = lb
  · subst hll
    obtain ⟨d, hu, hd⟩ := uP
    have HU := hide hu
    clear hu
    go_enter Tryz.func139, Tryz.ntmps139
    go_wp2_with fail
    go_loopw [13] (fun i wr => ∃ k : Nat, k ≤ la ∧ i = .int .i64 (k : Int) ∧ Hid (∃ m, wr = w.drewN m) ∧ Hid (ps.take k = qs.take k)) (fun i _ => la - (intOf i).toNat)
    case atStart => exact ⟨0, Nat.zero_le _, rfl, ⟨0, rfl⟩, by show ps.take 0 = qs.take 0; rw [List.take_zero, List.take_zero]⟩
    case round =>
      obtain ⟨k, hk, rfl, HD, HE⟩ := hrel
      by_cases hlt : k < la
      · obtain ⟨b1, o1, rfl, hb1, hc1⟩ := HCP.out (by omega)
        obtain ⟨b2, o2, rfl, hb2, hc2⟩ := HCQ.out (by omega)
        have R1 : Hid (wr.rangeAt b1 (o1 + k * 257) (pcells .u8 (ps.getD k (0, [])))) := by obtain ⟨m, hm⟩ := HD.out; rw [hm]; exact drewN_range (range_one hc1 HWP.out k (by rw [HLP.out]; exact hlt)) m
        have R2 : Hid (wr.rangeAt b2 (o2 + k * 257) (pcells .u8 (qs.getD k (0, [])))) := by obtain ⟨m, hm⟩ := HD.out; rw [hm]; exact drewN_range (range_one hc2 HWQ.out k (by rw [HLQ.out]; exact hlt)) m
        have HX := hide (wide_get HWP.out k (by rw [HLP.out]; exact hlt))
        have HY := hide (wide_get HWQ.out k (by rw [HLQ.out]; exact hlt))
        have hne := neq_pack _ _ HX.out HY.out
        have hki : (k : Int) < (la : Int) := by omega
        have l1 : ∀ n, (Instr.loadAt 161 (.pointer (some ⟨b1, o1 + k * 257, none⟩))).run Tryz.prog (wr.drewN n) = .ok (.agg (pcells .u8 (ps.getD k (0, []))).toArray) (wr.drewN n) := fun n =>
          run_loadAt_mid (P := Tryz.prog) _ b1 _ 161 _ d (drewN_range R1.out n) HU.out hd (by rw [pcells_len _ HX.out]; exact sizeP)
        have l2 : ∀ n, (Instr.loadAt 161 (.pointer (some ⟨b2, o2 + k * 257, none⟩))).run Tryz.prog (wr.drewN n) = .ok (.agg (pcells .u8 (qs.getD k (0, []))).toArray) (wr.drewN n) := fun n =>
          run_loadAt_mid (P := Tryz.prog) _ b2 _ 161 _ d (drewN_range R2.out n) HU.out hd (by rw [pcells_len _ HY.out]; exact sizeP)
        have HTS := hide (fun e => take_same (ps := ps) (qs := qs) (k := k) (by rw [HLP.out]; exact hlt) (by rw [HLQ.out]; exact hlt) HE.out e)
        have HNE : Hid (ps.getD k (0, []) ≠ qs.getD k (0, []) → ps ≠ qs) := fun h e => h (by rw [e])
        generalize ps.getD k (0, []) = x at hne l1 HTS HNE R1 HX
        generalize qs.getD k (0, []) = y at hne l2 HTS HNE R2 HY
        generalize pcells .u8 x = V1 at hne l1 R1
        generalize pcells .u8 y = V2 at hne l2 R2
        clear hc1 hc2 R1 R2
        by_cases hxy : x = y
        · rw [decide_eq_true hxy, Bool.not_true] at hne
          have HE2 := hide (HTS.out hxy)
          clear hxy
          go_wp2_with fail
          refine wp_region_quiet_lit (by kernel_rfl) (by kernel_rfl) ?_
          go_big_quiet_step (fail)
          go_big_quiet_step (fail)
          go_big_quiet_step (fail)
          refine wpQuiet_loadP rfl (.tmp 18) rfl b1 (o1 + k * 257) rfl V1 (fun w' h => by obtain ⟨n, rfl⟩ := h; exact l1 n) ?_
          simp only [Act.put, List.setIfInBounds_toArray, List.set_cons_zero, List.set_cons_succ]
          go_big_quiet_step (fail)
          go_big_quiet_step (fail)
          go_big_quiet_step (fail)
          refine wpQuiet_loadP rfl (.tmp 22) rfl b2 (o2 + k * 257) rfl V2 (fun w' h => by obtain ⟨n, rfl⟩ := h; exact l2 n) ?_
          simp only [Act.put, List.setIfInBounds_toArray, List.set_cons_zero, List.set_cons_succ]
          refine wpQuiet_neqP rfl (.tmp 19) (.tmp 23) rfl V1.toArray V2.toArray rfl rfl _ hne ?_
          simp only [Act.put, List.setIfInBounds_toArray, List.set_cons_zero, List.set_cons_succ]
          refine wpQuiet_nil ?_
          intro _ hw'
          obtain ⟨nq, hw''⟩ := hw'
          subst hw''
          go_wp2_with fail
          go_roundw
          case rel => exact ⟨k + 1, by omega, by go_num, drewN_more HD.out nq, HE2⟩
          case measure => simp [intOf]; omega
        · rw [decide_eq_false hxy, Bool.not_false] at hne
          have HF := hide (HNE.out hxy)
          clear hxy
          go_wp2_with fail
          refine wp_region_quiet_lit (by kernel_rfl) (by kernel_rfl) ?_
          go_big_quiet_step (fail)
          go_big_quiet_step (fail)
          go_big_quiet_step (fail)
          refine wpQuiet_loadP rfl (.tmp 18) rfl b1 (o1 + k * 257) rfl V1 (fun w' h => by obtain ⟨n, rfl⟩ := h; exact l1 n) ?_
          simp only [Act.put, List.setIfInBounds_toArray, List.set_cons_zero, List.set_cons_succ]
          go_big_quiet_step (fail)
          go_big_quiet_step (fail)
          go_big_quiet_step (fail)
          refine wpQuiet_loadP rfl (.tmp 22) rfl b2 (o2 + k * 257) rfl V2 (fun w' h => by obtain ⟨n, rfl⟩ := h; exact l2 n) ?_
          simp only [Act.put, List.setIfInBounds_toArray, List.set_cons_zero, List.set_cons_succ]
          refine wpQuiet_neqP rfl (.tmp 19) (.tmp 23) rfl V1.toArray V2.toArray rfl rfl _ hne ?_
          simp only [Act.put, List.setIfInBounds_toArray, List.set_cons_zero, List.set_cons_succ]
          refine wpQuiet_nil ?_
          intro _ hw'
          obtain ⟨nq, hw''⟩ := hw'
          subst hw''
          go_wp2_with fail
          go_ret
          exact ⟨ret_bool (decide_eq_false HF.out).symm, drewN_more HD.out nq⟩
      · obtain rfl : k = la := by omega
        have HEQ : Hid (ps = qs) := by
          have := HE.out
          rw [List.take_of_length_le (by rw [HLP.out]; exact Nat.le_refl _), List.take_of_length_le (by rw [HLQ.out]; exact Nat.le_refl _)] at this
          exact this
        go_wp2_with fail
        go_ret
        exact ⟨ret_bool (decide_eq_true HEQ.out).symm, HD.out⟩
  · have HF : Hid (ps ≠ qs) := fun e => hll (by rw [← HLP.out, ← HLQ.out, e])
    have hb : (((la : Nat) : Int) != ((lb : Nat) : Int)) = true := by rw [bne_iff_ne]; omega
    have hb2 : (la != lb) = true := by rw [bne_iff_ne]; exact hll
    go_enter Tryz.func139, Tryz.ntmps139
    go_wp2_with fail
    go_ret
    exact ⟨ret_bool (decide_eq_false HF.out).symm, 0, rfl⟩
end Go.Proofs.YthdblnfohbldcaaGreat.Pm
/-
  taken: what is taken of the last row.
-/
namespace Go.Proofs.YthdblnfohbldcaaGreat.Pm
open Go.ChangeShapes Go.WideShapes Go.ChangeAt Go.RowKit
open Go.Proofs.YthdblnfohbldcaaGreat.Base
set_option linter.unusedVariables false
theorem OwnP.len {t : TypeId} {K : IntKind} {w : World} {base : Nat} {a : Option Addr} {n c : Nat} {ps : List Pk} (h : OwnP t K w base (.slice a n c) ps) : ps.length = n := by
  rcases h.2.2 with ⟨h1, h2⟩ | ⟨g, cap, cur, h1, h2⟩
  · simp only [Value.slice.injEq] at h1; omega
  · simp only [Value.slice.injEq] at h1; exact h1.2.1.symm
theorem OwnP.rd' {t : TypeId} {K : IntKind} {w : World} {base : Nat} {a : Option Addr} {n c : Nat} {ps : List Pk} (h : OwnP t K w base (.slice a n c) ps) : RdP K w a n ps := by
  obtain ⟨a1, n1, c1, e, _, _, _, hr⟩ := h.rd
  simp only [Value.slice.injEq] at e
  rw [e.1, e.2.1]
  exact hr
/-- The first m of an own row. -/
theorem OwnP.cut {t : TypeId} {K : IntKind} {w : World} {base g n c : Nat} {ps : List Pk} (h : OwnP t K w base (.slice (some ⟨g, 0, none⟩) n c) ps) (m : Nat) (hm : m ≤ n) : OwnP t K w base (.slice (some ⟨g, 0, none⟩) m c) (ps.take m) := by
  have hl := h.len
  have hlt : (ps.take m).length = m := by rw [List.length_take]; omega
  refine ⟨wide_take h.1 m, by rw [lcells_len K (wide_take h.1 m)], ?_⟩
  rcases h.2.2 with ⟨h1, h2⟩ | ⟨g', cap, cur, h1, h2, h3, h4, h5, h6, h7⟩
  · cases h1
  · simp only [Value.slice.injEq, Option.some.injEq, Addr.mk.injEq, and_true] at h1
    obtain ⟨rfl, e, rfl⟩ := h1
    refine .inr ⟨g, c, cur, by rw [hlt], h2, h3, by rw [hlt]; omega, h5, h6, ?_⟩
    rw [hlt, ← lcells_take K h.1 m (by omega), ← h7, List.take_take, Nat.min_eq_left (Nat.mul_le_mul_right _ (by omega))]
/-- What holds of each row. -/
structure Fits (ts : List Pk) (j : Nat) : Prop where
  w : ∀ p ∈ row ts j, p.1 ≤ 2305843009213693952
  t : ∀ p ∈ row ts j, ∀ s, p.2.getD s 0 ≤ 127
theorem fits_take {ts : List Pk} {j : Nat} (h : Fits ts j) : (∀ p ∈ cut ts j, p.1 ≤ 2305843009213693952) ∧ ∀ p ∈ cut ts j, ∀ s, p.2.getD s 0 ≤ 127 :=
  ⟨fun p hp => h.w p (List.mem_of_mem_take hp), fun p hp => h.t p (List.mem_of_mem_take hp)⟩
theorem cut_len_le (ts : List Pk) (j : Nat) : (cut ts j).length ≤ 2 * ts.length - 2 := by unfold cut; rw [List.length_take]; omega
theorem own_addr {t : TypeId} {K : IntKind} {w : World} {base : Nat} {v : Value} {ps : List Pk} (h : OwnP t K w base v ps) (hp : 0 < ps.length) : ∃ g c, v = .slice (some ⟨g, 0, none⟩) ps.length c ∧ ps.length ≤ c ∧ c ≤ maxLen ∧ base ≤ g := by
  rcases h.2.2 with ⟨h1, h2⟩ | ⟨g, cap, cur, h1, h2, h3, h4, h5, _⟩
  · omega
  · exact ⟨g, cap, h1, h4, h5, h2⟩
set_option maxHeartbeats 2000000 in
set_option maxRecDepth 100000 in
theorem taken_any (a : Option Addr) (la ca : Nat) (ts : List Pk) (rows : Nat) (w : World) (hr : RdP .u8 w a la ts) (hn : la ≤ 256) (hca : la ≤ ca) (h1 : 1 ≤ rows) (h15 : rows ≤ 15) (hf : ∀ j, j < rows → Fits ts j) :
    Calls Tryz.prog 98 #[.slice a la ca, .int .i64 (rows : Int)] w fun e w' => ∃ a' n c, e = .returned (.slice a' n c) ∧ RdP .u8 w' a' n (takenOf ts rows) ∧ Below w.heap.size w w' := by
  have HR := hide hr
  have HL := hide hr.1
  have HF := hide hf
  clear hr hf
  by_cases h2 : la < 2
  · have h2i : (la : Int) < 2 := by omega
    have HE : Hid (takenOf ts rows = ts) := by show _ = _; unfold takenOf; rw [if_pos (by rw [HL.out]; exact h2)]
    go_enter Tryz.func98, Tryz.ntmps98
    go_wp2_with fail
    go_ret
    exact ⟨_, _, _, rfl, by rw [HE.out]; exact HR.out, Below.refl _ _⟩
  · have h2i : ¬ (la : Int) < 2 := by omega
    have HK : Hid (2 ≤ ts.length) := by show _ ≤ _; rw [HL.out]; omega
    have HE : Hid (takenOf ts rows = cut ts (rows - 1)) := by show _ = _; unfold takenOf; rw [if_neg (by rw [HL.out]; exact h2)]
    obtain ⟨M, hM⟩ : ∃ M, 2 * la - 2 = M := ⟨_, rfl⟩
    have hMi : 2 * (la : Int) - 2 = (M : Int) := by omega
    have HM : Hid (2 * ts.length - 2 = M) := by show _ = _; rw [HL.out, hM]
    have hMb : M ≤ 510 := by omega
    have hM1 : 2 ≤ M := by omega
    obtain ⟨R, hR⟩ : ∃ R, rows - 1 = R := ⟨_, rfl⟩
    have hRi : (rows : Int) - 1 = (R : Int) := by omega
    have HRW : Hid (rows = R + 1) := by show _ = _; omega
    rw [hR] at HE
    clear hM hR
    go_enter Tryz.func98, Tryz.ntmps98
    go_wp2_with fail
    go_loopw [6, 19] (fun r i wr => ∃ (k n c : Nat) (ra : Option Addr), k ≤ R ∧ i = .int .i64 (k : Int) ∧ r = .slice ra n c ∧ n ≤ 510 ∧ Hid (RdP .u8 wr ra n (cut ts k)) ∧ Hid (Below w.heap.size w wr)) (fun _ i _ => R - (intOf i).toNat)
    case atStart => exact ⟨0, la, ca, a, Nat.zero_le _, rfl, rfl, by omega, by rw [cut_zero ts HK.out]; exact HR, Below.refl _ _⟩
    case round =>
      obtain ⟨k, n, c, ra, hk, rfl, rfl, hn5, HRK, HB⟩ := hrel
      by_cases hlt : k < R
      · have hki : (k : Int) < (R : Int) := by omega
        have HFK := hide (fits_take (HF.out k (by have := HRW.out; omega)))
        have HP := hide (fun W h => paired_any ra n c (cut ts k) W h (by omega) HFK.out.1 HFK.out.2)
        have HRW1 : Hid (RdP .u8 wr a la ts) := HR.out.below HB.out
        have HCS := hide (cut_succ ts HK.out k)
        rw [HM.out] at HCS
        have HTL : Hid ((merged ts (paired (cut ts k))).length = la + n / 2) := by show _ = _; rw [merged_len, paired_len, HL.out, HRK.out.1]
        have HPL : Hid ((paired (cut ts k)).length = n / 2) := by show _ = _; rw [paired_len, HRK.out.1]
        have hB0 := HB.out.size
        obtain ⟨q, hq⟩ : ∃ q, n / 2 = q := ⟨_, rfl⟩
        rw [hq] at HP HTL HPL
        have hqb : q ≤ 255 := by omega
        clear hq
        go_wp2_with fail
        refine (HP.out _ HRK.out).mono ?_
        rintro e w1 ⟨g1, rfl, ho1, hb1⟩
        have HB1 : Hid (Below w.heap.size w w1) := HB.out.trans (hb1.mono hB0)
        have hrd1 := ho1.rd'
        have HMX := hide (mixed_any a la ca ts ⟨g1, 0, none⟩ q q (paired (cut ts k)) w1 (HRW1.out.below hb1) hrd1 (by omega) (by omega) (Nat.le_refl _) (by omega) rfl)
        have HRK1 : Hid (RdP .u8 w1 ra n (cut ts k)) := HRK.out.below hb1
        clear ho1 hb1 hrd1
        go_wp2_with fail
        refine HMX.out.mono ?_
        rintro e w2 ⟨v2, rfl, ho2, hb2⟩
        have hB1 := HB1.out.size
        have HB2 : Hid (Below w.heap.size w w2) := HB1.out.trans (hb2.mono hB1)
        have HRK2 : Hid (RdP .u8 w2 ra n (cut ts k)) := HRK1.out.below hb2
        obtain ⟨g2, c2, hv2, hc2, hm2, hg2⟩ := own_addr ho2 (by rw [HTL.out]; omega)
        rw [HTL.out] at hv2 hc2
        subst hv2
        obtain ⟨mm, hmm⟩ : ∃ mm, min M (la + q) = mm := ⟨_, rfl⟩
        have hmc : mm ≤ la + q := by omega
        have HOC := hide (ho2.cut mm hmc)
        have HTK : Hid ((merged ts (paired (cut ts k))).take mm = cut ts (k + 1)) := by
          show _ = _
          rw [← HCS.out, ← hmm, ← HTL.out, Nat.min_def]
          split
          · rfl
          · rw [List.take_length, List.take_of_length_le (by omega)]
        have hmx : mm ≤ 510 := by omega
        have hmi : (M : Int) ≤ ((la + q : Nat) : Int) ∧ mm = M ∨ ((la + q : Nat) : Int) < (M : Int) ∧ mm = la + q := by omega
        obtain ⟨L2, hL2⟩ : ∃ L2, la + q = L2 := ⟨_, rfl⟩
        rw [hL2] at hmi hmc hc2 ⊢
        unfold maxLen at hm2
        clear ho2 hb2 hmm HMX hL2 HP HCS HTL HPL HFK
        rw [HTK.out] at HOC
        have HRD3 := hide HOC.out.rd'
        have HEQ := hide (fun W h1 h2 => equal_any (some ⟨g2, 0, none⟩) ra mm c2 n c (cut ts (k + 1)) (cut ts k) W h1 h2 (by omega))
        clear HTK HOC
        have HMM : Hid (mm = mm) := rfl
        have hcx : (mm : Int) ≤ (c2 : Int) := by omega
        obtain ⟨B, hB⟩ : ∃ B, decide (cut ts (k + 1) = cut ts k) = B := ⟨_, rfl⟩
        rw [hB] at HEQ
        have HBE := hide hB
        have HRF : Hid (∀ nd, RdP .u8 (w2.drewN nd) (some ⟨g2, 0, none⟩) mm (cut ts (k + 1)) ∧ RdP .u8 (w2.drewN nd) ra n (cut ts k) ∧ Below w.heap.size w (w2.drewN nd)) := fun nd =>
          ⟨HRD3.out.below (below_drewN' _ _ _), HRK2.out.below (below_drewN' _ _ _), below_drewN HB2.out nd⟩
        clear hB
        rcases hmi with ⟨hmi, hmm⟩ | ⟨hmi, hmm⟩
        all_goals
          subst hmm
          go_wp2_with fail
          refine (HEQ.out _ HRD3.out HRK2.out).mono ?_
          rintro e w3 ⟨rfl, nd, rfl⟩
          obtain ⟨f1, f2, f3⟩ := HRF.out nd
          have F1 := hide f1
          have F2 := hide f2
          have F3 := hide f3
          clear f1 f2 f3 HRF HRD3 HRK2 HB2
          obtain ⟨w4, hw4⟩ : ∃ w4, w2.drewN nd = w4 := ⟨_, rfl⟩
          rw [hw4] at F1 F2 F3 ⊢
          clear hw4
          cases B with
          | true =>
            have HST : Hid (cut ts R = cut ts k) := by
              show _ = _
              have := cut_stay ts HK.out k (of_decide_eq_true HBE.out) (R - k)
              rwa [show k + (R - k) = R by omega] at this
            go_wp2_with fail
            go_ret
            exact ⟨_, _, _, rfl, by rw [HE.out, HST.out]; exact F2.out, F3.out⟩
          | false =>
            go_wp2_with fail
            go_roundw
            case rel => exact ⟨k + 1, _, c2, some ⟨g2, 0, none⟩, by omega, by go_num, rfl, by omega, F1, F3⟩
            case measure => simp [intOf]; omega
      · obtain rfl : k = R := by omega
        have hki : ¬ (k : Int) < (k : Int) := by omega
        go_wp2_with fail
        go_ret
        have HFI : Hid (RdP .u8 wr ra n (takenOf ts rows)) := by rw [HE.out]; exact HRK.out
        first | exact ⟨_, _, _, rfl, HFI.out, HB.out⟩ | exact ⟨_, _, _, HFI.out, HB.out⟩ | exact ⟨_, _, ⟨_, rfl⟩, HFI.out, HB.out⟩ | exact ⟨_, _, HFI.out, HB.out⟩
end Go.Proofs.YthdblnfohbldcaaGreat.Pm
