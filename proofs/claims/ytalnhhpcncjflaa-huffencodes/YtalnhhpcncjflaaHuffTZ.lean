/-
  The document's packages in memory: what is appended, what is sliced.
-/
import Derived.Test.YtalnhhpcncjflaaHuffQZ
import Derived.Test.YtalnhhpcncjflaaHuffQ2
import Derived.Test.YtalnhhpcncjflaaHuffSZ
namespace Go.Proofs.Ytalnhhpcncjflaa.Pm
open Go.ChangeShapes Go.WideShapes Go.ChangeAt Go.RowKit
open Go.Proofs.Ytalnhhpcncjflaa.Base
set_option linter.unusedVariables false
theorem infoR : (Try.prog.info? 68).map (fun i => (i.zero, i.size, i.bytes)) = some (some (.agg (pcells .i64 (0, List.replicate 256 0)).toArray), 257, 2056) := by kernel_rfl
theorem sizeR : (Try.prog.info? 68).map (·.size) = some 257 := by kernel_rfl
theorem zeroR : ∃ Z : List Value, Hid (Z = pcells .i64 zpack) ∧ (Try.prog.info? 68).map (fun i => (i.zero, i.size, i.bytes)) = some (some (.agg Z.toArray), 257, 2056) ∧ ∀ W, (zeroValue 68).run Try.prog W = .ok (.agg Z.toArray) W :=
  ⟨_, rfl, infoR, zero_of infoR⟩
theorem uR : ∃ d, Try.prog.underlying 68 = some d ∧ d.isRow = true := ⟨_, Try.underlying68, rfl⟩
theorem zpack_len : (Value.agg (pcells .i64 zpack).toArray).cells.size = 257 := by
  show (pcells .i64 zpack).toArray.size = 257
  rw [List.size_toArray, pcells_len _ (List.length_replicate ..)]
theorem wp_buildR {o : Oper} {a : Act} {w : World} {K : Act → World → Prop} {Q : Exit → Act → World → Prop} (x : Operand) (ho : o.op = .buildSlice 62 1 #[(0, x)]) (V : List Value) (hV : V.length = 257) (hx : a.eval x = .agg V.toArray)
    (h : K (a.put o.dst (.slice (some ⟨w.heap.size, 0, none⟩) 1 1)) (w.alloc (.cells V.toArray 68))) : o.wp Try.prog a w K Q := by
  obtain ⟨Z, HZ, HI, hz⟩ := zeroR
  obtain ⟨i0, hi, hz0, hz1, hz2⟩ := info_of HI
  refine wp_buildSlice 62 68 1 _ ho V.toArray i0 (.agg Z.toArray) Try.underlying62 hi hz0 (by rw [hz1]; decide) (by rw [hz1]; decide) ?_ h
  rw [hz1]
  have := fill_one ((Array.range (1 * 257)).map ((Value.agg Z.toArray).cells[· % (Value.agg Z.toArray).cells.size]!)) V (by rw [Array.size_map, Array.size_range]) hV
  simpa [hx] using this
theorem wpList_buildR {ops : Array Oper} {rest : List Oper} {o : Oper} {a : Act} {w : World} {Q : Exit → Act → World → Prop} (hg : o.guard = none) (x : Operand) (ho : o.op = .buildSlice 62 1 #[(0, x)]) (V : List Value) (hV : V.length = 257) (hx : a.eval x = .agg V.toArray)
    (h : wpList Try.prog ops Q rest (a.put o.dst (.slice (some ⟨w.heap.size, 0, none⟩) 1 1)) (w.alloc (.cells V.toArray 68))) : wpList Try.prog ops Q (o :: rest) a w :=
  wpList_plain hg fun _ hK => wp_buildR x ho V hV hx (hK _ _ h)
abbrev OwnR (w : World) (base : Nat) (v : Value) (ps : List Pk) : Prop := OwnP 68 .i64 w base v ps
abbrev RdR (w : World) (a : Option Addr) (len : Nat) (ps : List Pk) : Prop := RdP .i64 w a len ps
theorem wide_append {X Y : List Pk} (hX : Wide 256 X) (hY : Wide 256 Y) : Wide 256 (X ++ Y) := fun p hp => by
  rcases List.mem_append.1 hp with h | h
  · exact hX p h
  · exact hY p h
theorem lcells_single (K : IntKind) (q : Pk) : lcells K [q] = pcells K q := by simp [lcells]
/-- append of packages onto a row of the call's own. -/
theorem joinR {ops : Array Oper} {rest : List Oper} {o : Oper} {a : Act} {Q : Exit → Act → World → Prop} (w : World) (hgd : o.guard = none) (s x : Operand)
    (ho : o.op = .call { callee := .builtin .append, args := #[s, x], argTypes := #[62, 62] })
    (base : Nat) (v : Value) (X : List Pk) (hs : a.eval s = v) (hown : OwnR w base v X) (xa : Option Addr) (m cap : Nat) (Y : List Pk) (hx : a.eval x = .slice xa m cap)
    (hr : RdR w xa m Y) (hnil : xa = none → m = 0 ∧ cap = 0) (hl : X.length + m ≤ 1000000) (hbase : base ≤ w.heap.size)
    (h : ∀ v' w', OwnR w' base v' (X ++ Y) → w.grownBy w' v.ownBlock → wpList Try.prog ops Q rest (a.put o.dst v') w') : wpList Try.prog ops Q (o :: rest) a w := by
  obtain ⟨Z, HZ, HI, hz⟩ := zeroR
  obtain ⟨i0, hi, hz0, hz1, hz2⟩ := info_of HI
  obtain ⟨r1, r2, r3⟩ := hr
  have hzs : (Value.agg Z.toArray).cells.size = 257 := by rw [HZ.out]; exact zpack_len
  cases xa with
  | none =>
    obtain ⟨rfl, rfl⟩ := hnil rfl
    have : Y = [] := List.length_eq_zero_iff.1 r1
    subst this
    refine wpList_append_own_none hgd s x 62 ho base 68 i0 257 Try.underlying62 hi v X.length (lcells .i64 X) hs hown.2 hx ?_
    exact h v w (by rw [List.append_nil]; exact hown) (World.grownBy.refl _ _)
  | some ad =>
    have hcl : (lcells .i64 Y).length = m * 257 := by rw [lcells_len .i64 r2, r1]
    refine wpList_append_own w hgd s x 62 ho base 68 i0 (.agg Z.toArray) 257 2056 Try.underlying62 hi hz0 hz1 hz2 hzs (by omega) v X.length (lcells .i64 X) hs hown.2 ad m cap (lcells .i64 Y) hx hcl (fun j u hu => ?_) (lcells_one _ _) (by unfold maxLen; omega) (by omega) hbase ?_
    · have hj := (List.getElem?_eq_some_iff.1 hu).1
      obtain ⟨b, off, e, hb, hc⟩ := r3 (by omega)
      obtain rfl := Option.some.inj e
      rw [Addr.add_mid]
      exact hc j u hu
    · intro v' w' h1 h2 _
      refine h v' w' ⟨wide_append hown.1 r2, ?_⟩ h2
      rw [List.length_append, r1, lcells_append]
      exact h1
/-- Of one that lies new. -/
theorem rdr_new (w : World) (q : Pk) (hq : q.2.length = 256) (V : List Value) (hV : pcells .i64 q = V) : RdR (w.alloc (.cells V.toArray 68)) (some ⟨w.heap.size, 0, none⟩) 1 [q] := by
  refine ⟨rfl, fun p hp => by simp at hp; subst hp; exact hq, fun _ => ⟨w.heap.size, 0, rfl, by simp, fun j u hu => ?_⟩⟩
  rw [lcells_single, hV] at hu
  have := new_cells w V 68 j u hu
  rwa [Addr.add_mid] at this
theorem elemR : Try.prog.underlying 62 = some (.slice (Try.prog.elem 62)) := by kernel_rfl
theorem elemRSize (W : World) : (sizeOf (Try.prog.elem 62)).run Try.prog W = .ok 257 W := by
  have h : (Try.prog.info? (Try.prog.elem 62)).map (·.size) = some 257 := by kernel_rfl
  cases hq : Try.prog.info? (Try.prog.elem 62) with
  | none => simp [hq] at h
  | some i => simp [hq] at h; simp [sizeOf, typeInfo, hq, h]
/-- 'l[k:]'. -/
theorem slice_from (b off len cap k : Nat) (h : k ≤ len) (hc : len ≤ cap) : ∃ la : Addr, (∀ W, (Instr.sliceAt 62 (.slice (some ⟨b, off, none⟩) len cap) (some (.int .i64 (k : Int))) none none).run Try.prog W = .ok (.slice (some la) (len - k) (cap - k)) W) ∧
    (k < len → la = ⟨b, off + k * 257, none⟩) ∧ la.spot = none := by
  refine ⟨if cap = k then ⟨b, off, none⟩ else ⟨b, off + k * 257, none⟩, fun W => ?_, fun hc => by rw [if_neg (by omega)], by split <;> rfl⟩
  rw [run_sliceAt_slice (h := elemR), run_slice_l (ht := elemR) (h0 := by omega) (h1 := by omega), elemRSize]
  simp only [Result.andThen, sliced, Int.toNat_natCast]
  by_cases hc : cap = k
  · rw [if_pos hc, if_pos hc]
  · rw [if_neg hc, if_neg hc]
    simp [Addr.add]
theorem rdr_from {w : World} {b off len k : Nat} {la : Addr} {ps : List Pk} (hr : RdR w (some ⟨b, off, none⟩) len ps) (h : k ≤ len) (hl : k < len → la = ⟨b, off + k * 257, none⟩) : RdR w (some la) (len - k) (ps.drop k) := by
  obtain ⟨h1, h2, h3⟩ := hr
  refine ⟨by rw [List.length_drop, h1], wide_drop h2 k, fun hp => ?_⟩
  obtain ⟨b', off', e, hb, hc⟩ := h3 (by omega)
  simp only [Option.some.injEq, Addr.mk.injEq, and_true] at e
  obtain ⟨rfl, rfl⟩ := e
  exact ⟨b, off + k * 257, by rw [hl (by omega)], hb, range_drop hc h2 k (by omega)⟩
theorem rdr_take {w : World} {a : Option Addr} {len k : Nat} {ps : List Pk} (hr : RdR w a len ps) (h : k ≤ len) : RdR w a k (ps.take k) := by
  obtain ⟨h1, h2, h3⟩ := hr
  refine ⟨by rw [List.length_take, h1]; omega, wide_take h2 k, fun hp => ?_⟩
  obtain ⟨b', off', e, hb, hc⟩ := h3 (by omega)
  exact ⟨b', off', e, hb, range_take hc h2 k (by omega)⟩
end Go.Proofs.Ytalnhhpcncjflaa.Pm
/-
  The document's merged.
-/
namespace Go.Proofs.Ytalnhhpcncjflaa.Pm
open Go.ChangeShapes Go.WideShapes Go.ChangeAt Go.RowKit
open Go.Proofs.Ytalnhhpcncjflaa.Base
set_option linter.unusedVariables false
theorem drop_all {l : List Pk} {i : Nat} (h : l.length ≤ i) : l.drop i = [] := List.drop_eq_nil_of_le h
set_option maxHeartbeats 2000000 in
set_option maxRecDepth 100000 in
theorem refMerged_any (ba oa la ca : Nat) (ts : List Pk) (b : Option Addr) (lb cb : Nat) (ps : List Pk) (w : World) (hr : RdR w (some ⟨ba, oa, none⟩) la ts) (hq : RdR w b lb ps) (hn : la ≤ 1000) (hp : lb ≤ 1000) (hlc : la ≤ ca) (hcm : ca ≤ 9223372036854775807) :
    Calls Try.prog 35 #[.slice (some ⟨ba, oa, none⟩) la ca, .slice b lb cb] w fun e w' => ∃ v, e = .returned v ∧ OwnR w' w.heap.size v (merged ts ps) ∧ Below w.heap.size w w' := by
  have HA := hide hr
  have HQ := hide hq
  obtain ⟨d, hu, hd⟩ := uR
  have HU := hide hu
  have HTOT : Hid ((merged ts ps).length = la + lb) := by show _ = _; rw [merged_len, hr.1, hq.1]
  clear hr hq hu
  obtain ⟨g, hg⟩ : ∃ g, w.heap.size = g := ⟨_, rfl⟩
  have HG : Hid (w.heap.size = g) := hg
  have HS0 : Hid (OwnR w g (.slice none 0 0) []) := ownP_none _ _ _ _
  have HB0 : Hid (Below g w w) := Below.refl _ _
  rw [hg]
  clear hg
  go_enter Try.func35, Try.ntmps35
  go_wp2_with fail
  go_loopw [5, 6, 7] (fun l i k wr => ∃ (p q : Nat) (X : List Pk), p ≤ la ∧ q ≤ lb ∧ i = .int .i64 (p : Int) ∧ k = .int .i64 (q : Int) ∧ Hid (OwnR wr g l X) ∧ Hid (merged ts ps = X ++ merged (ts.drop p) (ps.drop q)) ∧ Hid (Below g w wr)) (fun _ _ k _ => lb - (intOf k).toNat)
  case atStart => exact ⟨0, 0, [], Nat.zero_le _, Nat.zero_le _, rfl, rfl, HS0, rfl, HB0⟩
  case round =>
    clear HS0 HB0
    obtain ⟨p, q, X, hpa, hqb, rfl, rfl, HO, HM, HB⟩ := hrel
    by_cases hlt : q < lb
    · have hqi : (q : Int) < (lb : Int) := by omega
      obtain ⟨b2, o2, rfl, hb2, hc2⟩ := HQ.out.2.2 (by omega)
      obtain ⟨y, hy⟩ : ∃ y, ps.getD q (0, []) = y := ⟨_, rfl⟩
      have HDQ : Hid (ps.drop q = y :: ps.drop (q + 1)) := by
        show _ = _
        rw [List.drop_eq_getElem_cons (by rw [HQ.out.1]; exact hlt), ← hy, List.getD_eq_getElem?_getD, List.getElem?_eq_getElem (by rw [HQ.out.1]; exact hlt)]; rfl
      have RY : Hid (w.rangeAt b2 (o2 + q * 257) (pcells .i64 y)) := by
        rw [← hy]
        exact range_one hc2 HQ.out.2.1 q (by rw [HQ.out.1]; exact hlt)
      have HYL : Hid (y.2.length = 256) := by show _ = _; rw [← hy]; exact wide_get HQ.out.2.1 q (by rw [HQ.out.1]; exact hlt)
      rw [HDQ.out] at HM
      obtain ⟨VY, hVY⟩ : ∃ VY, pcells .i64 y = VY := ⟨_, rfl⟩
      have HVY := hide hVY
      have HYV := hide (pcells_len .i64 HYL.out)
      have IY : Hid ((Try.prog.info? 68).map (·.size) = some (pcells .i64 y).length) := by show _ = _; rw [HYV.out]; exact sizeR
      have RY0 := RY.out 0 _ (pcells_w _ y)
      rw [Nat.add_zero] at RY0
      have HY0 := hide RY0
      rw [hVY] at RY HYV IY
      have hb2g : b2 < g := by rw [← HG.out]; exact hb2
      clear hy hVY hc2 RY0
      go_wp2_with fail
      go_loopw [5, 6] (fun l i wz => ∃ (p : Nat) (X : List Pk), p ≤ la ∧ i = .int .i64 (p : Int) ∧ Hid (OwnR wz g l X) ∧ Hid (merged ts ps = X ++ merged (ts.drop p) (y :: ps.drop (q + 1))) ∧ Hid (Below g w wz)) (fun _ i _ => la - (intOf i).toNat)
      case atStart => exact ⟨p, X, hpa, rfl, HO, HM, HB⟩
      case round =>
        clear HO HM HB hpa
        obtain ⟨p, X, hpa, rfl, HO, HM, HB⟩ := hrel
        have HXL : Hid (X.length ≤ 2000) := by
          show _ ≤ _
          have h1 := HTOT.out
          rw [HM.out, List.length_append] at h1
          omega
        have HBw : Hid (Below w.heap.size w wr) := by rw [HG.out]; exact HB.out
        have y0 := HY0.out
        rw [← HB.out.cell (p := ⟨b2, o2 + q * 257, none⟩) hb2g] at y0
        have hsz : g ≤ wr.heap.size := by rw [← HG.out]; exact HB.out.size
        have HRYW : Hid (wr.rangeAt b2 (o2 + q * 257) VY) := range_below RY.out HBw.out hb2
        by_cases hgo : p < la ∧ (ts.getD p (0, [])).1 ≤ y.1
        · obtain ⟨hpl, hle⟩ := hgo
          obtain ⟨b1, o1, e1, hb1, hc1⟩ := HA.out.2.2 (by omega)
          simp only [Option.some.injEq, Addr.mk.injEq, and_true] at e1
          obtain ⟨rfl, rfl⟩ := e1
          have hpi : (p : Int) < (la : Int) := by omega
          obtain ⟨t, ht⟩ : ∃ t, ts.getD p (0, []) = t := ⟨_, rfl⟩
          have HDP : Hid (ts.drop p = t :: ts.drop (p + 1)) := by
            show _ = _
            rw [List.drop_eq_getElem_cons (by rw [HA.out.1]; exact hpl), ← ht, List.getD_eq_getElem?_getD, List.getElem?_eq_getElem (by rw [HA.out.1]; exact hpl)]; rfl
          have RT : Hid (wr.rangeAt ba (oa + p * 257) (pcells .i64 t)) := by
            rw [← ht]
            exact range_below (range_one hc1 HA.out.2.1 p (by rw [HA.out.1]; exact hpl)) HBw.out hb1
          have HTL : Hid (t.2.length = 256) := by show _ = _; rw [← ht]; exact wide_get HA.out.2.1 p (by rw [HA.out.1]; exact hpl)
          rw [ht] at hle
          rw [HDP.out, merged_keep (by omega)] at HM
          have HM2 : Hid (merged ts ps = (X ++ [t]) ++ merged (ts.drop (p + 1)) (y :: ps.drop (q + 1))) := by show _ = _; rw [HM.out, List.append_assoc]; rfl
          have t0 := RT.out 0 _ (pcells_w _ t)
          rw [Nat.add_zero] at t0
          have HTV := hide (pcells_len .i64 HTL.out)
          have IT : Hid ((Try.prog.info? 68).map (·.size) = some (pcells .i64 t).length) := by show _ = _; rw [HTV.out]; exact sizeR
          obtain ⟨VT, hVT⟩ : ∃ VT, pcells .i64 t = VT := ⟨_, rfl⟩
          have HVT := hide hVT
          rw [hVT] at RT HTV IT
          obtain ⟨T1, hT1⟩ : ∃ T1, t.1 = T1 := ⟨_, rfl⟩
          obtain ⟨Y1, hY1⟩ : ∃ Y1, y.1 = Y1 := ⟨_, rfl⟩
          rw [hT1] at t0 hle
          rw [hY1] at y0 hle
          have d1 : decide ((p : Int) < (la : Int)) = true := by rw [decide_eq_true_iff]; exact hpi
          have d2 : decide ((T1 : Int) ≤ (Y1 : Int)) = true := by rw [decide_eq_true_iff]; omega
          have d3 : (T1 : Int) ≤ (Y1 : Int) := by omega
          have d4 : decide (p < la) = true := by rw [decide_eq_true_iff]; exact hpl
          have d5 : decide (T1 ≤ Y1) = true := by rw [decide_eq_true_iff]; exact hle
          clear hc1 ht hVT hT1 hY1 HM
          go_wp2_with fail
          go_quiet (fail)
          have R7 : Hid ((wr.drewN nq).rangeAt ba (oa + p * 257) VT) := fun j v hv => RT.out j v hv
          have HO7 : Hid (OwnR (wr.drewN nq) g u5 X) := HO.out
          have HB7 : Hid (Below g w (wr.drewN nq)) := below_drewN HB.out nq
          have hs7 : g ≤ (wr.drewN nq).heap.size := hsz
          obtain ⟨w7, hw7⟩ : ∃ w7, wr.drewN nq = w7 := ⟨_, rfl⟩
          rw [hw7] at R7 HO7 HB7 hs7 ⊢
          clear hw7 t0 y0 RT HO HB HBw hsz HRYW
          go_wp2_with (first
            | (refine wpList_load_mid rfl 68 (.tmp 34) rfl ba (oa + p * 257) rfl VT _ R7.out HU.out hd IT.out ?_)
            | (refine wpList_buildR rfl (.tmp 35) rfl VT HTV.out rfl ?_)
            | (refine joinR _ rfl (.tmp 31) (.tmp 36) rfl g u5 X rfl (HO7.out.below ((Below.refl _ _).alloc (Nat.le_refl _) _)) (some ⟨w7.heap.size, 0, none⟩) 1 1 [t] rfl (rdr_new w7 t HTL.out VT HVT.out) (fun h => by cases h) (by have := HXL.out; omega) (Nat.le_trans hs7 (by simp)) ?_
               intro v9 w9 ho9 hg9))
          have HO9 := hide ho9
          have HB9 : Hid (Below g w w9) := (HB7.out.alloc hs7 _).grown hg9 (Nat.le_trans hs7 (by simp)) (fun i e => (HO7.out.2.lt i e).1)
          clear ho9 hg9
          go_wp2_with fail
          go_roundw
          case rel => exact ⟨p + 1, X ++ [t], by omega, by go_num, HO9, HM2, HB9⟩
          case measure => simp [intOf]; omega
        · have HM2 : Hid (merged ts ps = (X ++ [y]) ++ merged (ts.drop p) (ps.drop (q + 1))) := by
            show _ = _
            rw [HM.out, List.append_assoc]
            congr 1
            by_cases hpl : p < la
            · rw [List.drop_eq_getElem_cons (l := ts) (by rw [HA.out.1]; exact hpl), merged_emit]
              · rfl
              · have e : (ts.getD p (0, [])) = ts[p]'(by rw [HA.out.1]; exact hpl) := by rw [List.getD_eq_getElem?_getD, List.getElem?_eq_getElem (by rw [HA.out.1]; exact hpl)]; rfl
                rw [← e]
                exact Nat.lt_of_not_le fun h => hgo ⟨hpl, h⟩
            · rw [drop_all (l := ts) (by rw [HA.out.1]; omega), nil_merged, nil_merged]; rfl
          obtain ⟨Y1, hY1⟩ : ∃ Y1, y.1 = Y1 := ⟨_, rfl⟩
          have HCASE : (¬ p < la) ∨ ∃ T1 : Nat, p < la ∧ wr.cell? ⟨ba, oa + p * 257, none⟩ = some (.int .i64 (T1 : Int)) ∧ ¬ T1 ≤ Y1 := by
            by_cases hpl : p < la
            · obtain ⟨b1, o1, e1, hb1, hc1⟩ := HA.out.2.2 (by omega)
              simp only [Option.some.injEq, Addr.mk.injEq, and_true] at e1
              obtain ⟨rfl, rfl⟩ := e1
              have RT := range_below (range_one hc1 HA.out.2.1 p (by rw [HA.out.1]; exact hpl)) HBw.out hb1
              have t0 := RT 0 _ (pcells_w _ _)
              rw [Nat.add_zero] at t0
              exact .inr ⟨_, hpl, t0, fun h => hgo ⟨hpl, by rw [hY1]; exact h⟩⟩
            · exact .inl hpl
          rw [hY1] at y0
          clear hY1 hgo HM
          rcases HCASE with hpl | ⟨T1, hpl, t0, hnl⟩
          all_goals
            first
              | (have z1 : ¬ (p : Int) < (la : Int) := by omega
                 have z2 : decide ((p : Int) < (la : Int)) = false := by rw [decide_eq_false_iff_not]; exact z1
                 have z4 : decide (p < la) = false := by rw [decide_eq_false_iff_not]; exact hpl)
              | (have z1 : (p : Int) < (la : Int) := by omega
                 have z2 : decide ((p : Int) < (la : Int)) = true := by rw [decide_eq_true_iff]; exact z1
                 have z4 : decide (p < la) = true := by rw [decide_eq_true_iff]; exact hpl
                 have z5 : decide ((T1 : Int) ≤ (Y1 : Int)) = false := by rw [decide_eq_false_iff_not]; omega
                 have z6 : decide (T1 ≤ Y1) = false := by rw [decide_eq_false_iff_not]; exact hnl)
            go_wp2_with fail
            go_quiet (fail)
            have R7 : Hid ((wr.drewN nq).rangeAt b2 (o2 + q * 257) VY) := fun j v hv => HRYW.out j v hv
            have HO7 : Hid (OwnR (wr.drewN nq) g u5 X) := HO.out
            have HB7 : Hid (Below g w (wr.drewN nq)) := below_drewN HB.out nq
            have hs7 : g ≤ (wr.drewN nq).heap.size := hsz
            obtain ⟨w7, hw7⟩ : ∃ w7, wr.drewN nq = w7 := ⟨_, rfl⟩
            rw [hw7] at R7 HO7 HB7 hs7 ⊢
            clear hw7 y0 HO HB HBw hsz HRYW
            try clear t0
            go_wp2_with (first
              | (refine wpList_load_mid rfl 68 (.tmp 43) rfl b2 (o2 + q * 257) rfl VY _ R7.out HU.out hd IY.out ?_)
              | (refine wpList_buildR rfl (.tmp 44) rfl VY HYV.out rfl ?_)
              | (refine joinR _ rfl (.tmp 40) (.tmp 45) rfl g u5 X rfl (HO7.out.below ((Below.refl _ _).alloc (Nat.le_refl _) _)) (some ⟨w7.heap.size, 0, none⟩) 1 1 [y] rfl (rdr_new w7 y HYL.out VY HVY.out) (fun h => by cases h) (by have := HXL.out; omega) (Nat.le_trans hs7 (by simp)) ?_
                 intro v9 w9 ho9 hg9))
            have HO9 := hide ho9
            have HB9 : Hid (Below g w w9) := (HB7.out.alloc hs7 _).grown hg9 (Nat.le_trans hs7 (by simp)) (fun i e => (HO7.out.2.lt i e).1)
            clear ho9 hg9
            go_wp2_with fail
            go_roundw
            case rel => exact ⟨p, q + 1, X ++ [y], hpa, by omega, rfl, by go_num, HO9, HM2, HB9⟩
            case measure => simp [intOf]; omega
    · have hq0 : q = lb := by omega
      subst hq0
      have hqi : ¬ (q : Int) < (q : Int) := by omega
      rw [drop_all (l := ps) (by rw [HQ.out.1]; exact Nat.le_refl _), merged_nil] at HM
      obtain ⟨lx, hsl, hlx, hsp⟩ := slice_from ba oa la ca p hpa hlc
      have HRX := hide (rdr_from HA.out hpa hlx)
      have HBw : Hid (Below w.heap.size w wr) := by rw [HG.out]; exact HB.out
      have HXL : Hid (X.length + (la - p) ≤ 2000) := by
        show _ ≤ _
        have h1 := HTOT.out
        rw [HM.out, List.length_append, List.length_drop, HA.out.1] at h1
        omega
      have hsz : g ≤ wr.heap.size := by rw [← HG.out]; exact HB.out.size
      go_wp2_with (first
        | (refine joinR _ rfl (.tmp 47) (.tmp 50) rfl g u5 X rfl HO.out (some lx) (la - p) (ca - p) (ts.drop p) rfl (HRX.out.below HBw.out) (fun h => by cases h) (by have := HXL.out; omega) hsz ?_
           intro v9 w9 ho9 hg9))
      have HO9 : Hid (OwnR w9 g v9 (merged ts ps)) := by rw [HM.out]; exact ho9
      have HB9 : Hid (Below g w w9) := HB.out.grown hg9 hsz (fun i e => (HO.out.2.lt i e).1)
      clear ho9 hg9
      go_wp2_with fail
      go_ret
      exact ⟨_, rfl, HO9.out, HB9.out⟩
end Go.Proofs.Ytalnhhpcncjflaa.Pm
/-
  The document's paired.
-/
namespace Go.Proofs.Ytalnhhpcncjflaa.Pm
open Go.ChangeShapes Go.WideShapes Go.ChangeAt Go.RowKit
open Go.Proofs.Ytalnhhpcncjflaa.Base
set_option linter.unusedVariables false
theorem pair_step {rs : List Pk} {p : Nat} (h : p + 1 < rs.length) : paired (rs.drop p) = both (rs.getD p (0, [])) (rs.getD (p + 1) (0, [])) :: paired (rs.drop (p + 2)) := by
  have e1 : rs.getD p (0, []) = rs[p] := by rw [List.getD_eq_getElem?_getD, List.getElem?_eq_getElem (by omega)]; rfl
  have e2 : rs.getD (p + 1) (0, []) = rs[p + 1] := by rw [List.getD_eq_getElem?_getD, List.getElem?_eq_getElem h]; rfl
  rw [List.drop_eq_getElem_cons (by omega), List.drop_eq_getElem_cons h, e1, e2]
  rfl
theorem pair_end {rs : List Pk} {p : Nat} (h : ¬ p + 1 < rs.length) : paired (rs.drop p) = [] := by
  by_cases hp : p < rs.length
  · rw [List.drop_eq_getElem_cons hp, List.drop_eq_nil_of_le (by omega)]; rfl
  · rw [List.drop_eq_nil_of_le (by omega)]; rfl
set_option maxHeartbeats 2000000 in
set_option maxRecDepth 100000 in
theorem refPaired_any (a : Option Addr) (la ca : Nat) (rs : List Pk) (w : World) (hr : RdR w a la rs) (hn : la ≤ 2000) (hf : ∀ i, i + 1 < la → (rs.getD i (0, [])).1 + (rs.getD (i + 1) (0, [])).1 ≤ 4611686018427387904 ∧ ∀ s, (rs.getD i (0, [])).2.getD s 0 + (rs.getD (i + 1) (0, [])).2.getD s 0 ≤ 255) :
    Calls Try.prog 36 #[.slice a la ca] w fun e w' => ∃ v, e = .returned v ∧ OwnR w' w.heap.size v (paired rs) ∧ Below w.heap.size w w' := by
  have HA := hide hr
  obtain ⟨d, hu, hd⟩ := uR
  have HU := hide hu
  obtain ⟨Z, HZ, HI, hz⟩ := zeroR
  clear hr hu
  obtain ⟨g, hg⟩ : ∃ g, w.heap.size = g := ⟨_, rfl⟩
  have HG : Hid (w.heap.size = g) := hg
  have HS0 : Hid (OwnR w g (.slice none 0 0) []) := ownP_none _ _ _ _
  have HB0 : Hid (Below g w w) := Below.refl _ _
  rw [hg]
  clear hg
  go_enter Try.func36, Try.ntmps36
  go_wp2_with fail
  have HZL : Hid (Z.length = 257) := by show _ = _; rw [HZ.out]; exact pcells_len _ (List.length_replicate ..)
  have hzn : Z ≠ [] := by rw [HZ.out]; simp [pcells]
  have HTOT : Hid ((paired rs).length ≤ la) := by
    show _ ≤ _
    rw [← HA.out.1]
    have : ∀ (n : Nat) (r : List Pk), r.length ≤ n → (paired r).length ≤ r.length := by
      intro n
      induction n with
      | zero => intro r h; have : r = [] := List.length_eq_zero_iff.1 (by omega); subst this; simp [paired]
      | succ n ih =>
        intro r h
        match r with
        | [] => simp [paired]
        | [x] => simp [paired]
        | x :: y :: r => have := ih r (by simp at h; omega); simp only [paired, List.length_cons]; omega
    exact this _ _ (Nat.le_refl _)
  go_loopw [3, 4] (fun l i wr => ∃ (p : Nat) (X : List Pk), p ≤ la + 1 ∧ i = .int .i64 (p : Int) ∧ Hid (OwnR wr g l X) ∧ Hid (paired rs = X ++ paired (rs.drop p)) ∧ Hid (Below g w wr)) (fun _ i _ => la + 2 - (intOf i).toNat)
  case atStart => exact ⟨0, [], Nat.zero_le _, rfl, HS0, rfl, HB0⟩
  case round =>
    clear HS0 HB0
    obtain ⟨p, X, hpa, rfl, HO, HM, HB⟩ := hrel
    have HXL : Hid (X.length ≤ 2000) := by
      show _ ≤ _
      have h1 := HTOT.out
      rw [HM.out, List.length_append] at h1
      omega
    have HBw : Hid (Below w.heap.size w wr) := by rw [HG.out]; exact HB.out
    have hsz : g ≤ wr.heap.size := by rw [← HG.out]; exact HB.out.size
    by_cases hlt : p + 1 < la
    · have hpi : (p : Int) + 1 < (la : Int) := by omega
      have hpj : (p : Int) < (la : Int) := by omega
      have hla : (la : Int) ≤ 2000 := by omega
      have hp0 : (0 : Int) ≤ (p : Int) + 1 := by omega
      have hp1 : ¬ (p : Int) + 1 < 0 := by omega
      have hpw : IntKind.i64.wrap ((p : Int) + 1) = (p : Int) + 1 := by rw [IntKind.wrap_i64]; omega
      have hpt : ((p : Int) + 1).toNat = p + 1 := by omega
      obtain ⟨b1, o1, rfl, hb1, hc1⟩ := HA.out.2.2 (by omega)
      rw [pair_step (by rw [HA.out.1]; exact hlt)] at HM
      obtain ⟨hf1, hf2⟩ := hf p hlt
      have hb1w : b1 < wr.heap.size := Nat.lt_of_lt_of_le hb1 HBw.out.size
      have HX : Hid (wr.rangeAt b1 (o1 + p * 257) (pcells .i64 (rs.getD p (0, [])))) := range_below (range_one hc1 HA.out.2.1 p (by rw [HA.out.1]; omega)) HBw.out hb1
      have HY : Hid (wr.rangeAt b1 (o1 + (p + 1) * 257) (pcells .i64 (rs.getD (p + 1) (0, [])))) := range_below (range_one hc1 HA.out.2.1 (p + 1) (by rw [HA.out.1]; omega)) HBw.out hb1
      have HLX : Hid ((rs.getD p (0, [])).2.length = 256) := wide_get HA.out.2.1 p (by rw [HA.out.1]; omega)
      have HLY : Hid ((rs.getD (p + 1) (0, [])).2.length = 256) := wide_get HA.out.2.1 (p + 1) (by rw [HA.out.1]; omega)
      generalize rs.getD p (0, []) = x at HM hf1 hf2 HX HLX
      generalize rs.getD (p + 1) (0, []) = y at HM hf1 hf2 HY HLY
      have HT := hide hf2
      have c1 := HX.out 0 _ (pcells_w _ x)
      have c2 := HY.out 0 _ (pcells_w _ y)
      rw [Nat.add_zero] at c1 c2
      obtain ⟨W1, hW1⟩ : ∃ W1, x.1 = W1 := ⟨_, rfl⟩
      obtain ⟨W2, hW2⟩ : ∃ W2, y.1 = W2 := ⟨_, rfl⟩
      rw [hW1] at c1 hf1
      rw [hW2] at c2 hf1
      obtain ⟨S, hS⟩ : ∃ S : Nat, W1 + W2 = S := ⟨_, rfl⟩
      have hSi : IntKind.i64.wrap ((W1 : Int) + (W2 : Int)) = (S : Int) := by rw [IntKind.wrap_i64]; omega
      obtain ⟨E, hE⟩ : ∃ E, pcells .i64 (S, zpack.2) = E := ⟨_, rfl⟩
      have hset : Z.set 0 (.int .i64 (S : Int)) = E := by rw [← hE, HZ.out]; rfl
      have HS0 : Hid ((S, zpack.2) = sumsTo x y 0) := sumsTo_zero x y S (by rw [hW1, hW2, hS])
      have HEL : Hid (E.length = 257) := by show _ = _; rw [← hE]; exact pcells_len _ (List.length_replicate ..)
      have HE1 : Hid (∀ v ∈ E, v.oneCell' = true) := by rw [← hE]; exact pcells_one _ _
      have n1 := World.new_ne wr _ c1
      have n2 := World.new_ne wr _ c2
      have HTH : Hid ((wr.alloc (.cells Z.toArray 68)).drew.there wr.heap.size 0 257) := (World.there_drew _ _ _ _).2 (there_new wr Z _ HZL.out)
      have hst := storeC _ _ _ E 257 HEL.out HTH.out HE1.out
      have HBA : Hid (Below g w ((wr.alloc (.cells Z.toArray 68)).drew)) := (HB.out.alloc hsz _).drew
      have HB5 : Hid (Below g w (((wr.alloc (.cells Z.toArray 68)).drew).setCells wr.heap.size 0 E)) := below_setCells E HBA.out (by rw [← HG.out]; exact HBA.out.size) hsz
      have HP5 : Hid (PBlk 68 .i64 (((wr.alloc (.cells Z.toArray 68)).drew).setCells wr.heap.size 0 E) wr.heap.size (sumsTo x y 0)) := by
        show PBlk _ _ _ _ _
        have e : E = pcells .i64 (sumsTo x y 0) := by rw [← HS0.out, hE]
        rw [e]
        exact pblk_set (cs := Z) (heap_alloc_new wr (.cells Z.toArray 68)) (by rw [HZL.out, ← e, HEL.out])
      have HGR : Hid (wr.grownBy (((wr.alloc (.cells Z.toArray 68)).drew).setCells wr.heap.size 0 E) none) := by
        have h1 := grown_setCells E 0 ((wr.alloc (.cells Z.toArray 68)).drew) (w0 := wr) (b := wr.heap.size) (by
          have h0 := World.grownBy_alloc wr (.cells Z.toArray 68) (some wr.heap.size)
          exact ⟨h0.os, h0.tape, h0.output, h0.size, h0.block⟩)
        exact ⟨h1.os, h1.tape, h1.output, h1.size, fun i hi _ => h1.block i hi (fun e => by have := Option.some.inj e; omega)⟩
      have HO5 : Hid (OwnR (((wr.alloc (.cells Z.toArray 68)).drew).setCells wr.heap.size 0 E) g u3 X) := HO.out.keep HGR.out (fun i _ => by simp)
      have HX5 : Hid ((((wr.alloc (.cells Z.toArray 68)).drew).setCells wr.heap.size 0 E).rangeAt b1 (o1 + p * 257) (pcells .i64 x)) := range_grown HX.out HGR.out (by simp)
      have HY5 : Hid ((((wr.alloc (.cells Z.toArray 68)).drew).setCells wr.heap.size 0 E).rangeAt b1 (o1 + (p + 1) * 257) (pcells .i64 y)) := range_grown HY.out HGR.out (by simp)
      have hs5 := HGR.out.size
      obtain ⟨w5, hw5⟩ : ∃ w5, ((wr.alloc (.cells Z.toArray 68)).drew).setCells wr.heap.size 0 E = w5 := ⟨_, rfl⟩
      rw [hw5] at hst HB5 HP5 HO5 HX5 HY5 hs5
      have k1 := HX5.out 0 _ (pcells_w _ x)
      have k2 := HY5.out 0 _ (pcells_w _ y)
      rw [Nat.add_zero, hW1] at k1
      rw [Nat.add_zero, hW2] at k2
      have HOW := hide HO.out
      clear hE hS hW1 hW2 hf2 hw5 HBA HTH HGR HX HY hc1 HO HB
      go_wp2_with fail
      go_region_held (fun V => V.cell? ⟨b1, o1 + p * 257, none⟩ = some (.int .i64 (W1 : Int)) ∧ V.cell? ⟨b1, o1 + (p + 1) * 257, none⟩ = some (.int .i64 (W2 : Int))) (first | exact ⟨k1, k2⟩ | go_keep) (fail)
      clear hst k1 k2 c1 c2 n1 n2 hset hSi
      have HOB : Hid (∀ i, u3.ownBlock = some i → i < wr.heap.size) := fun i e => (HOW.out.2.lt i e).2
      obtain ⟨gx, hgx⟩ : ∃ gx, wr.heap.size = gx := ⟨_, rfl⟩
      rw [hgx] at HP5 HOB hb1w hsz ⊢
      have HG5 : Hid (w5.grownBy w5 (some gx)) := World.grownBy.refl _ _
      clear hgx HS0 HEL HE1
      go_wp2_with fail
      go_loopw [6] (fun i wz => ∃ k : Nat, k ≤ 256 ∧ i = .int .i64 (k : Int) ∧ Hid (PBlk 68 .i64 wz gx (sumsTo x y k)) ∧ Hid (w5.grownBy wz (some gx))) (fun i _ => 256 - (intOf i).toNat)
      case atStart => exact ⟨0, by omega, rfl, HP5, HG5⟩
      case round =>
        clear HP5 HG5
        obtain ⟨k, hk, rfl, HP, HGZ⟩ := hrel
        by_cases hkt : k < 256
        · have RX := range_grown HX5.out HGZ.out (fun e => by have := Option.some.inj e; omega)
          have RY := range_grown HY5.out HGZ.out (fun e => by have := Option.some.inj e; omega)
          have c1 := RX (1 + k) _ (pcells_t .i64 x k (by rw [HLX.out]; exact hkt))
          have c2 := RY (1 + k) _ (pcells_t .i64 y k (by rw [HLY.out]; exact hkt))
          have hs := HT.out k
          obtain ⟨A, hA⟩ : ∃ A, x.2.getD k 0 = A := ⟨_, rfl⟩
          obtain ⟨B, hB⟩ : ∃ B, y.2.getD k 0 = B := ⟨_, rfl⟩
          obtain ⟨C, hC⟩ : ∃ C, A + B = C := ⟨_, rfl⟩
          have HN := hide (sumsTo_set x y HLX.out HLY.out k hkt C (by rw [hA, hB, hC]))
          rw [hA] at c1 hs
          rw [hB] at c2 hs
          have hw8 : IntKind.i64.wrap ((A : Int) + (B : Int)) = (C : Int) := by rw [IntKind.wrap_i64]; omega
          have hw9 : (A : Int) + (B : Int) = (C : Int) := by omega
          have hC5 : (C : Int) ≤ 255 := by omega
          have HC6 : Hid (wrap64 (C : Int) = (C : Int)) := by show _ = _; unfold wrap64; omega
          rw [← Nat.add_assoc] at c1 c2
          have f3 := HP.out.frozen (1 + k)
          have c3 := HP.out.t k (by rw [sumsTo_len x y HLX.out HLY.out k hk]; exact hkt)
          generalize (sumsTo x y k).2.getD k 0 = D at c3
          have hki : (k : Int) < 256 := by omega
          have HS := hide (HP.out.setT k C)
          rw [HN.out] at HS
          have m1 : gx ≠ b1 := by omega
          clear hA hB hC hs RX RY
          go_wp2_with fail
          go_region_held (fun V => V.cell? ⟨b1, o1 + p * 257 + 1 + k, none⟩ = some (.int .i64 (A : Int)) ∧ V.cell? ⟨b1, o1 + (p + 1) * 257 + 1 + k, none⟩ = some (.int .i64 (B : Int))) (go_keep) (fail)
          go_wp2_with fail
          go_roundw
          case rel => exact ⟨k + 1, by omega, by go_num, HS.out, by have h0 := grown_cell HGZ.out (1 + k) (.int .i64 (C : Int)); exact ⟨h0.os, h0.tape, h0.output, h0.size, h0.block⟩⟩
          case measure => simp [intOf]; omega
        · obtain rfl : k = 256 := by omega
          have HPB : Hid (PBlk 68 .i64 wr gx (both x y)) := by rw [← sumsTo_all x y HLX.out HLY.out]; exact HP.out
          have HRA := hide HPB.out.range
          have HBL : Hid ((both x y).2.length = 256) := both_len x y HLX.out HLY.out
          have HLN : Hid ((pcells .i64 (both x y)).length = 257) := pcells_len _ HBL.out
          have I1 : Hid ((Try.prog.info? 68).map (·.size) = some (pcells .i64 (both x y)).length) := by show _ = _; rw [HLN.out]; exact sizeR
          have HO7 : Hid (OwnR wr g u3 X) := HO5.out.keep HGZ.out (fun i e h => by have := HOB.out i e; have := Option.some.inj h; omega)
          have HB7 : Hid (Below g w wr) := HB5.out.grown HGZ.out (by rw [← HG.out]; exact HB5.out.size) (fun i e => by cases e; exact hsz)
          have hs7 : g ≤ wr.heap.size := by rw [← HG.out]; exact HB7.out.size
          have HM2 : Hid (paired rs = (X ++ [both x y]) ++ paired (rs.drop (p + 2))) := by show _ = _; rw [HM.out, List.append_assoc]; rfl
          obtain ⟨V, hV⟩ : ∃ V, pcells .i64 (both x y) = V := ⟨_, rfl⟩
          have HV := hide hV
          rw [hV] at HRA HLN I1
          have hki : ¬ (256 : Int) < 256 := by omega
          clear hV HPB HP HGZ
          go_wp2_with (first
            | (refine wpList_load_mid rfl 68 (.tmp 5) rfl gx 0 rfl V _ HRA.out HU.out hd I1.out ?_)
            | (refine wpList_buildR rfl (.tmp 51) rfl V HLN.out rfl ?_)
            | (refine joinR _ rfl (.tmp 50) (.tmp 52) rfl g u3 X rfl (HO7.out.below ((Below.refl _ _).alloc (Nat.le_refl _) _)) (some ⟨wr.heap.size, 0, none⟩) 1 1 [both x y] rfl (rdr_new wr (both x y) HBL.out V HV.out) (fun h => by cases h) (by have := HXL.out; omega) (Nat.le_trans hs7 (by simp)) ?_
               intro v9 w9 ho9 hg9))
          have HO9 := hide ho9
          have HB9 : Hid (Below g w w9) := (HB7.out.alloc hs7 _).grown hg9 (Nat.le_trans hs7 (by simp)) (fun i e => (HO7.out.2.lt i e).1)
          clear ho9 hg9
          go_wp2_with fail
          go_roundw
          case rel => exact ⟨p + 2, X ++ [both x y], by omega, by go_num, HO9, HM2, HB9⟩
          case measure => simp [intOf]; omega
    · have hpi : ¬ (p : Int) + 1 < (la : Int) := by omega
      rw [pair_end (by rw [HA.out.1]; exact hlt), List.append_nil] at HM
      have HOF : Hid (OwnR wr g u3 (paired rs)) := by rw [HM.out]; exact HO.out
      have hla : (la : Int) ≤ 2000 := by omega
      have hp2 : (p : Int) ≤ 2001 := by omega
      go_wp2_with fail
      go_ret
      exact ⟨_, rfl, HOF.out, HB.out⟩
end Go.Proofs.Ytalnhhpcncjflaa.Pm
/-
  The document's order of things: symbols from the last to the first, each put behind those that are no heavier.
-/
namespace Go.Proofs.Ytalnhhpcncjflaa.Pm
open Go.Proofs.Ytalnhhpcncjflaa.Base
set_option linter.unusedVariables false
/-- How many at the head are no heavier than symbol i. -/
def lightTo (cs : List Int) (i : Nat) (l : List Nat) : Nat := (l.takeWhile fun s => decide (cs.getD s 0 ≤ cs.getD i 0)).length
def insAt (cs : List Int) (i : Nat) (l : List Nat) : List Nat := l.take (lightTo cs i l) ++ [i] ++ l.drop (lightTo cs i l)
/-- The symbols from k on, of n. -/
def ordFrom (cs : List Int) : Nat → Nat → List Nat
  | 0, _ => []
  | j + 1, k => if cs.getD k 0 = 0 then ordFrom cs j (k + 1) else insAt cs k (ordFrom cs j (k + 1))
theorem take_light (cs : List Int) (i : Nat) (l : List Nat) : l.take (lightTo cs i l) = l.takeWhile fun s => decide (cs.getD s 0 ≤ cs.getD i 0) := by
  unfold lightTo
  induction l with
  | nil => rfl
  | cons x l ih =>
    rw [List.takeWhile_cons]
    split
    · rw [List.length_cons, List.take_succ_cons, ih]
    · rfl
theorem drop_light (cs : List Int) (i : Nat) (l : List Nat) : l.drop (lightTo cs i l) = l.dropWhile fun s => decide (cs.getD s 0 ≤ cs.getD i 0) := by
  unfold lightTo
  induction l with
  | nil => rfl
  | cons x l ih =>
    rw [List.takeWhile_cons, List.dropWhile_cons]
    split
    · rw [List.length_cons, List.drop_succ_cons, ih]
    · rfl
theorem insAt_perm (cs : List Int) (i : Nat) (l : List Nat) : (insAt cs i l).Perm (i :: l) := by
  unfold insAt
  have h : (l.take (lightTo cs i l) ++ [i] ++ l.drop (lightTo cs i l)).Perm ([i] ++ l.take (lightTo cs i l) ++ l.drop (lightTo cs i l)) := List.Perm.append_right _ List.perm_append_comm
  refine h.trans ?_
  rw [List.append_assoc, List.take_append_drop]
  exact List.Perm.refl _
theorem ordFrom_mem (cs : List Int) : ∀ j k s, s ∈ ordFrom cs j k → k ≤ s
  | 0, k, s, h => by simp [ordFrom] at h
  | j + 1, k, s, h => by
    simp only [ordFrom] at h
    split at h
    · have := ordFrom_mem cs j (k + 1) s h; omega
    · have := (insAt_perm cs k _).mem_iff.1 h
      rcases List.mem_cons.1 this with rfl | h2
      · exact Nat.le_refl _
      · have := ordFrom_mem cs j (k + 1) s h2; omega
theorem dropWhile_heavy (cs : List Int) (i : Nat) : ∀ l : List Nat, l.Pairwise (aheadOf cs) → ∀ s ∈ l.dropWhile (fun s => decide (cs.getD s 0 ≤ cs.getD i 0)), cs.getD i 0 < cs.getD s 0
  | [], _, s, h => by simp at h
  | x :: l, hp, s, h => by
    rw [List.dropWhile_cons] at h
    rw [List.pairwise_cons] at hp
    split at h
    · exact dropWhile_heavy cs i l hp.2 s h
    · rename_i hx
      have hx2 : ¬ cs.getD x 0 ≤ cs.getD i 0 := by simpa using hx
      rcases List.mem_cons.1 h with rfl | h2
      · omega
      · rcases hp.1 s h2 with h3 | h3 <;> omega
theorem takeWhile_light (cs : List Int) (i : Nat) : ∀ (l : List Nat) (s : Nat), s ∈ l.takeWhile (fun s => decide (cs.getD s 0 ≤ cs.getD i 0)) → cs.getD s 0 ≤ cs.getD i 0 ∧ s ∈ l
  | [], s, h => by simp at h
  | x :: l, s, h => by
    rw [List.takeWhile_cons] at h
    split at h
    · rename_i hx
      rcases List.mem_cons.1 h with rfl | h2
      · exact ⟨by simpa using hx, List.mem_cons_self ..⟩
      · have := takeWhile_light cs i l s h2
        exact ⟨this.1, List.mem_cons_of_mem _ this.2⟩
    · simp at h
theorem insAt_pair (cs : List Int) (i : Nat) (l : List Nat) (hp : l.Pairwise (aheadOf cs)) (hi : ∀ s ∈ l, i < s) : (insAt cs i l).Pairwise (aheadOf cs) := by
  unfold insAt
  have hh := dropWhile_heavy cs i l hp
  rw [← drop_light] at hh
  have ht := takeWhile_light cs i l
  rw [← take_light] at ht
  have hsp := hp
  rw [← List.take_append_drop (lightTo cs i l) l, List.pairwise_append] at hsp
  rw [List.append_assoc, List.pairwise_append]
  refine ⟨hsp.1, ?_, ?_⟩
  · rw [List.singleton_append, List.pairwise_cons]
    exact ⟨fun s hs => .inl (hh s hs), hsp.2.1⟩
  · intro a ha b hb
    rw [List.singleton_append] at hb
    have h1 := ht a ha
    rcases List.mem_cons.1 hb with rfl | h2
    · have := hi a h1.2
      unfold aheadOf
      omega
    · exact hsp.2.2 a ha b h2
theorem ordFrom_pair (cs : List Int) : ∀ j k, (ordFrom cs j k).Pairwise (aheadOf cs)
  | 0, k => List.Pairwise.nil
  | j + 1, k => by
    simp only [ordFrom]
    split
    · exact ordFrom_pair cs j (k + 1)
    · exact insAt_pair cs k _ (ordFrom_pair cs j (k + 1)) (fun s hs => by have := ordFrom_mem cs j (k + 1) s hs; omega)
theorem ordFrom_perm (cs : List Int) (hc : ∀ s, 0 ≤ cs.getD s 0) : ∀ j k, (ordFrom cs j k).Perm ((List.range' k j).filter fun s => decide (0 < cs.getD s 0))
  | 0, k => by simp [ordFrom]
  | j + 1, k => by
    simp only [ordFrom, List.range'_succ]
    have h0 := hc k
    split
    · rename_i h
      rw [List.filter_cons, if_neg (by rw [decide_eq_true_iff]; omega)]
      exact ordFrom_perm cs hc j (k + 1)
    · rename_i h
      rw [List.filter_cons, if_pos (by rw [decide_eq_true_iff]; omega)]
      exact (insAt_perm cs k _).trans ((ordFrom_perm cs hc j (k + 1)).cons k)
theorem ordFrom_order (cs : List Int) (hc : ∀ s, 0 ≤ cs.getD s 0) : Ordered cs (ordFrom cs cs.length 0) := by
  refine ⟨?_, ordFrom_pair cs _ _⟩
  have := ordFrom_perm cs hc cs.length 0
  unfold symsTo
  rw [List.range_eq_range']
  exact this
end Go.Proofs.Ytalnhhpcncjflaa.Pm
