/-
  slices.Equal of two rows of packages.
-/
import Derived.Test.YthdblnfohbldcaaGreatHuffQ4
import Derived.Laws.StructEq
namespace Go.Proofs.YthdblnfohbldcaaGreat.Pm
open Go.ChangeShapes Go.WideShapes Go.ChangeAt Go.RowKit
open Go.Proofs.YthdblnfohbldcaaGreat.Base
set_option linter.unusedVariables false
theorem all_range_nat : ∀ (xs ys : List Nat), xs.length = ys.length → ((List.range xs.length).all fun i => xs.getD i 0 == ys.getD i 0) = (xs == ys)
  | [], [], _ => rfl
  | x :: xs, y :: ys, h => by
    have ih := all_range_nat xs ys (by simpa using h)
    rw [List.length_cons, List.range_succ_eq_map, List.all_cons, List.all_map]
    simp only [List.getD_cons_zero, Function.comp_def, List.getD_cons_succ, ih]
    simp [List.cons_beq_cons]
  | [], _ :: _, h => by simp at h
  | _ :: _, [], h => by simp at h
def c8 (t : Nat) : Value := .int .u8 (t : Int)
theorem equal_nats {P : Program} (w : World) (d : Nat) (t e : TypeId) (n : Nat) (ht : P.underlying t = some (.array n e)) (he : P.underlying e = some (.int .u8)) (hsz : ∀ w, (sizeOf e).run P w = .ok 1 w)
    (xs ys : List Nat) (hx : xs.length = n) (hy : ys.length = n) :
    (Op.equalIn (d + 2) t (.agg (xs.map c8).toArray) (.agg (ys.map c8).toArray)).run P w = .ok (xs == ys) w := by
  rw [← all_range_nat xs ys (hx.trans hy.symm), hx, List.range_eq_range', Op.equalIn]
  simp only [Sem.run_bind, run_underlying ht, Result.andThen_ok, hsz, Std.Legacy.Range.forIn_eq_forIn_range', Std.Legacy.Range.size, Nat.sub_zero, Nat.add_sub_cancel, Nat.div_one]
  have hl : ∀ i ∈ List.range' 0 n 1, i < n := fun i hi => by simpa using (List.mem_range'_1.1 hi).2
  generalize List.range' 0 n 1 = l at hl ⊢
  induction l with
  | nil => simp
  | cons i l ih =>
    have hi : i < n := hl i (by simp)
    have px : (part e (xs.map c8).toArray (i * 1)).run P w = .ok (c8 (xs.getD i 0)) w := by
      simp [part, isAgg, run_underlying he, List.getD, List.getElem?_eq_getElem (show i < xs.length by omega)]
    have py : (part e (ys.map c8).toArray (i * 1)).run P w = .ok (c8 (ys.getD i 0)) w := by
      simp [part, isAgg, run_underlying he, List.getD, List.getElem?_eq_getElem (show i < ys.length by omega)]
    have pe : (Op.equalIn (d + 1) e (c8 (xs.getD i 0)) (c8 (ys.getD i 0))).run P w = .ok (xs.getD i 0 == ys.getD i 0) w := by
      rw [c8, c8, run_equalIn_int w d e .u8 .u8 _ _ he]
      congr 1
      rw [Bool.eq_iff_iff]
      simp only [beq_iff_eq]
      omega
    simp only [List.forIn_cons, Sem.run_bind, px, py, pe, Result.andThen_ok, List.all_cons]
    cases hb : (xs.getD i 0 == ys.getD i 0)
    · simp
    · simp only [Bool.not_true, Bool.false_eq_true, if_false, Sem.run_pure, Result.andThen_ok, Bool.true_and]
      exact ih fun j hj => hl j (by simp [hj])
theorem extract_t (p : Pk) (h : p.2.length = 256) : (pcells .u8 p).toArray.extract 1 257 = (p.2.map c8).toArray := by
  rw [pcells]
  simp only [List.extract_toArray, List.extract, List.drop_succ_cons, List.drop_zero]
  rw [List.take_of_length_le (by simp [h])]
  rfl
set_option maxRecDepth 100000 in
theorem neq_pack (x y : Pk) (hx : x.2.length = 256) (hy : y.2.length = 256) : ∀ W, (binOp .neq 161 (.agg (pcells .u8 x).toArray) (.agg (pcells .u8 y).toArray)).run Tryz.prog W = .ok (.bool (!decide (x = y))) W := by
  intro W
  have ex := extract_t x hx
  have ey := extract_t y hy
  have e1 := fun w d => equal_nats (P := Tryz.prog) w d 159 5 256 Tryz.underlying159 Tryz.underlying5 Tryz.sizeOf5 x.2 y.2 hx hy
  have g1 : (pcells .u8 x).toArray[0]? = some (.int .i64 (x.1 : Int)) := rfl
  have g2 : (pcells .u8 y).toArray[0]? = some (.int .i64 (y.1 : Int)) := rfl
  have he : decide (x = y) = ((x.1 == y.1) && (x.2 == y.2)) := by
    rw [Bool.eq_iff_iff]
    simp [Prod.ext_iff]
  have hb : (((x.1 : Nat) : Int) == ((y.1 : Nat) : Int)) = (x.1 == y.1) := by
    rw [Bool.eq_iff_iff]; simp only [beq_iff_eq]; omega
  generalize (pcells .u8 x).toArray = A at *
  generalize (pcells .u8 y).toArray = B at *
  rw [he]
  rw [run_neq_struct, show (10000 : Nat) = 9999 + 1 from rfl, run_equalIn_agg _ _ _ _ _ (by kernel_rfl) (by kernel_rfl)]
  have q1 := fun w => run_equalIn_int (P := Tryz.prog) w 9998 2 .i64 .i64 (x.1 : Int) (y.1 : Int) Tryz.underlying2
  simp only [Program.fieldsOf, Tryz.underlying161]
  simp [Op.eqFields, part, Sem.run_bind, g1, g2, ex, ey, q1, hb, e1 W 9997, Tryz.isAgg2, Tryz.isAgg159, Tryz.sizeOf159]
  by_cases h1 : x.1 = y.1 <;> by_cases h2 : x.2 = y.2 <;> simp [h1, h2]
theorem wpQuiet_loadP {ops : Array Oper} {C : World → Prop} {Q : Act → Prop} {a : Act} {o : Oper} {rest : List Oper} (hg : o.guard = none) (x : Operand) (ho : o.op = .load 161 x) (b off : Nat) (hx : a.eval x = .pointer (some ⟨b, off, none⟩)) (V : List Value)
    (hr : ∀ w, C w → (Instr.loadAt 161 (.pointer (some ⟨b, off, none⟩))).run Tryz.prog w = .ok (.agg V.toArray) w) (h : wpQuiet Tryz.prog ops C Q rest (a.put o.dst (.agg V.toArray))) : wpQuiet Tryz.prog ops C Q (o :: rest) a :=
  BigFrame.wpQuiet_want (by simp [Region.wanted, hg]) fun K hK => ⟨.agg V.toArray, fun w hC => by
    have e : (execOp a.eval o).run Tryz.prog w = .ok (.value (.agg V.toArray)) w := by simp [execOp, ho, hx, hr w hC]
    unfold Oper.quietAt
    rw [e]
    exact ⟨rfl, rfl⟩, hK _ h⟩
theorem wpQuiet_neqP {ops : Array Oper} {C : World → Prop} {Q : Act → Prop} {a : Act} {o : Oper} {rest : List Oper} (hg : o.guard = none) (x y : Operand) (ho : o.op = .binOp .neq 161 x y 161) (A B : Array Value) (hx : a.eval x = .agg A) (hy : a.eval y = .agg B) (r : Bool)
    (hr : ∀ w, (binOp .neq 161 (.agg A) (.agg B)).run Tryz.prog w = .ok (.bool r) w) (h : wpQuiet Tryz.prog ops C Q rest (a.put o.dst (.bool r))) : wpQuiet Tryz.prog ops C Q (o :: rest) a :=
  BigFrame.wpQuiet_want (by simp [Region.wanted, hg]) fun K hK => ⟨.bool r, fun w hC => by
    have e : (execOp a.eval o).run Tryz.prog w = .ok (.value (.bool r)) w := by
      have hm : Tryz.prog.eqGuardType Tryz.prog.depth 161 = false := by kernel_rfl
      simp [execOp, ho, hx, hy, hr w, run_eqGuard_agg, hm]
    unfold Oper.quietAt
    rw [e]
    exact ⟨rfl, rfl⟩, hK _ h⟩
theorem drewN_range {w : World} {b o : Nat} {cs : List Value} (h : w.rangeAt b o cs) (n : Nat) : (w.drewN n).rangeAt b o cs := fun j v hv => h j v hv
theorem drewN_more {w wr : World} (h : ∃ m, wr = w.drewN m) (n : Nat) : ∃ m, wr.drewN n = w.drewN m := by
  obtain ⟨m, rfl⟩ := h
  exact ⟨m + n, by simp [World.drewN, Nat.add_assoc]⟩
theorem take_same {ps qs : List Pk} {k : Nat} (h1 : k < ps.length) (h2 : k < qs.length) (h : ps.take k = qs.take k) (e : ps.getD k (0, []) = qs.getD k (0, [])) : ps.take (k + 1) = qs.take (k + 1) := by
  rw [List.take_succ_eq_append_getElem h1, List.take_succ_eq_append_getElem h2, h]
  rw [List.getD_eq_getElem?_getD, List.getElem?_eq_getElem h1, List.getD_eq_getElem?_getD, List.getElem?_eq_getElem h2] at e
  simp only [Option.getD_some] at e
  rw [e]
set_option maxHeartbeats 2000000 in
set_option maxRecDepth 100000 in
theorem equal_any (a b : Option Addr) (la ca lb cb : Nat) (ps qs : List Pk) (w : World) (hr : RdP .u8 w a la ps) (hq : RdP .u8 w b lb qs) (hn : la ≤ 65536) :
    Calls Tryz.prog 139 #[.slice a la ca, .slice b lb cb] w fun e w' => e = .returned (.bool (decide (ps = qs))) ∧ ∃ n, w' = w.drewN n := by
  have HLP := hide hr.1
  have HLQ := hide hq.1
  have HWP := hide hr.2.1
  have HWQ := hide hq.2.1
  have HCP := hide hr.2.2
  have HCQ := hide hq.2.2
  clear hr hq
  by_cases hll : la = lb
  · subst hll
    obtain ⟨d, hu, hd⟩ := uP
    have HU := hide hu
    clear hu
    go_enter Tryz.func139, Tryz.ntmps139
    go_wp2_with fail
    go_loopw [13] (fun i wr => ∃ k : Nat, k ≤ la ∧ i = .int .i64 (k : Int) ∧ Hid (∃ m, wr = w.drewN m) ∧ Hid (ps.take k = qs.take k)) (fun i _ => la - (intOf i).toNat)
    case atStart => exact ⟨0, Nat.zero_le _, rfl, ⟨0, rfl⟩, by show ps.take 0 = qs.take 0; rw [List.take_zero, List.take_zero]⟩
    case round =>
      obtain ⟨k, hk, rfl, HD, HE⟩ := hrel
      by_cases hlt : k < la
      · obtain ⟨b1, o1, rfl, hb1, hc1⟩ := HCP.out (by omega)
        obtain ⟨b2, o2, rfl, hb2, hc2⟩ := HCQ.out (by omega)
        have R1 : Hid (wr.rangeAt b1 (o1 + k * 257) (pcells .u8 (ps.getD k (0, [])))) := by obtain ⟨m, hm⟩ := HD.out; rw [hm]; exact drewN_range (range_one hc1 HWP.out k (by rw [HLP.out]; exact hlt)) m
        have R2 : Hid (wr.rangeAt b2 (o2 + k * 257) (pcells .u8 (qs.getD k (0, [])))) := by obtain ⟨m, hm⟩ := HD.out; rw [hm]; exact drewN_range (range_one hc2 HWQ.out k (by rw [HLQ.out]; exact hlt)) m
        have HX := hide (wide_get HWP.out k (by rw [HLP.out]; exact hlt))
        have HY := hide (wide_get HWQ.out k (by rw [HLQ.out]; exact hlt))
        have hne := neq_pack _ _ HX.out HY.out
        have hki : (k : Int) < (la : Int) := by omega
        have l1 : ∀ n, (Instr.loadAt 161 (.pointer (some ⟨b1, o1 + k * 257, none⟩))).run Tryz.prog (wr.drewN n) = .ok (.agg (pcells .u8 (ps.getD k (0, []))).toArray) (wr.drewN n) := fun n =>
          run_loadAt_mid (P := Tryz.prog) _ b1 _ 161 _ d (drewN_range R1.out n) HU.out hd (by rw [pcells_len _ HX.out]; exact sizeP)
        have l2 : ∀ n, (Instr.loadAt 161 (.pointer (some ⟨b2, o2 + k * 257, none⟩))).run Tryz.prog (wr.drewN n) = .ok (.agg (pcells .u8 (qs.getD k (0, []))).toArray) (wr.drewN n) := fun n =>
          run_loadAt_mid (P := Tryz.prog) _ b2 _ 161 _ d (drewN_range R2.out n) HU.out hd (by rw [pcells_len _ HY.out]; exact sizeP)
        have HTS := hide (fun e => take_same (ps := ps) (qs := qs) (k := k) (by rw [HLP.out]; exact hlt) (by rw [HLQ.out]; exact hlt) HE.out e)
        have HNE : Hid (ps.getD k (0, []) ≠ qs.getD k (0, []) → ps ≠ qs) := fun h e => h (by rw [e])
        generalize ps.getD k (0, []) = x at hne l1 HTS HNE R1 HX
        generalize qs.getD k (0, []) = y at hne l2 HTS HNE R2 HY
        generalize pcells .u8 x = V1 at hne l1 R1
        generalize pcells .u8 y = V2 at hne l2 R2
        clear hc1 hc2 R1 R2
        by_cases hxy : x = y
        · rw [decide_eq_true hxy, Bool.not_true] at hne
          have HE2 := hide (HTS.out hxy)
          clear hxy
          go_wp2_with fail
          refine wp_region_quiet_lit (by kernel_rfl) (by kernel_rfl) ?_
          go_big_quiet_step (fail)
          go_big_quiet_step (fail)
          go_big_quiet_step (fail)
          refine wpQuiet_loadP rfl (.tmp 18) rfl b1 (o1 + k * 257) rfl V1 (fun w' h => by obtain ⟨n, rfl⟩ := h; exact l1 n) ?_
          simp only [Act.put, List.setIfInBounds_toArray, List.set_cons_zero, List.set_cons_succ]
          go_big_quiet_step (fail)
          go_big_quiet_step (fail)
          go_big_quiet_step (fail)
          refine wpQuiet_loadP rfl (.tmp 22) rfl b2 (o2 + k * 257) rfl V2 (fun w' h => by obtain ⟨n, rfl⟩ := h; exact l2 n) ?_
          simp only [Act.put, List.setIfInBounds_toArray, List.set_cons_zero, List.set_cons_succ]
          refine wpQuiet_neqP rfl (.tmp 19) (.tmp 23) rfl V1.toArray V2.toArray rfl rfl _ hne ?_
          simp only [Act.put, List.setIfInBounds_toArray, List.set_cons_zero, List.set_cons_succ]
          refine wpQuiet_nil ?_
          intro _ hw'
          obtain ⟨nq, hw''⟩ := hw'
          subst hw''
          go_wp2_with fail
          go_roundw
          case rel => exact ⟨k + 1, by omega, by go_num, drewN_more HD.out nq, HE2⟩
          case measure => simp [intOf]; omega
        · rw [decide_eq_false hxy, Bool.not_false] at hne
          have HF := hide (HNE.out hxy)
          clear hxy
          go_wp2_with fail
          refine wp_region_quiet_lit (by kernel_rfl) (by kernel_rfl) ?_
          go_big_quiet_step (fail)
          go_big_quiet_step (fail)
          go_big_quiet_step (fail)
          refine wpQuiet_loadP rfl (.tmp 18) rfl b1 (o1 + k * 257) rfl V1 (fun w' h => by obtain ⟨n, rfl⟩ := h; exact l1 n) ?_
          simp only [Act.put, List.setIfInBounds_toArray, List.set_cons_zero, List.set_cons_succ]
          go_big_quiet_step (fail)
          go_big_quiet_step (fail)
          go_big_quiet_step (fail)
          refine wpQuiet_loadP rfl (.tmp 22) rfl b2 (o2 + k * 257) rfl V2 (fun w' h => by obtain ⟨n, rfl⟩ := h; exact l2 n) ?_
          simp only [Act.put, List.setIfInBounds_toArray, List.set_cons_zero, List.set_cons_succ]
          refine wpQuiet_neqP rfl (.tmp 19) (.tmp 23) rfl V1.toArray V2.toArray rfl rfl _ hne ?_
          simp only [Act.put, List.setIfInBounds_toArray, List.set_cons_zero, List.set_cons_succ]
          refine wpQuiet_nil ?_
          intro _ hw'
          obtain ⟨nq, hw''⟩ := hw'
          subst hw''
          go_wp2_with fail
          go_ret
          exact ⟨ret_bool (decide_eq_false HF.out).symm, drewN_more HD.out nq⟩
      · obtain rfl : k = la := by omega
        have HEQ : Hid (ps = qs) := by
          have := HE.out
          rw [List.take_of_length_le (by rw [HLP.out]; exact Nat.le_refl _), List.take_of_length_le (by rw [HLQ.out]; exact Nat.le_refl _)] at this
          exact this
        go_wp2_with fail
        go_ret
        exact ⟨ret_bool (decide_eq_true HEQ.out).symm, HD.out⟩
  · have HF : Hid (ps ≠ qs) := fun e => hll (by rw [← HLP.out, ← HLQ.out, e])
    have hb : (((la : Nat) : Int) != ((lb : Nat) : Int)) = true := by rw [bne_iff_ne]; omega
    have hb2 : (la != lb) = true := by rw [bne_iff_ne]; exact hll
    go_enter Tryz.func139, Tryz.ntmps139
    go_wp2_with fail
    go_ret
    exact ⟨ret_bool (decide_eq_false HF.out).symm, 0, rfl⟩
end Go.Proofs.YthdblnfohbldcaaGreat.Pm
