/-
  newWords: the three rows of any lengths that may be.
-/
import Derived.Test.YthdblnfohbldcaaGreatHuffM1
import Derived.Deep.MidRow
import Derived.Deep.RegionHeld
namespace Go.Proofs.YthdblnfohbldcaaGreat.Huff
open Go.ChangeShapes Go.WideShapes Go.ChangeAt Go.RowKit
open Go.Proofs.YthdblnfohbldcaaGreat.Base
set_option linter.unusedVariables false
theorem ivals_one (xs : List Int) : ∀ v ∈ ivals xs, v.oneCell' = true := by
  intro v hv
  simp only [ivals, List.mem_map] at hv
  obtain ⟨x, _, rfl⟩ := hv
  rfl
theorem row_range {t : TypeId} {w : World} {g : Nat} {xs : List Int} (h : RowI t w g xs) (o n : Nat) (hn : o + n ≤ xs.length) : w.rangeAt g o (ivals ((xs.drop o).take n)) := by
  intro j v hv
  have hj : j < n := by
    have := List.getElem?_eq_some_iff.1 hv
    obtain ⟨h1, _⟩ := this
    rw [length_ivals, List.length_take] at h1
    omega
  rw [h.cell (o + j) (by omega)]
  rw [getD_ivals _ j (by rw [List.length_take, List.length_drop]; omega)] at hv
  rw [← hv, List.getD_eq_getElem?_getD, List.getD_eq_getElem?_getD, List.getElem?_take, if_pos hj, List.getElem?_drop]
theorem row_range0 {t : TypeId} {w : World} {g : Nat} {xs : List Int} (h : RowI t w g xs) : w.rangeAt g 0 (ivals xs) := by
  have := row_range h 0 xs.length (by omega)
  rwa [List.drop_zero, List.take_length] at this
theorem row_there {t : TypeId} {w : World} {g : Nat} {xs : List Int} (h : RowI t w g xs) (o n : Nat) (hn : o + n ≤ xs.length) : w.there g o n := by
  intro j hj
  rw [h.cell (o + j) (by omega)]
  exact ⟨rfl, h.frozen _⟩
theorem setCells_grown {w0 : World} {b : Nat} : ∀ (vs : List Value) (o : Nat) (w : World), w0.grownBy w (some b) → w0.grownBy (w.setCells b o vs) (some b)
  | [], _, _, h => h
  | v :: vs, o, w, h => setCells_grown vs (o + 1) (w.setCell ⟨b, o, none⟩ v) (grown_cell h o v)
/-- A whole row is written over. -/
theorem row_setCells {t : TypeId} {w : World} {g : Nat} : ∀ (ys xs : List Int) (o : Nat), RowI t w g xs → o + ys.length ≤ xs.length → RowI t (w.setCells g o (ivals ys)) g (xs.take o ++ ys ++ xs.drop (o + ys.length)) := by
  intro ys
  induction ys generalizing w with
  | nil => intro xs o h _; simpa [ivals, World.setCells] using h
  | cons y ys ih =>
    intro xs o h hl
    rw [List.length_cons] at hl
    have h1 := ih (xs.set o y) (o + 1) (h.store o y) (by rw [List.length_set]; omega)
    have e : (xs.set o y).take (o + 1) ++ ys ++ (xs.set o y).drop (o + 1 + ys.length) = xs.take o ++ (y :: ys) ++ xs.drop (o + (y :: ys).length) := by
      rw [List.drop_set, if_pos (by omega), List.take_set, List.take_succ_eq_append_getElem (by omega), List.set_append_right _ _ (by rw [List.length_take]; omega), List.length_take, Nat.min_eq_left (by omega), Nat.sub_self, List.set_cons_zero, List.length_cons, show o + (ys.length + 1) = o + 1 + ys.length by omega]
      simp
    rw [e] at h1
    exact h1
theorem row_setAll {t : TypeId} {w : World} {g : Nat} {xs ys : List Int} (h : RowI t w g xs) (hl : ys.length = xs.length) : RowI t (w.setCells g 0 (ivals ys)) g ys := by
  have := row_setCells ys xs 0 h (by omega)
  rw [List.take_zero, List.nil_append, Nat.zero_add, hl, List.drop_length, List.append_nil] at this
  exact this
theorem results_mid2 {P : Program} {fn : Func} {p q : Tmp} {ty : TypeId} (h : fn.results = #[.cell p ty, .tmp q]) (tmps : Array Value) (w : World) (g : Nat) (cs : List Value) (d : TypeDesc) (v : Value)
    (hp : tmps.getD p undef = .pointer (some ⟨g, 0, none⟩)) (hq : tmps.getD q undef = v) (hc : w.rangeAt g 0 cs) (hu : P.underlying ty = some d) (hd : d.isRow = true) (hi : (P.info? ty).map (·.size) = some cs.length) :
    (results fn tmps).run P w = .ok (.tuple #[.agg cs.toArray, v]) w := by
  have hp' : tmps[p]?.getD undef = .pointer (some ⟨g, 0, none⟩) := by simpa using hp
  have hq' : tmps[q]?.getD undef = v := by simpa using hq
  simp [results, h, hp', hq', asAddr, run_loadVar_mid w g 0 ty cs d hc hu hd hi]
theorem info48 : (Tryz.prog.info? 81).map (·.size) = some 48 := by kernel_rfl
def Z48 : Array Value := (ivals (List.replicate 48 0)).toArray
theorem z48 : #[Value.int .i64 0, Value.int .i64 0, Value.int .i64 0, Value.int .i64 0, Value.int .i64 0, Value.int .i64 0, Value.int .i64 0, Value.int .i64 0, Value.int .i64 0, Value.int .i64 0, Value.int .i64 0, Value.int .i64 0, Value.int .i64 0, Value.int .i64 0, Value.int .i64 0, Value.int .i64 0, Value.int .i64 0, Value.int .i64 0, Value.int .i64 0, Value.int .i64 0, Value.int .i64 0, Value.int .i64 0, Value.int .i64 0, Value.int .i64 0, Value.int .i64 0, Value.int .i64 0, Value.int .i64 0, Value.int .i64 0, Value.int .i64 0, Value.int .i64 0, Value.int .i64 0, Value.int .i64 0, Value.int .i64 0, Value.int .i64 0, Value.int .i64 0, Value.int .i64 0, Value.int .i64 0, Value.int .i64 0, Value.int .i64 0, Value.int .i64 0, Value.int .i64 0, Value.int .i64 0, Value.int .i64 0, Value.int .i64 0, Value.int .i64 0, Value.int .i64 0, Value.int .i64 0, Value.int .i64 0] = Z48 := by rfl
set_option maxHeartbeats 1000000 in
set_option maxRecDepth 100000 in
theorem newWords_any (a : Option Addr) (len cap : Nat) (ls : List Int) (w : World) (hr : RdI w a len ls) (hl : len ≤ 256) (hin : allIn 15 ls = true) :
    Calls Tryz.prog 45 #[.slice a len cap] w fun e w' => e = .returned (.tuple #[.agg (ivals (wordsOf ls)).toArray, .bool (right ls)]) ∧ Below w.heap.size w w' := by
  obtain ⟨h1, hm, h3⟩ := hr
  have HL := hide h1
  have HC := hide h3
  have HIN := hide (fun k h => allIn_get hin k h)
  clear h1 h3 hin
  have hli : (len : Int) ≤ 256 := by omega
  have HN : Hid (RowI 81 (w.alloc (.cells Z48 81)) w.heap.size (List.replicate 48 0)) := rowi_new _ _ _
  have HB0 : Hid (Below w.heap.size w (w.alloc (.cells Z48 81))) := (Below.refl _ _).alloc (Nat.le_refl _) _
  go_enter Tryz.func45, Tryz.ntmps45
  go_wp2_with fail
  rw [z48]
  generalize Z48 = Z at HN HB0
  obtain ⟨g, hg⟩ : ∃ g, w.heap.size = g := ⟨_, rfl⟩
  rw [hg] at HN ⊢
  have HG : Hid (w.heap.size = g) := hg
  clear hg
  go_loopw [10] (fun i wr => ∃ (k : Nat) (L : List Int), k ≤ len ∧ i = .int .i64 (k : Int) ∧ Hid (CntAt ls L k) ∧ Hid (RowI 81 wr g L) ∧ Hid (Below w.heap.size w wr)) (fun i _ => len - (intOf i).toNat)
  case atStart => exact ⟨0, _, Nat.zero_le _, rfl, cntAt_zero ls, HN, HB0⟩
  case round =>
    clear HN HB0
    obtain ⟨k, L, hk, rfl, HCA, HR, HB⟩ := hrel
    by_cases hlt : k < len
    · obtain ⟨b1, o1, rfl, hb1, hc1⟩ := unhide HC (by omega)
      have g1 := hc1 k hlt
      have hx := HIN.out k (by have := HL.out; omega)
      rw [← HB.out.cell (p := ⟨b1, o1 + k, none⟩) hb1] at g1
      clear hc1
      have hki : (k : Int) < (len : Int) := by omega
      obtain ⟨x, hxe⟩ : ∃ x, ls.getD k 0 = x := ⟨_, rfl⟩
      rw [hxe] at g1 hx
      by_cases hp : 0 < x
      · obtain ⟨q, hq⟩ : ∃ q : Nat, x = (q : Int) := ⟨x.toNat, by omega⟩
        subst hq
        have HCI := hide (cntAt_inc HCA.out hxe (by omega) (by omega))
        have g2 := HR.out.cell q (by rw [HCA.out.1]; omega)
        rw [HCA.out.2.1 q (by omega)] at g2
        have hcl := cntW_le ls k q
        generalize cntW ls k q = c at g2 hcl HCI
        have hci : (c : Int) ≤ 256 := by omega
        have f2 := HR.out.frozen q
        have hq1 : (q : Int) < 16 := by omega
        have hq0 : 0 < (q : Int) := hp
        have HX := hide hxe
        clear hxe hx hp
        go_wp2_with fail
        go_roundw
        case rel => exact ⟨k + 1, _, by omega, by go_num, HCI, HR.out.store q _, HB.out.setCell (Nat.le_of_eq HG.out) _⟩
        case measure => simp [intOf]; omega
      · obtain rfl : x = 0 := by omega
        have HCI := hide (cntAt_skip HCA.out hxe)
        clear hxe hx hp
        go_wp2_with fail
        go_roundw
        case rel => exact ⟨k + 1, L, by omega, by go_num, HCI, HR, HB⟩
        case measure => simp [intOf]; omega
    · obtain rfl : k = len := by omega
      have HF1 : Hid (FstAt ls L 1) := fstAt_one (by rw [HL.out]; exact HCA.out)
      clear HCA hlt
      go_wp2_with fail
      go_loopw [6] (fun i wz => ∃ (m l : Nat) (L : List Int), m ≤ 16 ∧ Hid (m = l + 1) ∧ i = .int .i64 (m : Int) ∧ Hid (FstAt ls L (l + 1)) ∧ Hid (RowI 81 wz g L) ∧ Hid (Below w.heap.size w wz)) (fun i _ => 16 - (intOf i).toNat)
      case atStart => exact ⟨1, 0, L, by omega, rfl, rfl, HF1, HR, HB⟩
      case round =>
        clear HR HB HF1
        obtain ⟨m, l, L, hl1, HML, rfl, HF, HR, HB⟩ := hrel
        by_cases hlt : m < 16
        · have hlm : l + 1 = m := HML.out.symm
          have HNX := hide (fstAt_next HF.out (by omega))
          have g1 := HR.out.cell (16 + l) (by rw [HF.out.1]; omega)
          have g2 := HR.out.cell (32 + l) (by rw [HF.out.1]; omega)
          have g3 := HR.out.cell l (by rw [HF.out.1]; omega)
          have g4 := HR.out.cell (16 + m) (by rw [HF.out.1]; omega)
          have g5 := HR.out.cell (32 + m) (by rw [HF.out.1]; omega)
          have f4 := HR.out.frozen (16 + m)
          have f5 := HR.out.frozen (32 + m)
          rw [(HF.out.2.2 l (by omega)).1] at g1
          rw [(HF.out.2.2 l (by omega)).2] at g2
          rw [HF.out.2.1 l (by omega)] at g3
          generalize L.getD (16 + m) 0 = X4 at g4
          generalize L.getD (32 + m) 0 = X5 at g5
          have b1 := first_le ls (by rw [HL.out]; exact hl) l
          have b2 := ahead_le ls (by rw [HL.out]; exact hl) l
          have b3 := cntW_le ls ls.length l
          have b4 : 512 * 2 ^ l ≤ 512 * 2 ^ 15 := Nat.mul_le_mul_left _ (Nat.pow_le_pow_right (by decide) (by omega))
          have Q1 : first ls (l + 1) = 2 * (first ls l + cntW ls ls.length l) := rfl
          have Q2 : ahead ls (l + 1) = ahead ls l + cntW ls ls.length l := rfl
          rw [HL.out] at b3 g3 Q1 Q2
          rw [hlm] at HNX Q1 Q2
          generalize first ls m = F2 at HNX Q1
          generalize ahead ls m = A2 at HNX Q2
          generalize first ls l = F at g1 b1 Q1
          generalize ahead ls l = A at g2 b2 Q2
          generalize cntW ls k l = C at g3 b3 Q1 Q2
          obtain ⟨T, hT⟩ : ∃ T : Nat, T = F + C := ⟨_, rfl⟩
          have w0 : IntKind.i64.wrap ((m : Int) - 1) = (l : Int) := by rw [IntKind.wrap_i64]; omega
          have w1 : IntKind.i64.wrap ((F : Int) + (C : Int)) = (T : Int) := by rw [IntKind.wrap_i64]; omega
          have w2 : IntKind.i64.wrap (2 * (T : Int)) = (F2 : Int) := by rw [IntKind.wrap_i64]; omega
          have w3 : IntKind.i64.wrap ((A : Int) + (C : Int)) = (A2 : Int) := by rw [IntKind.wrap_i64]; omega
          have hmi : (m : Int) < 16 := by omega
          have hli2 : (l : Int) < 16 := by omega
          have w00 : IntKind.i64.wrap (l : Int) = (l : Int) := by rw [IntKind.wrap_i64]; omega
          have hln : l < 16 := by omega
          have hmn : m < 16 := by omega
          have hd1 : decide ((l : Int) < 16) = true := by rw [decide_eq_true_iff]; exact hli2
          have hd2 : decide ((m : Int) < 16) = true := by rw [decide_eq_true_iff]; exact hmi
          have hd3 : decide ((l : Int) < 0) = false := by rw [decide_eq_false_iff_not]; omega
          have hd4 : decide ((m : Int) < 0) = false := by rw [decide_eq_false_iff_not]; omega
          have hne1 : l ≠ m := by omega
          have hne2 : l ≠ 16 + m := by omega
          have hne3 : 32 + l ≠ 16 + m := by omega
          have HHLM := hide hlm
          have HR1 := hide (HR.out.store (16 + m) (F2 : Int))
          have HL1 : Hid ((L.set (16 + m) (F2 : Int)).length = 48) := by show _ = _; rw [List.length_set]; exact HF.out.1
          have c1 := HR1.out.cell (16 + l) (by rw [HL1.out]; omega)
          have c2 := HR1.out.cell (32 + l) (by rw [HL1.out]; omega)
          have c3 := HR1.out.cell l (by rw [HL1.out]; omega)
          have c5 := HR1.out.cell (32 + m) (by rw [HL1.out]; omega)
          have f6 := HR1.out.frozen (32 + m)
          rw [getD_set _ _ _ _ (by rw [HF.out.1]; omega), if_neg (by omega)] at c1 c2 c3 c5
          have e1 := HR.out.cell (16 + l) (by rw [HF.out.1]; omega)
          have e2 := HR.out.cell (32 + l) (by rw [HF.out.1]; omega)
          have e3 := HR.out.cell l (by rw [HF.out.1]; omega)
          have e5 := HR.out.cell (32 + m) (by rw [HF.out.1]; omega)
          rw [← e1, g1] at c1
          rw [← e2, g2] at c2
          rw [← e3, g3] at c3
          rw [← e5, g5] at c5
          have HR2 := hide (HR1.out.store (32 + m) (A2 : Int))
          have HL2 : Hid (((L.set (16 + m) (F2 : Int)).set (32 + m) (A2 : Int)).length = 48) := by show _ = _; rw [List.length_set, List.length_set]; exact HF.out.1
          have c6 := HR2.out.cell (32 + l) (by rw [HL2.out]; omega)
          have c7 := HR2.out.cell l (by rw [HL2.out]; omega)
          rw [getD_set _ _ _ _ (by rw [HL1.out]; omega), if_neg (by omega), getD_set _ _ _ _ (by rw [HF.out.1]; omega), if_neg (by omega)] at c6 c7
          rw [← e2, g2] at c6
          rw [← e3, g3] at c7
          clear b1 b2 b3 b4 Q1 Q2 hT hlm hlt e1 e2 e3 e5
          go_wp2_with fail
          go_region_held (fun V => V.cell? ⟨g, 16 + l, none⟩ = some (.int .i64 (F : Int)) ∧ V.cell? ⟨g, l, none⟩ = some (.int .i64 (C : Int))) (first | go_keep | exact ⟨c1, c3⟩) (fail)
          go_wp2_with fail
          go_region_held (fun V => V.cell? ⟨g, 32 + l, none⟩ = some (.int .i64 (A : Int)) ∧ V.cell? ⟨g, l, none⟩ = some (.int .i64 (C : Int))) (first | go_keep | exact ⟨c6, c7⟩ | exact ⟨c2, c3⟩) (fail)
          have HD : Hid (RowI 81 ((wr.setCell ⟨g, 16 + m, none⟩ (.int .i64 (F2 : Int))).setCell ⟨g, 32 + m, none⟩ (.int .i64 (A2 : Int))).drew.drew g ((L.set (16 + m) (F2 : Int)).set (32 + m) (A2 : Int))) := (HR2.out.below (Below.refl _ _).drew).below (Below.refl _ _).drew
          have HBD : Hid (Below w.heap.size w ((wr.setCell ⟨g, 16 + m, none⟩ (.int .i64 (F2 : Int))).setCell ⟨g, 32 + m, none⟩ (.int .i64 (A2 : Int))).drew.drew) := ((HB.out.setCell (Nat.le_of_eq HG.out) _).setCell (Nat.le_of_eq HG.out) _).drew.drew
          have HFN : Hid (FstAt ls ((L.set (16 + m) (F2 : Int)).set (32 + m) (A2 : Int)) (m + 1)) := by
            have h := HNX.out
            rw [show l + 2 = m + 1 by have := HHLM.out; omega] at h
            exact h
          have hm15 : m ≤ 15 := by omega
          go_wp2_with fail
          go_roundw
          case rel => exact ⟨m + 1, m, _, by omega, rfl, by go_num, HFN, HD, HBD⟩
          case measure => simp [intOf]; omega
        · obtain rfl : m = 16 := by omega
          have HFW : Hid (L = wordsOf ls) := fstAt_all (by have := HML.out; have h := HF.out; rw [show l + 1 = 16 by omega] at h; exact h)
          have g1 := HR.out.cell 31 (by rw [HF.out.1]; omega)
          have g2 := HR.out.cell 15 (by rw [HF.out.1]; omega)
          rw [HFW.out, show (31 : Nat) = 16 + 15 by rfl, wordsOf_first ls 15 (by omega)] at g1
          rw [HFW.out, wordsOf_count ls 15 (by omega)] at g2
          have b1 := first_le ls (by rw [HL.out]; exact hl) 15
          have b3 := cntW_le ls ls.length 15
          rw [HL.out] at b3
          have HRT : Hid (right ls = decide (first ls 15 + cntW ls ls.length 15 ≤ 32768)) := rfl
          rw [HL.out] at g2 HRT
          generalize first ls 15 = F at g1 b1 HRT
          generalize cntW ls k 15 = C at g2 b3 HRT
          obtain ⟨T, hT⟩ : ∃ T : Nat, T = F + C := ⟨_, rfl⟩
          rw [← hT] at HRT
          have b4 : (F : Int) ≤ 16777216 := by omega
          have b5 : (C : Int) ≤ 256 := by omega
          have b6 : (F : Int) + (C : Int) = (T : Int) := by omega
          have HRR : Hid (decide ((T : Int) ≤ 32768) = right ls) := by
            show _ = _
            rw [HRT.out]
            exact decide_eq_decide.2 (by omega)
          have u8 := Tryz.underlying81
          rw [HFW.out] at HR
          have HRG := hide (row_range0 HR.out)
          have HLW := hide (wordsOf_len ls)
          have HLI : Hid ((ivals (wordsOf ls)).length = 48) := by show _ = _; rw [length_ivals]; exact HLW.out
          have HONE := hide (ivals_one (wordsOf ls))
          have HTH := hide (row_there HR.out 0 48 (by rw [HLW.out]; omega))
          have HRS := hide (row_setAll HR.out (ys := wordsOf ls) rfl)
          have HRG2 := hide (row_range0 HRS.out)
          have HGB : Hid (Below w.heap.size w (wr.setCells g 0 (ivals (wordsOf ls)))) := HB.out.grown (setCells_grown _ _ _ (World.grownBy.refl _ _)) HB.out.size (fun i e => by have h := Option.some.inj e; have := HG.out; omega)
          obtain ⟨V, hV⟩ : ∃ V, ivals (wordsOf ls) = V := ⟨_, rfl⟩
          rw [hV] at HRG HLI HONE HRS HRG2 HGB
          have HVE := hide hV
          clear hV
          have I1 : Hid ((Tryz.prog.info? 81).map (·.size) = some V.length) := by show _ = _; rw [HLI.out]; exact info48
          have I2 : Hid ((Tryz.prog.info? 81).map (·.size) = some V.toArray.size) := by show _ = _; rw [List.size_toArray, HLI.out]; exact info48
          have HTH2 : Hid (wr.there g 0 V.toArray.size) := by show World.there _ _ _ _; rw [List.size_toArray, HLI.out]; exact HTH.out
          clear b1 b3 hT HRT HTH HRS
          go_wp2_with (first
            | (refine wpList_load_mid rfl 81 (.tmp 2) rfl g 0 rfl V _ HRG.out u8 rfl I1.out ?_)
            | (refine wpList_store_mid rfl 81 (.tmp 2) (.tmp 64) rfl g 0 V.toArray rfl rfl HTH2.out I2.out (all_oneCell_toArray HONE.out) ?_))
          refine bodyPost_ret (v := .tuple #[.agg V.toArray, .bool (decide ((T : Int) ≤ 32768))]) (results_mid2 Tryz.results45 _ _ g V _ _ (by rfl) (by rfl) HRG2.out u8 rfl I1.out) (by rfl) ⟨?_, HGB.out⟩
          rw [HVE.out, HRR.out]
end Go.Proofs.YthdblnfohbldcaaGreat.Huff
