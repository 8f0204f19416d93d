/-
  putLengths: the walk.
-/
import Derived.Test.YthdblnfohbldcaaGreatHuffE1
import Derived.WalkArith
namespace Go.Proofs.YthdblnfohbldcaaGreat.Huff
open Go.ChangeShapes Go.WideShapes Go.ChangeAt Go.RowKit
open Go.Proofs.YthdblnfohbldcaaGreat.Base
set_option linter.unusedVariables false
def slenE : Value → Nat | .slice _ l _ => l | _ => 0
theorem pairs_len : ∀ (f : Nat) (ls : List Int), ls.length ≤ 1000 → (pairsGo f ls).length ≤ 10 * ls.length
  | 0, ls, _ => by simp [pairsGo]
  | f + 1, ls, h => by
    simp only [pairsGo]
    by_cases e : ls = []
    · rw [if_pos e]; simp
    · rw [if_neg e]
      have h1 := runOf_pos e
      have h2 := (Nums.put_nine (runOf ls) (by omega)).2
      have h3 := pairs_len f (ls.drop (runOf ls)) (by rw [List.length_drop]; omega)
      rw [List.length_drop] at h3
      simp only [List.length_append, List.length_singleton]
      omega
theorem drewN_moreE {w wr : World} (h : ∃ m, wr = w.drewN m) (n : Nat) : ∃ m, wr.drewN n = w.drewN m := by
  obtain ⟨m, rfl⟩ := h
  exact ⟨m + n, by simp [World.drewN, Nat.add_assoc]⟩
theorem b8_of (x : Int) (h0 : 0 ≤ x) (h1 : x ≤ 15) : ((BitVec.ofNat 8 x.toNat).toNat : Int) = x := by
  rw [BitVec.toNat_ofNat]; omega
theorem trim_nil (ls : List Int) : trimmed (ls.take 0) = ls.take 0 := by rw [List.take_zero]; rfl
set_option maxHeartbeats 2000000 in
set_option maxRecDepth 100000 in
theorem putLengths_any (a : Option Addr) (len cap : Nat) (ls : List Int) (w : World) (hr : RdI w a len ls) (hc : len ≤ cap) (hcm : cap ≤ 9223372036854775807) (hn : len ≤ 256) (hin : allIn 15 ls = true) :
    Calls Tryz.prog 56 #[.slice none 0 0, .slice a len cap] w fun e w' => ∃ v, e = .returned v ∧ Own w' w.heap.size v (pairsOf ls ++ [0]) ∧ Below w.heap.size w w' := by
  have HR := hide hr
  have HL := hide hr.1
  have HIN := hide (fun k h => allIn_get hin k h)
  clear hr hin
  go_enter Tryz.func56, Tryz.ntmps56
  go_wp2_with fail
  go_loopw [1] (fun p wr => ∃ l : Nat, l ≤ len ∧ p = .slice a l cap ∧ Hid (trimmed ls = trimmed (ls.take l)) ∧ w = wr) (fun p _ => slenE p)
  case atStart => exact ⟨len, Nat.le_refl _, rfl, by rw [List.take_of_length_le (by rw [HL.out]; exact Nat.le_refl _)]; rfl, rfl⟩
  case round =>
    obtain ⟨l, hl, rfl, HT, rfl⟩ := hrel
    by_cases hgo : 0 < l ∧ ls.getD (l - 1) 0 = 0
    · obtain ⟨hl0, hz⟩ := hgo
      obtain ⟨m, rfl⟩ : ∃ m, l = m + 1 := ⟨l - 1, by omega⟩
      rw [Nat.add_sub_cancel] at hz
      obtain ⟨b1, o1, rfl, hb1, hc1⟩ := HR.out.2.2 (by omega)
      have g1 := hc1 m (by omega)
      rw [hz] at g1
      have HT2 : Hid (trimmed ls = trimmed (ls.take m)) := by show _ = _; rw [HT.out]; exact trim_zero ls m (by rw [HL.out]; omega) hz
      have d0 : (0 : Int) < ((m + 1 : Nat) : Int) := by omega
      have d1 : decide ((0 : Int) < ((m + 1 : Nat) : Int)) = true := by rw [decide_eq_true_iff]; exact d0
      have e1 : ((m + 1 : Nat) : Int) - 1 = (m : Int) := by omega
      have e2 : (m : Int) < ((m + 1 : Nat) : Int) := by omega
      have e3 : m ≤ cap := by omega
      clear hc1 hz
      go_wp2_with fail
      go_roundw
      case rel => exact ⟨m, by omega, rfl, HT2, by first | rfl | trivial⟩
      case measure => simp [slenE]
    · have HTF : Hid (trimmed ls = ls.take l) := by
        show _ = _
        rw [HT.out]
        by_cases h0 : l = 0
        · subst h0; exact trim_nil ls
        · obtain ⟨m, rfl⟩ : ∃ m, l = m + 1 := ⟨l - 1, by omega⟩
          exact trim_keep ls m (by rw [HL.out]; omega) (fun h => hgo ⟨by omega, by rw [Nat.add_sub_cancel]; exact h⟩)
      have HRT := hide (rdi_cut HR.out hl)
      have HIT : Hid (∀ k, k < (ls.take l).length → 0 ≤ (ls.take l).getD k 0 ∧ (ls.take l).getD k 0 ≤ 15) := fun k hk => by
        rw [List.length_take] at hk
        rw [List.getD_eq_getElem?_getD, List.getElem?_take, if_pos (by omega), ← List.getD_eq_getElem?_getD]
        exact HIN.out k (by omega)
      have HPE : Hid (pairsOf ls = pairsGo (ls.take l).length (ls.take l)) := by show _ = _; unfold pairsOf; rw [HTF.out]
      have HGO : Hid (l = 0 ∨ ∃ m b o x, l = m + 1 ∧ a = some ⟨b, o, none⟩ ∧ w.cell? ⟨b, o + m, none⟩ = some (.int .i64 x) ∧ x ≠ 0) := by
        by_cases h0 : l = 0
        · exact .inl h0
        · obtain ⟨m, rfl⟩ : ∃ m, l = m + 1 := ⟨l - 1, by omega⟩
          obtain ⟨b1, o1, rfl, hb1, hc1⟩ := HR.out.2.2 (by omega)
          exact .inr ⟨m, b1, o1, _, rfl, rfl, hc1 m (by omega), fun h => hgo ⟨by omega, by rw [Nat.add_sub_cancel]; exact h⟩⟩
      generalize ls.take l = rs0 at HRT HIT HPE
      clear HT HTF hgo HR HIN
      have HBL : Hid ((pairsOf ls).length ≤ 2560) := by
        show _ ≤ _
        rw [HPE.out]
        have := pairs_len rs0.length rs0 (by rw [HRT.out.1]; omega)
        rw [HRT.out.1] at this ⊢
        omega
      have hw0 : Hid (Below w.heap.size w w) := Below.refl _ _
      have HREST : Hid (∀ (B rs : List (BitVec 8)), pairsOf ls = B ++ rs → B.length ≤ 2560) := fun B rs h => by
        have := HBL.out
        rw [h, List.length_append] at this
        omega
      rcases HGO.out with h0 | ⟨m, b0, o0, x, rfl, rfl, g1, hx⟩
      all_goals
        first
          | (have d0 : ¬ (0 : Int) < (l : Int) := by omega
             have d1 : decide ((0 : Int) < (l : Int)) = false := by rw [decide_eq_false_iff_not]; exact d0
             have d2 : decide (0 < l) = false := by rw [decide_eq_false_iff_not]; omega
             clear h0)
          | (have d0 : (0 : Int) < ((m + 1 : Nat) : Int) := by omega
             have d1 : decide ((0 : Int) < ((m + 1 : Nat) : Int)) = true := by rw [decide_eq_true_iff]; exact d0
             have e1 : ((m + 1 : Nat) : Int) - 1 = (m : Int) := by omega
             have e2 : (m : Int) < ((m + 1 : Nat) : Int) := by omega
             have e3 : (x == 0) = false := by rw [beq_eq_false_iff_ne]; exact hx)
        clear HGO
        go_wp2_with fail
        go_loopw [0, 1] (fun o p wz => ∃ (l c : Nat) (pa : Option Addr) (rs : List Int) (B : List (BitVec 8)), p = .slice pa l c ∧ l ≤ c ∧ c ≤ 9223372036854775807 ∧ l ≤ 256 ∧ Hid (RdI w pa l rs) ∧ Hid (∀ k, k < rs.length → 0 ≤ rs.getD k 0 ∧ rs.getD k 0 ≤ 15) ∧ Hid (Own wz w.heap.size o B) ∧ Hid (pairsOf ls = B ++ pairsGo rs.length rs) ∧ Hid (Below w.heap.size w wz)) (fun _ p _ => slenE p)
        case atStart => exact ⟨_, cap, _, rs0, [], rfl, by omega, hcm, by omega, HRT, HIT, World.ownsRow_nil _ _ _ _, HPE, hw0⟩
        case round =>
          clear HRT HIT HPE hw0
          obtain ⟨l, c, pa, rs, B, rfl, hlc, hcm2, hl6, HRD, HIX, HO, HP, HB⟩ := hrel
          by_cases hl0 : 0 < l
          · have l0i : (0 : Int) < (l : Int) := by omega
            obtain ⟨b1, o1, rfl, hb1, hc1⟩ := HRD.out.2.2 hl0
            have HNE : Hid (rs ≠ []) := fun e => by have := HRD.out.1; rw [e] at this; simp at this; omega
            go_wp2_with fail
            go_loopw [5] (fun r wy => ∃ q : Nat, 1 ≤ q ∧ q ≤ l ∧ r = .int .i64 (q : Int) ∧ Hid (∀ j, j < q → rs.getD j 0 = rs.getD 0 0) ∧ Hid (∃ m, wy = wr.drewN m)) (fun r _ => l - (intOf r).toNat)
            case atStart => exact ⟨1, by omega, by omega, rfl, fun j hj => by rw [show j = 0 by omega], 0, rfl⟩
            case round =>
              obtain ⟨q, hq1, hql, rfl, HQ, HD⟩ := hrel
              have HBw : Hid (Below w.heap.size w wr) := by obtain ⟨m, hm⟩ := HD.out; rw [hm]; exact below_drewN HB.out m
              have HOw : Hid (Own wr w.heap.size u0 B) := by obtain ⟨m, hm⟩ := HD.out; rw [hm]; exact HO.out
              have g0 := hc1 0 hl0
              rw [← HBw.out.cell (p := ⟨b1, o1 + 0, none⟩) hb1, Nat.add_zero] at g0
              have HX0 := HIX.out 0 (by rw [HRD.out.1]; exact hl0)
              by_cases hgo : q < l ∧ rs.getD q 0 = rs.getD 0 0
              · obtain ⟨hlt, heq⟩ := hgo
                have g2 := hc1 q hlt
                rw [← HBw.out.cell (p := ⟨b1, o1 + q, none⟩) hb1, heq] at g2
                have HQ2 : Hid (∀ j, j < q + 1 → rs.getD j 0 = rs.getD 0 0) := fun j hj => by
                  by_cases e : j = q
                  · subst e; exact heq
                  · exact HQ.out j (by omega)
                obtain ⟨x, hx⟩ : ∃ x, rs.getD 0 0 = x := ⟨_, rfl⟩
                rw [hx] at g0 g2
                clear hx
                have z1 : (q : Int) < (l : Int) := by omega
                have z2 : decide ((q : Int) < (l : Int)) = true := by rw [decide_eq_true_iff]; exact z1
                have z4 : decide (q < l) = true := by rw [decide_eq_true_iff]; exact hlt
                have z3 : (x == x) = true := by simp
                clear heq HX0 HOw HBw
                go_wp2_with fail
                go_quiet (fail)
                go_wp2_with fail
                go_roundw
                case rel => exact ⟨q + 1, by omega, by omega, by go_num, HQ2, drewN_moreE HD.out nq⟩
                case measure => simp [intOf]; omega
              · have HRUN : Hid (runOf rs = q) := run_at HQ.out hq1 (by rw [HRD.out.1]; exact hql) (by
                  rw [HRD.out.1]
                  by_cases h : q < l
                  · exact .inr (fun e => hgo ⟨h, e⟩)
                  · exact .inl (by omega))
                have HPS := hide (pairs_step HNE.out)
                rw [HRUN.out] at HPS
                have HCASE : (¬ q < l) ∨ ∃ y, q < l ∧ wr.cell? ⟨b1, o1 + q, none⟩ = some (.int .i64 y) ∧ y ≠ rs.getD 0 0 := by
                  by_cases h : q < l
                  · refine .inr ⟨_, h, ?_, fun e => hgo ⟨h, e⟩⟩
                    rw [HBw.out.cell (p := ⟨b1, o1 + q, none⟩) hb1]; exact hc1 q h
                  · exact .inl h
                obtain ⟨lx, hsl, hlx⟩ := slice_ints b1 o1 l c q hql hlc
                have HRX := hide (rdi_rest HRD.out hql hlx)
                clear hlx
                have HIX2 : Hid (∀ k, k < (rs.drop q).length → 0 ≤ (rs.drop q).getD k 0 ∧ (rs.drop q).getD k 0 ≤ 15) := fun k hk => by
                  rw [List.length_drop] at hk
                  rw [List.getD_eq_getElem?_getD, List.getElem?_drop, ← List.getD_eq_getElem?_getD]
                  exact HIX.out (q + k) (by omega)
                have HPN : Hid (pairsOf ls = (B ++ Nums.put q ++ [BitVec.ofNat 8 (rs.getD 0 0).toNat]) ++ pairsGo (rs.drop q).length (rs.drop q)) := by
                  show _ = _
                  rw [HP.out, HPS.out]; simp only [List.append_assoc]
                have HLB := hide (HREST.out _ _ HPN.out)
                have HWF : Hid ((Lit.int .i64 (q : Int)).wf = true) := WalkArith.wf_i64 (by omega)
                have HPU := hide (fun W => Nums.put_any (q : Int) W HWF.out)
                rw [Nums.putI_nat] at HPU
                have HV8 := hide (b8_of _ HX0.1 HX0.2)
                generalize (rs.drop q) = rs2 at HRX HIX2 HPN
                generalize Nums.put q = PB at HPU HPN HLB
                generalize BitVec.ofNat 8 (rs.getD 0 0).toNat = X8 at HPN HLB HV8
                have HG0 : Hid (w.cell? ⟨b1, o1, none⟩ = some (.int .i64 (rs.getD 0 0))) := hc1 0 hl0
                generalize rs.getD 0 0 = x at g0 HCASE HX0 HV8 HG0
                have hx0 : 0 ≤ x := HX0.1
                have hx1 : x ≤ 15 := HX0.2
                clear hgo HPS HQ HX0
                rcases HCASE with hc3 | ⟨y, hc3, gy, hyx⟩
                all_goals
                  first
                    | (have z1 : ¬ (q : Int) < (l : Int) := by omega
                       have z2 : decide ((q : Int) < (l : Int)) = false := by rw [decide_eq_false_iff_not]; exact z1
                       have z4 : decide (q < l) = false := by rw [decide_eq_false_iff_not]; exact hc3)
                    | (have z1 : (q : Int) < (l : Int) := by omega
                       have z2 : decide ((q : Int) < (l : Int)) = true := by rw [decide_eq_true_iff]; exact z1
                       have z4 : decide (q < l) = true := by rw [decide_eq_true_iff]; exact hc3
                       have z3 : (y == x) = false := by rw [beq_eq_false_iff_ne]; exact hyx)
                  go_wp2_with fail
                  go_quiet (fail)
                  have HO7 : Hid (Own (wr.drewN nq) w.heap.size u0 B) := HOw.out
                  have HB7 : Hid (Below w.heap.size w (wr.drewN nq)) := below_drewN HBw.out nq
                  obtain ⟨w7, hw7⟩ : ∃ w7, wr.drewN nq = w7 := ⟨_, rfl⟩
                  rw [hw7] at HO7 HB7 ⊢
                  clear hw7 g0 HOw HBw HD
                  try clear gy
                  go_wp2_with fail
                  refine (HPU.out _).mono ?_
                  rintro e w8 ⟨v8, rfl, ho8, hb8⟩
                  have HB8 := hide (HB7.out.trans (hb8.mono HB7.out.size))
                  have HO8 := hide (HO7.out.below hb8)
                  obtain ⟨va, vc, hv8⟩ := ho8.shape
                  subst hv8
                  have HPO := hide ho8
                  have HLB2 : Hid (B.length + PB.length + 1 ≤ 2560) := by have := HLB.out; rw [List.length_append, List.length_append] at this; exact this
                  have hs8 := HB8.out.size
                  clear ho8 hb8
                  obtain ⟨HL7, HL7e⟩ : ∃ L, (B ++ PB).length = L := ⟨_, rfl⟩
                  have HLA := hide HL7e
                  clear HL7e
                  go_wp2_with (at_builtin
                               first
                               | (refine join _ rfl (.tmp 42) (.tmp 44) rfl w.heap.size u0 B rfl HO8.out va PB.length vc PB rfl (Got.rd HPO.out (by have := HLB2.out; omega)) (Got.nil HPO.out) (by have := HLB2.out; omega) hs8 ?_
                                  intro v9 w9 ho9 hg9
                                  obtain ⟨a9, c9, hv9⟩ := ho9.shape
                                  subst hv9
                                  rw [HLA.out] at ho9 ⊢
                                  have HO9 := hide ho9
                                  have HB9 : Hid (Below w.heap.size w w9) := HB8.out.grown hg9 hs8 (fun i e => (World.ownsRow.lt HO8.out i e).1)
                                  have g0 := HG0.out
                                  rw [← HB9.out.cell (p := ⟨b1, o1, none⟩) hb1] at g0
                                  have hs9 := HB9.out.size
                                  clear ho9 hg9)
                               | (refine push _ rfl (.tmp 46) (.tmp 51) rfl w.heap.size (.slice a9 HL7 c9) (B ++ PB) rfl (HO9.out.below ((Below.refl w9.heap.size w9).alloc (Nat.le_refl _) _)) ⟨w9.heap.size, 0, none⟩ 1 X8 rfl (by rw [HV8.out]; exact cell_one_new _ _ _ 0 _ rfl) (by have := HLB2.out; rw [List.length_append]; omega) (by simp; omega) ?_
                                  intro v10 w10 ho10 hg10
                                  have HO10 := hide ho10
                                  have HB10 : Hid (Below w.heap.size w w10) := (HB9.out.alloc hs9 _).grown hg10 (by simp; omega) (fun i e => (World.ownsRow.lt HO9.out i e).1)
                                  clear ho10 hg10))
                  go_roundw
                  case rel => exact ⟨l - q, c - q, some lx, rs2, B ++ PB ++ [X8], by first | rfl | trivial, by omega, by omega, by omega, HRX, HIX2, HO10, HPN, HB10⟩
                  case measure => simp [slenE]; omega
          · have h0 : l = 0 := by omega
            subst h0
            have HF : Hid (pairsOf ls = B) := by
              show _ = _
              rw [HP.out, List.length_eq_zero_iff.1 HRD.out.1]; simp [pairsGo]
            have HLB := hide (HBL.out)
            rw [HF.out] at HLB
            have hs1 := HB.out.size
            obtain ⟨a9, c9, hv9⟩ := HO.out.shape
            subst hv9
            have HLB3 := HLB.out
            go_wp2_with (at_builtin; refine push _ rfl _ _ rfl w.heap.size (.slice a9 B.length c9) B rfl (HO.out.below ((Below.refl wr.heap.size wr).alloc (Nat.le_refl _) _)) ⟨wr.heap.size, 0, none⟩ 1 0 rfl (cell_one_new _ _ _ 0 _ rfl) (by omega) (by simp; omega) ?_
                         intro v10 w10 ho10 hg10
                         have HO10 := hide ho10
                         have HB10 : Hid (Below w.heap.size w w10) := (HB.out.alloc hs1 _).grown hg10 (by simp; omega) (fun i e => (World.ownsRow.lt HO.out i e).1)
                         clear ho10 hg10)
            obtain ⟨a', c', hv'⟩ := HO10.out.shape
            subst hv'
            go_ret
            refine ⟨_, rfl, ?_, ?_⟩
            · rw [HF.out]; exact HO10.out
            · exact HB10.out
end Go.Proofs.YthdblnfohbldcaaGreat.Huff
