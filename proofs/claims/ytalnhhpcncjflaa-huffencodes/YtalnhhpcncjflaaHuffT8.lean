/-
  The document's pairs.
-/
import Derived.Test.YtalnhhpcncjflaaHuffT7
import Derived.Test.YtalnhhpcncjflaaHuffE7
namespace Go.Proofs.Ytalnhhpcncjflaa.Huff
open Go.ChangeShapes Go.WideShapes Go.ChangeAt Go.RowKit
open Go.Proofs.Ytalnhhpcncjflaa.Base
set_option linter.unusedVariables false
set_option maxHeartbeats 2000000 in
set_option maxRecDepth 100000 in
theorem refPairs_any (a : Option Addr) (len cap : Nat) (ls : List Int) (w : World) (hr : RdI w a len ls) (hn : len ≤ 256) (hin : allIn 15 ls = true) :
    Calls Try.prog 45 #[.slice a len cap] w fun e w' => ∃ v, e = .returned v ∧ Own w' w.heap.size v (pairsOf ls ++ [0]) ∧ Below w.heap.size w w' := by
  have HR := hide hr
  have HL := hide hr.1
  have HIN := hide (fun k h => allIn_get hin k h)
  have HBL : Hid ((pairsOf ls).length ≤ 2560) := by
    show _ ≤ _
    have h1 : (trimmed ls).length ≤ ls.length := by
      unfold trimmed
      have := (List.dropWhile_sublist (fun x : Int => decide (x = 0)) (l := ls.reverse)).length_le
      rw [List.length_reverse] at this ⊢
      exact this
    have := pairs_len (trimmed ls).length (trimmed ls) (by rw [hr.1] at h1; omega)
    unfold pairsOf
    rw [hr.1] at h1
    omega
  clear hr hin
  have hni : (len : Int) ≤ 256 := by omega
  go_enter Try.func45, Try.ntmps45
  go_wp2_with fail
  have HREST : Hid (∀ (B rs : List (BitVec 8)), pairsOf ls = B ++ rs → B.length ≤ 2560) := fun B rs h => by
    have := HBL.out
    rw [h, List.length_append] at this
    omega
  have hw0 : Hid (Below w.heap.size w w) := Below.refl _ _
  go_loopw [3, 4] (fun o i wz => ∃ (p : Nat) (B : List (BitVec 8)), p ≤ len ∧ i = .int .i64 (p : Int) ∧ Hid (Own wz w.heap.size o B) ∧ Hid (pairsOf ls = B ++ pairsOf (ls.drop p)) ∧ Hid (Below w.heap.size w wz)) (fun _ i _ => len - (intOf i).toNat)
  case atStart => exact ⟨0, [], Nat.zero_le _, rfl, World.ownsRow_nil _ _ _ _, rfl, hw0⟩
  case round =>
    clear hw0
    obtain ⟨p, B, hp, rfl, HO, HP, HB⟩ := hrel
    by_cases hpl : p < len
    · have hpi : (p : Int) < (len : Int) := by omega
      obtain ⟨b1, o1, rfl, hb1, hc1⟩ := HR.out.2.2 (by omega)
      have HRP := hide (run_parts ls p (by rw [HL.out]; exact hpl))
      rw [HL.out] at HRP
      obtain ⟨q, hq⟩ : ∃ q, runOf (ls.drop p) = q := ⟨_, rfl⟩
      rw [hq] at HRP
      have hx := HIN.out p (by rw [HL.out]; exact hpl)
      have HG0 : Hid (w.cell? ⟨b1, o1 + p, none⟩ = some (.int .i64 (ls.getD p 0))) := hc1 p hpl
      have HALL : Hid (∀ j, j < q → ls.getD (p + j) 0 = ls.getD p 0) := fun j hj => by
        have h1 : (ls.drop p).getD j 0 = ls.getD (p + j) 0 := by rw [List.getD_eq_getElem?_getD, List.getElem?_drop, ← List.getD_eq_getElem?_getD]
        rw [← h1, HRP.out.2.2, List.getD_eq_getElem?_getD, List.getElem?_append_left (by rw [List.length_replicate]; exact hj), List.getElem?_replicate, if_pos hj]; rfl
      have HCEL : Hid (∀ k, k < len → w.cell? ⟨b1, o1 + k, none⟩ = some (.int .i64 (ls.getD k 0))) := hc1
      have hq1 : 1 ≤ q := HRP.out.1
      have hq2 : p + q ≤ len := HRP.out.2.1
      have HSTOP : Hid (p + q < len → ls.getD (p + q) 0 ≠ ls.getD p 0) := fun h => by
        have h1 := run_next (ls.drop p)
        rw [hq, List.drop_drop] at h1
        have h2 : (ls.drop (p + q)).getD 0 0 = ls.getD (p + q) 0 := by rw [List.getD_eq_getElem?_getD, List.getElem?_drop, Nat.add_zero, ← List.getD_eq_getElem?_getD]
        have h3 : (ls.drop p).getD 0 0 = ls.getD p 0 := by rw [List.getD_eq_getElem?_getD, List.getElem?_drop, Nat.add_zero, ← List.getD_eq_getElem?_getD]
        rw [h2, h3] at h1
        exact h1 (fun e => by have := congrArg List.length e; rw [List.length_drop, HL.out] at this; simp at this; omega)
      have HSPL : Hid (ls.drop p = List.replicate q (ls.getD p 0) ++ ls.drop (p + q)) := HRP.out.2.2
      have HHD : Hid (ls.drop (p + q) ≠ [] → (ls.drop (p + q)).getD 0 0 ≠ ls.getD p 0) := fun hne => by
        have h2 : (ls.drop (p + q)).getD 0 0 = ls.getD (p + q) 0 := by rw [List.getD_eq_getElem?_getD, List.getElem?_drop, Nat.add_zero, ← List.getD_eq_getElem?_getD]
        rw [h2]
        refine HSTOP.out (Nat.lt_of_not_le fun h => hne (List.drop_eq_nil_of_le (by rw [HL.out]; exact h)))
      have HZE : Hid (p + q = len → ls.drop (p + q) = []) := fun h => List.drop_eq_nil_of_le (by rw [HL.out]; omega)
      have HNZ : Hid (p + q < len → ls.drop (p + q) ≠ []) := fun h e => by have := congrArg List.length e; rw [List.length_drop, HL.out] at this; simp at this; omega
      rw [HSPL.out] at HP
      clear hq hc1 HRP HSPL
      obtain ⟨x, hxe⟩ : ∃ x, ls.getD p 0 = x := ⟨_, rfl⟩
      rw [hxe] at hx HG0 HALL HSTOP HHD HP
      obtain ⟨rs, hrs⟩ : ∃ rs, ls.drop (p + q) = rs := ⟨_, rfl⟩
      rw [hrs] at HHD HZE HNZ HP
      have HRS := hide hrs
      clear hxe hrs
      have hx0 : 0 ≤ x := hx.1
      have hx1 : x ≤ 15 := hx.2
      go_wp2_with fail
      go_loopw [5] (fun k wy => ∃ j : Nat, j ≤ q ∧ k = .int .i64 ((p : Int) + (j : Int)) ∧ Hid (∃ m, wy = wr.drewN m)) (fun k _ => p + q - (intOf k).toNat)
      case atStart => exact ⟨0, Nat.zero_le _, by go_num, 0, rfl⟩
      case round =>
        obtain ⟨j, hj, rfl, HD⟩ := hrel
        have HBw : Hid (Below w.heap.size w wr) := by obtain ⟨m, hm⟩ := HD.out; rw [hm]; exact below_drewN HB.out m
        have HOw : Hid (Own wr w.heap.size u3 B) := by obtain ⟨m, hm⟩ := HD.out; rw [hm]; exact HO.out
        have g0 := HG0.out
        rw [← HBw.out.cell (p := ⟨b1, o1 + p, none⟩) hb1] at g0
        by_cases hjq : j < q
        · have g2 := HCEL.out (p + j) (by omega)
          rw [HALL.out j hjq, ← HBw.out.cell (p := ⟨b1, o1 + (p + j), none⟩) hb1] at g2
          have z1 : (p : Int) + (j : Int) < (len : Int) := by omega
          have z2 : decide ((p : Int) + (j : Int) < (len : Int)) = true := by rw [decide_eq_true_iff]; exact z1
          have z3 : (x == x) = true := by simp
          have z4 : ((p : Int) + (j : Int)).toNat = p + j := by omega
          have z5 : (0 : Int) ≤ (p : Int) + (j : Int) := by omega
          have z6 : ¬ (p : Int) + (j : Int) < 0 := by omega
          go_wp2_with fail
          go_quiet (fail)
          go_wp2_with fail
          go_roundw
          case rel => exact ⟨j + 1, by omega, by go_num, drewN_moreE HD.out nq⟩
          case measure => simp [intOf]; omega
        · have hje : j = q := by omega
          subst hje
          have HCASE : (∃ y, p + j < len ∧ wr.cell? ⟨b1, o1 + (p + j), none⟩ = some (.int .i64 y) ∧ y ≠ x) ∨ (p + j = len) := by
            by_cases h : p + j < len
            · refine .inl ⟨_, h, ?_, HSTOP.out h⟩
              rw [HBw.out.cell (p := ⟨b1, o1 + (p + j), none⟩) hb1]; exact HCEL.out _ h
            · exact .inr (by omega)
          by_cases hbr : p + j = len ∧ x = 0
          · obtain ⟨he, hxz⟩ := hbr
            have HF : Hid (pairsOf ls = B) := by
              show _ = _
              rw [HP.out, HZE.out he, List.append_nil, hxz, pairs_zero, List.append_nil]
            have z1 : ¬ (p : Int) + (j : Int) < (len : Int) := by omega
            have z2 : decide ((p : Int) + (j : Int) < (len : Int)) = false := by rw [decide_eq_false_iff_not]; exact z1
            have z3 : ((p : Int) + (j : Int) == (len : Int)) = true := by rw [beq_iff_eq]; omega
            subst hxz
            have HLB := hide (HBL.out)
            rw [HF.out] at HLB
            clear HCASE
            go_wp2_with fail
            go_quiet (fail)
            have gq : (wr.drewN nq).cell? ⟨b1, o1 + p, none⟩ = some (.int .i64 0) := g0
            have HO7 : Hid (Own (wr.drewN nq) w.heap.size u3 B) := HOw.out
            have HB7 : Hid (Below w.heap.size w (wr.drewN nq)) := below_drewN HBw.out nq
            obtain ⟨w7, hw7⟩ : ∃ w7, wr.drewN nq = w7 := ⟨_, rfl⟩
            rw [hw7] at HO7 HB7 gq ⊢
            clear hw7 HOw HBw HD g0
            have hs1 := HB7.out.size
            obtain ⟨a9, c9, hv9⟩ := HO7.out.shape
            subst hv9
            have HLB3 := HLB.out
            go_wp2_with (at_builtin; refine push _ rfl _ _ rfl w.heap.size (.slice a9 B.length c9) B rfl (HO7.out.below ((Below.refl w7.heap.size w7).alloc (Nat.le_refl _) _)) ⟨w7.heap.size, 0, none⟩ 1 0 rfl (cell_one_new _ _ _ 0 _ rfl) (by omega) (by simp; omega) ?_
                         intro v10 w10 ho10 hg10
                         have HO10 := hide ho10
                         have HB10 : Hid (Below w.heap.size w w10) := (HB7.out.alloc hs1 _).grown hg10 (by simp; omega) (fun i e => (World.ownsRow.lt HO7.out i e).1)
                         clear ho10 hg10)
            obtain ⟨a', c', hv'⟩ := HO10.out.shape
            subst hv'
            go_ret
            refine ⟨_, rfl, ?_, ?_⟩
            · rw [HF.out]; exact HO10.out
            · exact HB10.out
          · have HPN : Hid (pairsOf ls = (B ++ Nums.put j ++ [BitVec.ofNat 8 x.toNat]) ++ pairsOf rs) := by
              show _ = _
              rw [HP.out, pairs_more j x rs (by omega) HHD.out (fun h => hbr ⟨by
                rcases HCASE with ⟨y, h1, _⟩ | h1
                · exact absurd h.1 (HNZ.out h1)
                · exact h1, h.2⟩)]
              simp only [List.append_assoc]
            have HLB := hide (HREST.out _ _ HPN.out)
            have HWF : Hid ((Lit.int .i64 (j : Int)).wf = true) := WalkArith.wf_i64 (by omega)
            have HPU := hide (fun W => Nums.refPut_any (j : Int) W HWF.out)
            rw [Nums.putI_nat] at HPU
            have HV8 := hide (b8_of x hx0 hx1)
            generalize Nums.put j = PB at HPU HPN HLB
            generalize BitVec.ofNat 8 x.toNat = X8 at HPN HLB HV8
            have esub : (p : Int) + (j : Int) - (p : Int) = (j : Int) := by omega
            have HXZ : Hid (p + j = len → x ≠ 0) := fun h e => hbr ⟨h, e⟩
            clear hbr
            rcases HCASE with ⟨y, hlt, gy, hyx⟩ | he
            all_goals
              first
                | (have z1 : (p : Int) + (j : Int) < (len : Int) := by omega
                   have z2 : decide ((p : Int) + (j : Int) < (len : Int)) = true := by rw [decide_eq_true_iff]; exact z1
                   have z3 : (y == x) = false := by rw [beq_eq_false_iff_ne]; exact hyx
                   have z4 : ((p : Int) + (j : Int) == (len : Int)) = false := by rw [beq_eq_false_iff_ne]; omega
                   have z5 : ((p : Int) + (j : Int)).toNat = p + j := by omega
                   have z6 : ¬ (p : Int) + (j : Int) < 0 := by omega
                   clear hlt)
                | (have z1 : ¬ (p : Int) + (j : Int) < (len : Int) := by omega
                   have z2 : decide ((p : Int) + (j : Int) < (len : Int)) = false := by rw [decide_eq_false_iff_not]; exact z1
                   have z3 : ((p : Int) + (j : Int) == (len : Int)) = true := by rw [beq_iff_eq]; omega
                   have z4 : (x == 0) = false := by rw [beq_eq_false_iff_ne]; exact HXZ.out he)
              go_wp2_with fail
              go_quiet (fail)
              have gq : (wr.drewN nq).cell? ⟨b1, o1 + p, none⟩ = some (.int .i64 x) := g0
              have HO7 : Hid (Own (wr.drewN nq) w.heap.size u3 B) := HOw.out
              have HB7 : Hid (Below w.heap.size w (wr.drewN nq)) := below_drewN HBw.out nq
              obtain ⟨w7, hw7⟩ : ∃ w7, wr.drewN nq = w7 := ⟨_, rfl⟩
              rw [hw7] at HO7 HB7 gq ⊢
              clear hw7 HOw HBw HD g0
              try clear gy
              go_wp2_with fail
              refine (HPU.out _).mono ?_
              rintro e w8 ⟨v8, rfl, ho8, hb8⟩
              have HB8 := hide (HB7.out.trans (hb8.mono HB7.out.size))
              have HO8 := hide (HO7.out.below hb8)
              obtain ⟨va, vc, hv8⟩ := ho8.shape
              subst hv8
              have HPO := hide ho8
              have HLB2 : Hid (B.length + PB.length + 1 ≤ 2560) := by have := HLB.out; rw [List.length_append, List.length_append] at this; exact this
              have hs8 := HB8.out.size
              clear ho8 hb8
              obtain ⟨HL7, HL7e⟩ : ∃ L, (B ++ PB).length = L := ⟨_, rfl⟩
              have HLA := hide HL7e
              clear HL7e gq
              go_wp2_with (at_builtin
                           first
                           | (refine join _ rfl (.tmp 39) (.tmp 43) rfl w.heap.size u3 B rfl HO8.out va PB.length vc PB rfl (Got.rd HPO.out (by have := HLB2.out; omega)) (Got.nil HPO.out) (by have := HLB2.out; omega) hs8 ?_
                              intro v9 w9 ho9 hg9
                              obtain ⟨a9, c9, hv9⟩ := ho9.shape
                              subst hv9
                              rw [HLA.out] at ho9 ⊢
                              have HO9 := hide ho9
                              have HB9 : Hid (Below w.heap.size w w9) := HB8.out.grown hg9 hs8 (fun i e => (World.ownsRow.lt HO8.out i e).1)
                              have g0 := HG0.out
                              rw [← HB9.out.cell (p := ⟨b1, o1 + p, none⟩) hb1] at g0
                              have hs9 := HB9.out.size
                              clear ho9 hg9)
                           | (refine push _ rfl (.tmp 45) (.tmp 51) rfl w.heap.size (.slice a9 HL7 c9) (B ++ PB) rfl (HO9.out.below ((Below.refl w9.heap.size w9).alloc (Nat.le_refl _) _)) ⟨w9.heap.size, 0, none⟩ 1 X8 rfl (by rw [HV8.out]; exact cell_one_new _ _ _ 0 _ rfl) (by have := HLB2.out; rw [List.length_append]; omega) (by simp; omega) ?_
                              intro v10 w10 ho10 hg10
                              have HO10 := hide ho10
                              have HB10 : Hid (Below w.heap.size w w10) := (HB9.out.alloc hs9 _).grown hg10 (by simp; omega) (fun i e => (World.ownsRow.lt HO9.out i e).1)
                              clear ho10 hg10))
              go_roundw
              case rel => exact ⟨p + j, B ++ PB ++ [X8], by omega, by go_num, HO10, by rw [HRS.out]; exact HPN, HB10⟩
              case measure => simp [intOf]; omega
    · have hpe : p = len := by omega
      subst hpe
      have HF : Hid (pairsOf ls = B) := by
        show _ = _
        rw [HP.out, List.drop_eq_nil_of_le (by rw [HL.out]; exact Nat.le_refl _)]
        show B ++ pairsOf [] = B
        exact List.append_nil B
      have hpi : ¬ (p : Int) < (p : Int) := by omega
      have HLB := hide (HBL.out)
      rw [HF.out] at HLB
      have hs1 := HB.out.size
      obtain ⟨a9, c9, hv9⟩ := HO.out.shape
      subst hv9
      have HLB3 := HLB.out
      go_wp2_with (at_builtin; refine push _ rfl _ _ rfl w.heap.size (.slice a9 B.length c9) B rfl (HO.out.below ((Below.refl wr.heap.size wr).alloc (Nat.le_refl _) _)) ⟨wr.heap.size, 0, none⟩ 1 0 rfl (cell_one_new _ _ _ 0 _ rfl) (by omega) (by simp; omega) ?_
                   intro v10 w10 ho10 hg10
                   have HO10 := hide ho10
                   have HB10 : Hid (Below w.heap.size w w10) := (HB.out.alloc hs1 _).grown hg10 (by simp; omega) (fun i e => (World.ownsRow.lt HO.out i e).1)
                   clear ho10 hg10)
      obtain ⟨a', c', hv'⟩ := HO10.out.shape
      subst hv'
      go_ret
      refine ⟨_, rfl, ?_, ?_⟩
      · rw [HF.out]; exact HO10.out
      · exact HB10.out
end Go.Proofs.Ytalnhhpcncjflaa.Huff
