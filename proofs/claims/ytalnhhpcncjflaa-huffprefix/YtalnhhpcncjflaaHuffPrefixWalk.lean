/-
  The walk of the statement HuffPrefix.
-/
import Derived.Test.YtalnhhpcncjflaaHuffE8
namespace Go.Proofs.Ytalnhhpcncjflaa.huffPrefix
open Go.ChangeShapes Go.WideShapes Go.ChangeAt Go.RowKit
open Go.Proofs.Ytalnhhpcncjflaa.Base Go.Proofs.Ytalnhhpcncjflaa.Huff
set_option linter.unusedVariables false
theorem coded_says (ls : List Int) : ((coded ls).2 ≠ 0 ∧ (coded ls).1 = []) ∨ (coded ls = (codesOf ls, 0) ∧ ls.length ≤ 256 ∧ allIn 15 ls = true ∧ right ls = true) := by
  unfold coded
  by_cases h1 : 256 < ls.length
  · rw [if_pos h1]; exact .inl ⟨by decide, rfl⟩
  · rw [if_neg h1]
    cases h2 : allIn 15 ls with
    | false => rw [if_pos rfl]; exact .inl ⟨by decide, rfl⟩
    | true =>
      rw [if_neg (by decide)]
      cases h3 : right ls with
      | false => rw [if_neg (by decide)]; exact .inl ⟨by decide, rfl⟩
      | true => rw [if_pos rfl]; exact .inr ⟨rfl, by omega, rfl, rfl⟩
set_option maxHeartbeats 2000000 in
set_option maxRecDepth 100000 in
theorem walk (a0 : Option Addr) (len0 cap0 : Nat) (b0 : List Int) (w : World) (rd0 : RdI w a0 len0 b0) (l0 : len0 ≤ cap0) (m0 : cap0 ≤ 17592186043904) :
    Calls Try.prog 6 #[.slice a0 len0 cap0] w fun e w' => e = .returned (.bool true) ∧ Below w.heap.size w w' := by
  have R0 := hide rd0
  have HW := hide (fun W => works4_any W)
  have HL := hide rd0.1
  have HCO := hide (codes_any a0 len0 cap0 b0 w rd0)
  rcases coded_says b0 with ⟨h1, h2⟩ | ⟨h1, h2, h3, h4⟩
  · generalize coded b0 = D at HCO h1 h2
    have h1b : (D.2 == 0) = false := by rw [beq_eq_false_iff_ne]; exact h1
    have h1c : (D.2 != 0) = true := by rw [bne_iff_ne]; exact h1
    have h2l : D.1.length = 0 := by rw [h2]; rfl
    clear rd0
    go_enter Try.func6, Try.ntmps6
    go_wp2_with fail
    refine HCO.out.mono ?_
    rintro e w1 ⟨v1, rfl, ho1, hb1⟩
    obtain ⟨a1, c1, rfl⟩ := OwnC.shape ho1
    have HB1 := hide hb1
    clear hb1 ho1
    rw [h2l]
    go_wp2_with fail
    refine (HW.out w1).mono ?_
    rintro e w2 ⟨rfl, hb2⟩
    have HB2 := hide (below_trans HB1.out hb2)
    clear hb2
    go_wp2_with fail
    go_ret
    exact ⟨rfl, HB2.out⟩
  · rw [h1] at HCO
    have HIN := hide (fun k h => allIn_get h3 k h)
    have HR := hide h4
    rw [rd0.1] at h2
    clear h1 h3 h4 rd0
    go_enter Try.func6, Try.ntmps6
    go_wp2_with fail
    refine HCO.out.mono ?_
    rintro e w1 ⟨v1, rfl, ho1, hb1⟩
    obtain ⟨a1, c1, rfl⟩ := OwnC.shape ho1
    rw [codesOf_len, HL.out] at ho1 ⊢
    have HB1 := hide hb1
    have HO1 := hide ho1
    clear hb1 ho1
    have HGC : Hid (0 < len0 → ∃ g, a1 = some ⟨g, 0, none⟩) := fun h => OwnC.some' HO1.out h
    go_wp2_with fail
    go_loopw [5, 6] (fun i _ wr => ∃ k : Nat, k ≤ len0 ∧ i = .int .i64 (k : Int) ∧ Hid (Below w1.heap.size w1 wr)) (fun i _ _ => len0 - (intOf i).toNat)
    case atStart => exact ⟨0, Nat.zero_le _, rfl, Below.refl _ _⟩
    case round =>
      obtain ⟨i, hi, rfl, HB⟩ := hrel
      by_cases hlt : i < len0
      · have hii : (i : Int) < (len0 : Int) := by omega
        obtain ⟨gc, rfl⟩ := HGC.out (by omega)
        obtain ⟨b1, o1, rfl, hb1, hc1⟩ := R0.out.2.2 (by omega)
        have g3 := hc1 i hlt
        rw [← (below_trans HB1.out HB.out).cell (p := ⟨b1, o1 + i, none⟩) hb1] at g3
        obtain ⟨g1, g2⟩ := OwnC.cells HO1.out (by rw [codesOf_len, HL.out]) i hlt
        have hgl := (World.ownsRow.lt HO1.out gc rfl).2
        rw [← HB.out.cell (p := ⟨gc, i * 2, none⟩) hgl, codesOf_get _ _ (by rw [HL.out]; exact hlt)] at g1
        rw [← HB.out.cell (p := ⟨gc, i * 2 + 1, none⟩) hgl, codesOf_get _ _ (by rw [HL.out]; exact hlt)] at g2
        have hx := HIN.out i (by rw [HL.out]; exact hlt)
        by_cases h0 : b0.getD i 0 = 0
        · have hcode : codeAt b0 i = (0, 0) := by unfold codeAt; rw [if_pos h0]
          rw [hcode] at g1 g2
          rw [h0] at g3
          simp only [] at g1 g2
          clear hc1 hx
          go_wp2_with fail
          obtain ⟨W2, hW2⟩ : ∃ W2, W2 = wr.alloc (.cells #[.int .i64 0, .int .u32 0] 49) := ⟨_, rfl⟩
          have HB2 : Hid (Below w1.heap.size w1 W2) := by rw [hW2]; exact HB.out.alloc HB.out.size _
          have HWR : Hid (Below wr.heap.size wr W2) := by rw [hW2]; exact (Below.refl _ _).alloc (Nat.le_refl _) _
          have ga1 : W2.cell? ⟨wr.heap.size, 0, none⟩ = some (.int .i64 0) := by rw [hW2]; simp [go_sem]
          have ga2 : W2.cell? ⟨wr.heap.size, 1, none⟩ = some (.int .u32 0) := by rw [hW2]; simp [go_sem]
          rw [← HWR.out.cell (p := ⟨b1, o1 + i, none⟩) (Nat.lt_of_lt_of_le hb1 (below_trans HB1.out HB.out).size)] at g3
          have hga : wr.heap.size < W2.heap.size := by rw [hW2]; simp
          rw [← hW2]
          clear hW2 HWR g1 g2
          generalize wr.heap.size = ga at ga1 ga2 hga ⊢
          go_quiet (fail)
          have HB3 : Hid (Below w1.heap.size w1 (W2.drewN nq)) := below_drewN HB2.out nq
          have gb1 : (W2.drewN nq).cell? ⟨ga, 0, none⟩ = some (.int .i64 0) := ga1
          have gb2 : (W2.drewN nq).cell? ⟨ga, 1, none⟩ = some (.int .u32 0) := ga2
          have hgb : ga < (W2.drewN nq).heap.size := hga
          obtain ⟨W3, hW3⟩ : ∃ W3, W2.drewN nq = W3 := ⟨_, rfl⟩
          rw [hW3] at HB3 gb1 gb2 hgb ⊢
          clear hW3 ga1 ga2 hga g3 HB2 HB
          have HA1 := hide gb1
          have HA2 := hide gb2
          clear gb1 gb2
          go_wp2_with fail
          go_loopw [7, 8] (fun k _ wy => ∃ q : Nat, q ≤ len0 ∧ k = .int .i64 (q : Int) ∧ Hid (Below W3.heap.size W3 wy)) (fun k _ _ => len0 - (intOf k).toNat)
          case atStart => exact ⟨0, Nat.zero_le _, rfl, Below.refl _ _⟩
          case round =>
            obtain ⟨q, hq, rfl, HB⟩ := hrel
            have HBW := hide (HB3.out.trans (HB.out.mono HB3.out.size))
            by_cases hqt : q < len0
            · have hqi : (q : Int) < (len0 : Int) := by omega
              obtain ⟨g4, g5⟩ := OwnC.cells HO1.out (by rw [codesOf_len, HL.out]) q hqt
              rw [← HBW.out.cell (p := ⟨gc, q * 2, none⟩) hgl, codesOf_get _ _ (by rw [HL.out]; exact hqt)] at g4
              rw [← HBW.out.cell (p := ⟨gc, q * 2 + 1, none⟩) hgl, codesOf_get _ _ (by rw [HL.out]; exact hqt)] at g5
              have hy := HIN.out q (by rw [HL.out]; exact hqt)
              have ga1 := HA1.out
              have ga2 := HA2.out
              rw [← HB.out.cell (p := ⟨ga, 0, none⟩) hgb] at ga1
              rw [← HB.out.cell (p := ⟨ga, 1, none⟩) hgb] at ga2
              have hga3 : ga < wr.heap.size := Nat.lt_of_lt_of_le hgb HB.out.size
              have hga4 : ga ≠ wr.heap.size := by omega
              obtain ⟨M, U, hMU⟩ : ∃ M U, codeAt b0 q = (M, U) := ⟨_, _, rfl⟩
              rw [hMU] at g4 g5
              simp only [] at g4 g5
              by_cases e : i = q
              · have ei : ((i : Int) == (q : Int)) = true := by rw [beq_iff_eq]; omega
                have HE := hide e
                clear e
                go_wp2_with fail
                go_roundw
                case rel => exact ⟨q + 1, by omega, by go_num, HB.out.alloc HB.out.size _⟩
                case measure => simp [intOf]; omega
              · have ei : ((i : Int) == (q : Int)) = false := by rw [beq_eq_false_iff_ne]; omega
                go_wp2_with fail
                go_roundw
                case rel => exact ⟨q + 1, by omega, by go_num, HB.out.alloc HB.out.size _⟩
                case measure => simp [intOf]; omega
            · have hq0 : q = len0 := by omega
              subst hq0
              go_wp2_with fail
              go_roundw
              case rel => exact ⟨i + 1, by omega, by go_num, HBW⟩
              case measure => simp [intOf]; omega
        · obtain ⟨l, hl⟩ : ∃ l : Nat, b0.getD i 0 = (l : Int) := ⟨(b0.getD i 0).toNat, by omega⟩
          rw [hl] at hx g3 h0
          have hcode : codeAt b0 i = ((l : Int), first b0 l + cnt b0 l i) := by
            unfold codeAt
            rw [hl, if_neg h0]; rfl
          have hws := word_small b0 HR.out (i := i) (l := l) (by rw [HL.out]; exact hlt) (by omega) (by omega) hcode
          rw [hcode] at g1 g2
          generalize first b0 l + cnt b0 l i = V at g1 g2 hws hcode
          have HCD := hide hcode
          simp only [] at g1 g2
          have e1 : ¬ (l : Int) < 0 := by omega
          have e2 : ¬ (15 : Int) < (l : Int) := by omega
          have e3 : ((l : Int) == 0) = false := by rw [beq_eq_false_iff_ne]; omega
          have e4 : (V : Int) / 2 ^ l = 0 := by
            have : ((V : Int) / 2 ^ l) = ((V / 2 ^ l : Nat) : Int) := by simp
            rw [this, Nat.div_eq_of_lt hws]; rfl
          have hl0 : 0 < l := by omega
          have hl15 : l ≤ 15 := by omega
          clear hc1 hx hcode hws h0 hl
          go_wp2_with fail
          obtain ⟨W2, hW2⟩ : ∃ W2, W2 = wr.alloc (.cells #[.int .i64 (l : Int), .int .u32 (V : Int)] 49) := ⟨_, rfl⟩
          have HB2 : Hid (Below w1.heap.size w1 W2) := by rw [hW2]; exact HB.out.alloc HB.out.size _
          have HWR : Hid (Below wr.heap.size wr W2) := by rw [hW2]; exact (Below.refl _ _).alloc (Nat.le_refl _) _
          have ga1 : W2.cell? ⟨wr.heap.size, 0, none⟩ = some (.int .i64 (l : Int)) := by rw [hW2]; simp [go_sem]
          have ga2 : W2.cell? ⟨wr.heap.size, 1, none⟩ = some (.int .u32 (V : Int)) := by rw [hW2]; simp [go_sem]
          rw [← HWR.out.cell (p := ⟨b1, o1 + i, none⟩) (Nat.lt_of_lt_of_le hb1 (below_trans HB1.out HB.out).size)] at g3
          have hga : wr.heap.size < W2.heap.size := by rw [hW2]; simp
          rw [← hW2]
          clear hW2 HWR g1 g2
          generalize wr.heap.size = ga at ga1 ga2 hga ⊢
          go_quiet (fail)
          have HB3 : Hid (Below w1.heap.size w1 (W2.drewN nq)) := below_drewN HB2.out nq
          have gb1 : (W2.drewN nq).cell? ⟨ga, 0, none⟩ = some (.int .i64 (l : Int)) := ga1
          have gb2 : (W2.drewN nq).cell? ⟨ga, 1, none⟩ = some (.int .u32 (V : Int)) := ga2
          have hgb : ga < (W2.drewN nq).heap.size := hga
          obtain ⟨W3, hW3⟩ : ∃ W3, W2.drewN nq = W3 := ⟨_, rfl⟩
          rw [hW3] at HB3 gb1 gb2 hgb ⊢
          clear hW3 ga1 ga2 hga g3 HB2 HB
          have HA1 := hide gb1
          have HA2 := hide gb2
          clear gb1 gb2
          go_wp2_with fail
          go_loopw [7, 8] (fun k _ wy => ∃ q : Nat, q ≤ len0 ∧ k = .int .i64 (q : Int) ∧ Hid (Below W3.heap.size W3 wy)) (fun k _ _ => len0 - (intOf k).toNat)
          case atStart => exact ⟨0, Nat.zero_le _, rfl, Below.refl _ _⟩
          case round =>
            obtain ⟨q, hq, rfl, HB⟩ := hrel
            have HBW := hide (HB3.out.trans (HB.out.mono HB3.out.size))
            by_cases hqt : q < len0
            · have hqi : (q : Int) < (len0 : Int) := by omega
              obtain ⟨g4, g5⟩ := OwnC.cells HO1.out (by rw [codesOf_len, HL.out]) q hqt
              rw [← HBW.out.cell (p := ⟨gc, q * 2, none⟩) hgl, codesOf_get _ _ (by rw [HL.out]; exact hqt)] at g4
              rw [← HBW.out.cell (p := ⟨gc, q * 2 + 1, none⟩) hgl, codesOf_get _ _ (by rw [HL.out]; exact hqt)] at g5
              have hy := HIN.out q (by rw [HL.out]; exact hqt)
              have ga1 := HA1.out
              have ga2 := HA2.out
              rw [← HB.out.cell (p := ⟨ga, 0, none⟩) hgb] at ga1
              rw [← HB.out.cell (p := ⟨ga, 1, none⟩) hgb] at ga2
              have hga3 : ga < wr.heap.size := Nat.lt_of_lt_of_le hgb HB.out.size
              have hga4 : ga ≠ wr.heap.size := by omega
              by_cases e : i = q
              · obtain ⟨M, U, hMU⟩ : ∃ M U, codeAt b0 q = (M, U) := ⟨_, _, rfl⟩
                rw [hMU] at g4 g5
                simp only [] at g4 g5
                have ei : ((i : Int) == (q : Int)) = true := by rw [beq_iff_eq]; omega
                have HE := hide e
                clear e
                go_wp2_with fail
                go_roundw
                case rel => exact ⟨q + 1, by omega, by go_num, HB.out.alloc HB.out.size _⟩
                case measure => simp [intOf]; omega
              · have ei : ((i : Int) == (q : Int)) = false := by rw [beq_eq_false_iff_ne]; omega
                by_cases hml : b0.getD q 0 < (l : Int)
                · have hM : (codeAt b0 q).1 = b0.getD q 0 := by
                    unfold codeAt
                    split
                    · rename_i h; exact h.symm
                    · rfl
                  rw [hM] at g4
                  generalize (codeAt b0 q).2 = U at g5
                  generalize b0.getD q 0 = M at g4 hml hy
                  go_wp2_with fail
                  go_roundw
                  case rel => exact ⟨q + 1, by omega, by go_num, HB.out.alloc HB.out.size _⟩
                  case measure => simp [intOf]; omega
                · obtain ⟨d, hd⟩ : ∃ d : Nat, b0.getD q 0 = (l : Int) + (d : Int) := ⟨(b0.getD q 0 - (l : Int)).toNat, by omega⟩
                  have hcq : codeAt b0 q = (((l + d : Nat) : Int), first b0 (l + d) + cnt b0 (l + d) q) := by
                    unfold codeAt
                    rw [if_neg (by omega), hd, show ((l : Int) + (d : Int)).toNat = l + d by omega]; rfl
                  have hpf := prefix_free b0 (i := i) (k := q) (l := l) (m := l + d) (by rw [HL.out]; exact hlt) (by rw [HL.out]; exact hqt) e (by omega) (by omega) HCD.out hcq
                  have hri : d = 0 → (i < q ↔ V < first b0 (l + d) + cnt b0 (l + d) q) := fun h0 => by
                    subst h0
                    exact rises b0 (by rw [HL.out]; exact hlt) (by rw [HL.out]; exact hqt) (by omega) HCD.out hcq
                  rw [show l + d - l = d by omega] at hpf
                  rw [hcq] at g4 g5
                  generalize first b0 (l + d) + cnt b0 (l + d) q = U at g5 hpf hri
                  simp only [Int.natCast_add] at g4
                  have hpi : ((U : Int) / 2 ^ d == (V : Int)) = false := by
                    rw [beq_eq_false_iff_ne]
                    intro h
                    refine hpf ?_
                    have e1 : ((U : Int) / 2 ^ d) = ((U / 2 ^ d : Nat) : Int) := by simp
                    rw [e1] at h
                    omega
                  have hnl : ¬ (l : Int) + (d : Int) < (l : Int) := by omega
                  have hsub : (l : Int) + (d : Int) - (l : Int) = (d : Int) := by omega
                  have hd15 : (d : Int) ≤ 15 := by omega
                  have hd16 : d ≤ 15 := by omega
                  clear hcq hml hpf hd hy
                  by_cases hd0 : d = 0
                  · have hri2 := hri hd0
                    subst hd0
                    clear hri
                    have hz0 : (l : Int) + ((0 : Nat) : Int) = (l : Int) := by simp
                    rw [hz0] at g4 hnl hsub
                    rw [Int.pow_zero, Int.ediv_one] at hpi
                    have hll : ((l : Int) == (l : Int)) = true := by rw [beq_iff_eq]
                    clear hz0
                    by_cases hik : i < q
                    · have h1 : (i : Int) < (q : Int) := by omega
                      have h2 : (V : Int) < (U : Int) := by have := hri2.1 hik; omega
                      clear hri2
                      go_wp2_with fail
                      obtain ⟨W4, hW4⟩ : ∃ W4, W4 = wr.alloc (.cells #[.int .i64 (l : Int), .int .u32 (U : Int)] 49) := ⟨_, rfl⟩
                      have HB4 : Hid (Below W3.heap.size W3 W4) := by rw [hW4]; exact HB.out.alloc HB.out.size _
                      have HWR : Hid (Below wr.heap.size wr W4) := by rw [hW4]; exact (Below.refl _ _).alloc (Nat.le_refl _) _
                      have q1 : W4.cell? ⟨wr.heap.size, 0, none⟩ = some (.int .i64 (l : Int)) := by rw [hW4]; simp [go_sem]
                      have q2 : W4.cell? ⟨wr.heap.size, 1, none⟩ = some (.int .u32 (U : Int)) := by rw [hW4]; simp [go_sem]
                      rw [← HWR.out.cell (p := ⟨ga, 0, none⟩) hga3] at ga1
                      rw [← HWR.out.cell (p := ⟨ga, 1, none⟩) hga3] at ga2
                      rw [← hW4]
                      clear hW4 HWR g4 g5
                      generalize wr.heap.size = gb at q1 q2 ⊢
                      go_quiet (fail)
                      go_wp2_with fail
                      go_roundw
                      case rel => exact ⟨q + 1, by omega, by go_num, below_drewN HB4.out nq⟩
                      case measure => simp [intOf]; omega
                    · have h1 : ¬ (i : Int) < (q : Int) := by omega
                      have h2 : ¬ (V : Int) < (U : Int) := fun h => hik (hri2.2 (by omega))
                      clear hri2
                      go_wp2_with fail
                      obtain ⟨W4, hW4⟩ : ∃ W4, W4 = wr.alloc (.cells #[.int .i64 (l : Int), .int .u32 (U : Int)] 49) := ⟨_, rfl⟩
                      have HB4 : Hid (Below W3.heap.size W3 W4) := by rw [hW4]; exact HB.out.alloc HB.out.size _
                      have HWR : Hid (Below wr.heap.size wr W4) := by rw [hW4]; exact (Below.refl _ _).alloc (Nat.le_refl _) _
                      have q1 : W4.cell? ⟨wr.heap.size, 0, none⟩ = some (.int .i64 (l : Int)) := by rw [hW4]; simp [go_sem]
                      have q2 : W4.cell? ⟨wr.heap.size, 1, none⟩ = some (.int .u32 (U : Int)) := by rw [hW4]; simp [go_sem]
                      rw [← HWR.out.cell (p := ⟨ga, 0, none⟩) hga3] at ga1
                      rw [← HWR.out.cell (p := ⟨ga, 1, none⟩) hga3] at ga2
                      rw [← hW4]
                      clear hW4 HWR g4 g5
                      generalize wr.heap.size = gb at q1 q2 ⊢
                      go_quiet (fail)
                      go_wp2_with fail
                      go_roundw
                      case rel => exact ⟨q + 1, by omega, by go_num, below_drewN HB4.out nq⟩
                      case measure => simp [intOf]; omega
                  · have hll : ((l : Int) + (d : Int) == (l : Int)) = false := by rw [beq_eq_false_iff_ne]; omega
                    clear hri
                    go_wp2_with fail
                    obtain ⟨W4, hW4⟩ : ∃ W4, W4 = wr.alloc (.cells #[.int .i64 ((l : Int) + (d : Int)), .int .u32 (U : Int)] 49) := ⟨_, rfl⟩
                    have HB4 : Hid (Below W3.heap.size W3 W4) := by rw [hW4]; exact HB.out.alloc HB.out.size _
                    have HWR : Hid (Below wr.heap.size wr W4) := by rw [hW4]; exact (Below.refl _ _).alloc (Nat.le_refl _) _
                    have q1 : W4.cell? ⟨wr.heap.size, 0, none⟩ = some (.int .i64 ((l : Int) + (d : Int))) := by rw [hW4]; simp [go_sem]
                    have q2 : W4.cell? ⟨wr.heap.size, 1, none⟩ = some (.int .u32 (U : Int)) := by rw [hW4]; simp [go_sem]
                    rw [← HWR.out.cell (p := ⟨ga, 0, none⟩) hga3] at ga1
                    rw [← HWR.out.cell (p := ⟨ga, 1, none⟩) hga3] at ga2
                    rw [← hW4]
                    clear hW4 HWR g4 g5
                    generalize wr.heap.size = gb at q1 q2 ⊢
                    go_quiet (fail)
                    go_wp2_with fail
                    go_roundw
                    case rel => exact ⟨q + 1, by omega, by go_num, below_drewN HB4.out nq⟩
                    case measure => simp [intOf]; omega
            · have hq0 : q = len0 := by omega
              subst hq0
              go_wp2_with fail
              go_roundw
              case rel => exact ⟨i + 1, by omega, by go_num, HBW⟩
              case measure => simp [intOf]; omega
      · have h0 : i = len0 := by omega
        subst h0
        go_wp2_with fail
        refine (HW.out wr).mono ?_
        rintro e w5 ⟨rfl, hb5⟩
        have HB5 := hide (below_trans (below_trans HB1.out HB.out) hb5)
        clear hb5
        go_wp2_with fail
        go_ret
        exact ⟨rfl, HB5.out⟩
end Go.Proofs.Ytalnhhpcncjflaa.huffPrefix
