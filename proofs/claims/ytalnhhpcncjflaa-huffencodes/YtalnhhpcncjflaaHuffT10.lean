/-
  The document's Encode, at any text.
-/
import Derived.Test.YtalnhhpcncjflaaHuffT9
import Derived.Test.YtalnhhpcncjflaaHuffT6
import Derived.Test.YtalnhhpcncjflaaHuffE6
namespace Go.Proofs.Ytalnhhpcncjflaa.Huff
open Go.ChangeShapes Go.WideShapes Go.ChangeAt Go.RowKit
open Go.Proofs.Ytalnhhpcncjflaa.Base
set_option linter.unusedVariables false
set_option maxHeartbeats 2000000 in
set_option maxRecDepth 100000 in
theorem refEncode_any (a : Option Addr) (len cap : Nat) (t : List (BitVec 8)) (w : World) (hr : Rd w a len t) (hc : len ≤ cap) :
    Calls Try.prog 27 #[.slice a len cap] w fun e w' => ∃ v, e = .returned (.tuple #[v, .int .i64 (encoded t).2]) ∧ Own w' w.heap.size v (encoded t).1 ∧ Below w.heap.size w w' := by
  have HL := hide hr.1
  by_cases h1 : 65536 < len
  · have HE : Hid (encoded t = ([], 2)) := if_pos (by rw [HL.out]; exact h1)
    have h1i : (65536 : Int) < (len : Int) := by omega
    clear hr
    go_enter Try.func27, Try.ntmps27
    go_wp2_with fail
    go_ret2
    rw [HE.out]
    exact ⟨_, rfl, own_none _ _, Below.refl _ _⟩
  · have HE : Hid (encoded t = (flush (packed (pairsOf (textLens t) ++ [0]) (bitsOf (codesOf (textLens t)) t)), 0)) := if_neg (by rw [HL.out]; exact h1)
    have ht : t.length ≤ 65536 := by rw [HL.out]; omega
    have HTL := hide (textLens_ok t ht)
    have HLO := hide (codes_lenOk t ht)
    have HT := hide ht
    have HR := hide hr
    clear hr ht
    have h1i : (len : Int) ≤ 65536 := by omega
    have hmk := make_row_i64 256 256 rfl (by omega)
    obtain ⟨ZT, hZT⟩ : ∃ ZT, (ivals (List.replicate 256 0)).toArray = ZT := ⟨_, rfl⟩
    rw [hZT] at hmk
    have HZT := hide hZT
    clear hZT
    go_enter Try.func27, Try.ntmps27
    go_wp2_with fail
    generalize hW1 : w.alloc _ = W1
    have HN : Hid (RowI 2 W1 w.heap.size (List.replicate 256 0)) := by rw [← hW1, ← HZT.out]; exact rowi_new _ _ _
    have HB0 : Hid (Below w.heap.size w W1) := by rw [← hW1]; exact (Below.refl _ _).alloc (Nat.le_refl _) _
    clear hW1 hmk
    obtain ⟨g, hg⟩ : ∃ g, w.heap.size = g := ⟨_, rfl⟩
    rw [hg] at HN ⊢
    have HG : Hid (w.heap.size = g) := hg
    clear hg
    go_loopw [5] (fun i wr => ∃ k : Nat, k ≤ len ∧ i = .int .i64 (k : Int) ∧ Hid (RowI 2 wr g (countsOf (t.take k))) ∧ Hid (Below w.heap.size w wr)) (fun i _ => len - (intOf i).toNat)
    case atStart => exact ⟨0, Nat.zero_le _, rfl, by rw [List.take_zero, countsOf_nil]; exact HN, HB0⟩
    case round =>
      clear HN HB0
      obtain ⟨k, hk, rfl, HRW, HB⟩ := hrel
      by_cases hlt : k < len
      · have hki : (k : Int) < (len : Int) := by omega
        obtain ⟨b1, o1, rfl, hb1, hc1⟩ := HR.out.2.2 (by omega)
        have g1 := hc1 k hlt
        rw [← HB.out.cell (p := ⟨b1, o1 + k, none⟩) hb1] at g1
        have HNX := hide (countsOf_next (t.take k) (t.getD k 0))
        rw [← getD_take t k (by rw [HL.out]; exact hlt)] at HNX
        have g2 := HRW.out.cell (t.getD k 0).toNat (by rw [countsOf_len]; exact lt8 _)
        have f2 := HRW.out.frozen (t.getD k 0).toNat
        have HCT : Hid (0 ≤ (countsOf (t.take k)).getD (t.getD k 0).toNat 0 ∧ (countsOf (t.take k)).getD (t.getD k 0).toNat 0 ≤ 1099511627776) := allIn_get (countsOf_in (t.take k) (by rw [List.length_take]; have := HT.out; omega)) _ (by rw [countsOf_len]; exact lt8 _)
        have hC := lt8 (t.getD k 0)
        generalize (t.getD k 0).toNat = C at g1 g2 f2 HNX HCT hC
        generalize (countsOf (t.take k)).getD C 0 = x at g2 HNX HCT
        have hx0 : 0 ≤ x := HCT.out.1
        have hx1 : x ≤ 1099511627776 := HCT.out.2
        have hCi : (C : Int) < 256 := by omega
        clear HCT hc1
        go_wp2_with fail
        go_roundw
        case rel => exact ⟨k + 1, by omega, by go_num, by rw [← HNX.out]; exact HRW.out.store C _, HB.out.setCell (Nat.le_of_eq HG.out) _⟩
        case measure => simp [intOf]; omega
      · have h0 : k = len := by omega
        subst h0
        rw [List.take_of_length_le (by rw [HL.out]; exact Nat.le_refl _)] at HRW
        have HRD : Hid (RdI wr (some ⟨g, 0, none⟩) 256 (countsOf t)) := by
          have := HRW.out.rd 256 (by rw [countsOf_len]; omega) (by omega)
          rwa [List.take_of_length_le (by rw [countsOf_len]; omega)] at this
        have HLE := hide (fun W h => Pm.refLengths_any (some ⟨g, 0, none⟩) 256 256 (countsOf t) 15 W h)
        rw [HTL.out.2.1] at HLE
        have HCO := hide (fun a c W h => refCodes_any a 256 c (textLens t) W h)
        rw [HTL.out.2.2.1] at HCO
        have hki : ¬ (k : Int) < (k : Int) := by omega
        go_wp2_with fail
        refine (HLE.out _ HRD.out).mono ?_
        rintro e w1 ⟨v1, rfl, ho1, hb1⟩
        obtain ⟨g1, c1, hv1, hc1, hc2⟩ := pm_shape ho1 (by rw [textLens_len]; omega)
        rw [textLens_len] at hv1 hc2
        subst hv1
        have HO1 := hide ho1
        have HR1 : Hid (RdI w1 (some ⟨g1, 0, none⟩) 256 (textLens t)) := ho1.rd (by rw [textLens_len]; omega)
        have HB1 : Hid (Below w.heap.size w w1) := HB.out.trans (hb1.mono HB.out.size)
        clear ho1 hb1 HLE HRD
        go_wp2_with fail
        refine (HCO.out _ _ _ HR1.out).mono ?_
        rintro e w2 ⟨v2, rfl, ho2, hb2⟩
        obtain ⟨a2, c2, hv2⟩ := OwnC.shape ho2
        rw [HLO.out.1] at hv2
        subst hv2
        obtain ⟨g2, rfl⟩ := OwnC.some' ho2 (by omega)
        have HO2 := hide ho2
        have HB2 : Hid (Below w.heap.size w w2) := HB1.out.trans (hb2.mono HB1.out.size)
        have HR2 := hide (HR1.out.below hb2)
        clear ho2 hb2 HCO
        have HPL := hide (refPairs_any (some ⟨g1, 0, none⟩) 256 c1 (textLens t) w2 HR2.out (by omega) HTL.out.1.all)
        go_wp2_with fail
        refine HPL.out.mono ?_
        rintro e w3 ⟨v3, rfl, ho3, hb3⟩
        have HPW : Hid ((pairsOf (textLens t) ++ [0]).length ≤ 65536 ∧ 0 < (pairsOf (textLens t) ++ [0]).length) := pairs_small _ (by rw [textLens_len]; omega)
        obtain ⟨g3, c3, hv3⟩ : ∃ g c, v3 = .slice (some ⟨g, 0, none⟩) (pairsOf (textLens t) ++ [0]).length c := by
          rcases ho3.2 with ⟨h1, h2⟩ | ⟨g, c, cur, h1, _⟩
          · have := HPW.out.2; omega
          · exact ⟨g, c, h1⟩
        subst hv3
        have HO3 := hide (ho3.mono HB2.out.size)
        have HB3 : Hid (Below w.heap.size w w3) := HB2.out.trans (hb3.mono HB2.out.size)
        have HPA := hide (packed_app (pairsOf (textLens t) ++ [0]) (bitsOf (codesOf (textLens t)) t))
        have HWD := hide (refWords_any t a k cap _ g2 c2 (codesOf (textLens t)) w3 (HR.out.below HB3.out) (by omega) (HO2.out.below hb3) HLO.out)
        have HFL : Hid ((flush (packed [] (bitsOf (codesOf (textLens t)) t))).length ≤ 983041) := by
          show _ ≤ _
          rw [flushed_len _ (bitsOf_le _ _)]
          have h1 := bitsOf_len (codesOf (textLens t)) HLO.out t
          have h2 := HT.out
          omega
        have hs3 := HB3.out.size
        clear ho3 hb3 HPL
        generalize flush (packed [] (bitsOf (codesOf (textLens t)) t)) = WD at HPA HWD HFL
        generalize pairsOf (textLens t) ++ [0] = PB at HPW HO3 HPA HE ⊢
        go_wp2_with fail
        refine HWD.out.mono ?_
        rintro e w4 ⟨v4, rfl, ho4, hb4⟩
        obtain ⟨va, vc, hv4⟩ := ho4.shape
        subst hv4
        have HO4 := hide ho4
        have HP4 := hide (HO3.out.below hb4)
        have HB4 : Hid (Below w.heap.size w w4) := HB3.out.trans (hb4.mono HB3.out.size)
        have hs4 := HB4.out.size
        clear ho4 hb4
        go_wp2_with (at_builtin; refine join _ rfl _ _ rfl w.heap.size (.slice (some ⟨g3, 0, none⟩) PB.length c3) PB rfl HP4.out va WD.length vc WD rfl (Got.rd HO4.out (by have := HFL.out; omega)) (Got.nil HO4.out) (by have := HFL.out; have := HPW.out; omega) hs4 ?_
                     intro v5 w5 ho5 hg5
                     have HO5 := hide ho5
                     have HB5 : Hid (Below w.heap.size w w5) := HB4.out.grown hg5 hs4 (fun i e => (World.ownsRow.lt HP4.out i e).1)
                     clear ho5 hg5)
        go_ret2
        rw [HE.out, HPA.out]
        exact ⟨v5, rfl, HO5.out, HB5.out⟩
end Go.Proofs.Ytalnhhpcncjflaa.Huff
