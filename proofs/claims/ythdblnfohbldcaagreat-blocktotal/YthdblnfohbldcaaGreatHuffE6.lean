/-
  Encode, at any text.
-/
import Derived.Test.YthdblnfohbldcaaGreatHuffE5
import Derived.Test.YthdblnfohbldcaaGreatHuffS6
namespace Go.Proofs.YthdblnfohbldcaaGreat.Huff
open Go.ChangeShapes Go.WideShapes Go.ChangeAt Go.RowKit
open Go.Proofs.YthdblnfohbldcaaGreat.Base
set_option linter.unusedVariables false
theorem z256 : Tryz.zeroCells95 = (ivals (List.replicate 256 0)).toArray := by kernel_rfl
theorem trimmed_le (ls : List Int) : (trimmed ls).length ≤ ls.length := by
  unfold trimmed
  have := (List.dropWhile_sublist (fun x : Int => decide (x = 0)) (l := ls.reverse)).length_le
  rw [List.length_reverse] at this ⊢
  exact this
theorem pairs_small (ls : List Int) (h : ls.length ≤ 256) : (pairsOf ls ++ [0]).length ≤ 65536 ∧ 0 < (pairsOf ls ++ [0]).length := by
  have h1 := trimmed_le ls
  have h2 := pairs_len (trimmed ls).length (trimmed ls) (by omega)
  unfold pairsOf
  rw [List.length_append, List.length_singleton]
  omega
theorem pm_shape {w : World} {base : Nat} {v : Value} {xs : List Int} (h : Pm.OwnI w base v xs) (hx : 0 < xs.length) : ∃ g c, v = .slice (some ⟨g, 0, none⟩) xs.length c ∧ c ≤ 9223372036854775807 ∧ xs.length ≤ c := by
  rcases h.2 with ⟨h1, h2⟩ | ⟨g, c, cur, h1, _, _, h4, h5, _⟩
  · omega
  · exact ⟨g, c, h1, by unfold maxLen at h5; omega, h4⟩
set_option maxHeartbeats 2000000 in
set_option maxRecDepth 100000 in
theorem encode_any (a : Option Addr) (len cap : Nat) (t : List (BitVec 8)) (w : World) (hr : Rd w a len t) (hc : len ≤ cap) :
    Calls Tryz.prog 15 #[.slice a len cap] w fun e w' => ∃ v, e = .returned (.tuple #[v, .int .i64 (encoded t).2]) ∧ Own w' w.heap.size v (encoded t).1 ∧ Below w.heap.size w w' := by
  have HL := hide hr.1
  by_cases h1 : 65536 < len
  · have HE : Hid (encoded t = ([], 2)) := if_pos (by rw [HL.out]; exact h1)
    have h1i : (65536 : Int) < (len : Int) := by omega
    clear hr
    go_enter Tryz.func15, Tryz.ntmps15
    go_wp2_with fail
    go_ret2
    rw [HE.out]
    exact ⟨_, rfl, own_none _ _, Below.refl _ _⟩
  · have HE : Hid (encoded t = (flush (packed (pairsOf (textLens t) ++ [0]) (bitsOf (codesOf (textLens t)) t)), 0)) := if_neg (by rw [HL.out]; exact h1)
    have ht : t.length ≤ 65536 := by rw [HL.out]; omega
    have HTL := hide (textLens_ok t ht)
    have HLO := hide (codes_lenOk t ht)
    have HT := hide ht
    have HR := hide hr
    clear hr ht
    have h1i : (len : Int) ≤ 65536 := by omega
    go_enter Tryz.func15, Tryz.ntmps15
    go_wp2_with fail
    generalize hW1 : w.alloc _ = W1
    have HN : Hid (RowI 95 W1 w.heap.size (List.replicate 256 0)) := by rw [← hW1, z256]; exact rowi_new _ _ _
    have HB0 : Hid (Below w.heap.size w W1) := by rw [← hW1]; exact (Below.refl _ _).alloc (Nat.le_refl _) _
    clear hW1
    obtain ⟨g, hg⟩ : ∃ g, w.heap.size = g := ⟨_, rfl⟩
    rw [hg] at HN ⊢
    have HG : Hid (w.heap.size = g) := hg
    clear hg
    go_loopw [15] (fun i wr => ∃ k : Nat, k ≤ len ∧ i = .int .i64 (k : Int) ∧ Hid (RowI 95 wr g (countsOf (t.take k))) ∧ Hid (Below w.heap.size w wr)) (fun i _ => len - (intOf i).toNat)
    case atStart => exact ⟨0, Nat.zero_le _, rfl, by rw [List.take_zero, countsOf_nil]; exact HN, HB0⟩
    case round =>
      clear HN HB0
      obtain ⟨k, hk, rfl, HRW, HB⟩ := hrel
      by_cases hlt : k < len
      · have hki : (k : Int) < (len : Int) := by omega
        obtain ⟨b1, o1, rfl, hb1, hc1⟩ := HR.out.2.2 (by omega)
        have g1 := hc1 k hlt
        rw [← HB.out.cell (p := ⟨b1, o1 + k, none⟩) hb1] at g1
        have HNX := hide (countsOf_next (t.take k) (t.getD k 0))
        rw [← getD_take t k (by rw [HL.out]; exact hlt)] at HNX
        have g2 := HRW.out.cell (t.getD k 0).toNat (by rw [countsOf_len]; exact lt8 _)
        have f2 := HRW.out.frozen (t.getD k 0).toNat
        have HCT : Hid (0 ≤ (countsOf (t.take k)).getD (t.getD k 0).toNat 0 ∧ (countsOf (t.take k)).getD (t.getD k 0).toNat 0 ≤ 1099511627776) := allIn_get (countsOf_in (t.take k) (by rw [List.length_take]; have := HT.out; omega)) _ (by rw [countsOf_len]; exact lt8 _)
        have hC := lt8 (t.getD k 0)
        generalize (t.getD k 0).toNat = C at g1 g2 f2 HNX HCT hC
        generalize (countsOf (t.take k)).getD C 0 = x at g2 HNX HCT
        have hx0 : 0 ≤ x := HCT.out.1
        have hx1 : x ≤ 1099511627776 := HCT.out.2
        clear HCT hc1
        go_wp2_with fail
        go_roundw
        case rel => exact ⟨k + 1, by omega, by go_num, by rw [← HNX.out]; exact HRW.out.store C _, HB.out.setCell (Nat.le_of_eq HG.out) _⟩
        case measure => simp [intOf]; omega
      · have h0 : k = len := by omega
        subst h0
        rw [List.take_of_length_le (by rw [HL.out]; exact Nat.le_refl _)] at HRW
        have HRD : Hid (RdI wr (some ⟨g, 0, none⟩) 256 (countsOf t)) := by
          have := HRW.out.rd 256 (by rw [countsOf_len]; omega) (by omega)
          rwa [List.take_of_length_le (by rw [countsOf_len]; omega)] at this
        have HLE := hide (fun W h => Pm.lengths_any (some ⟨g, 0, none⟩) 256 256 (countsOf t) 15 W h (fun e => by cases e))
        rw [HTL.out.2.1] at HLE
        have HCO := hide (fun a c W h => codes_any a 256 c (textLens t) W h)
        rw [HTL.out.2.2.1] at HCO
        go_wp2_with fail
        refine (HLE.out _ HRD.out).mono ?_
        rintro e w1 ⟨v1, rfl, ho1, hb1⟩
        obtain ⟨g1, c1, hv1, hc1, hc2⟩ := pm_shape ho1 (by rw [textLens_len]; omega)
        rw [textLens_len] at hv1 hc2
        subst hv1
        have HO1 := hide ho1
        have HR1 : Hid (RdI w1 (some ⟨g1, 0, none⟩) 256 (textLens t)) := ho1.rd (by rw [textLens_len]; omega)
        have HB1 : Hid (Below w.heap.size w w1) := HB.out.trans (hb1.mono HB.out.size)
        clear ho1 hb1 HLE HRD
        go_wp2_with fail
        refine (HCO.out _ _ _ HR1.out).mono ?_
        rintro e w2 ⟨v2, rfl, ho2, hb2⟩
        obtain ⟨a2, c2, hv2⟩ := OwnC.shape ho2
        rw [HLO.out.1] at hv2
        subst hv2
        obtain ⟨g2, rfl⟩ := OwnC.some' ho2 (by omega)
        have HO2 := hide ho2
        have HB2 : Hid (Below w.heap.size w w2) := HB1.out.trans (hb2.mono HB1.out.size)
        have HR2 := hide (HR1.out.below hb2)
        have HRT := hide (HR.out.below HB2.out)
        clear ho2 hb2 HCO
        have HPL := hide (putLengths_any (some ⟨g1, 0, none⟩) 256 c1 (textLens t) w2 HR2.out hc2 hc1 (by omega) HTL.out.1.all)
        go_wp2_with fail
        refine HPL.out.mono ?_
        rintro e w3 ⟨v3, rfl, ho3, hb3⟩
        have HPW : Hid ((pairsOf (textLens t) ++ [0]).length ≤ 65536 ∧ 0 < (pairsOf (textLens t) ++ [0]).length) := pairs_small _ (by rw [textLens_len]; omega)
        obtain ⟨g3, c3, hv3⟩ : ∃ g c, v3 = .slice (some ⟨g, 0, none⟩) (pairsOf (textLens t) ++ [0]).length c := by
          rcases ho3.2 with ⟨h1, h2⟩ | ⟨g, c, cur, h1, _⟩
          · have := HPW.out.2; omega
          · exact ⟨g, c, h1⟩
        subst hv3
        have HPX := hide (putWords_any g3 c3 (pairsOf (textLens t) ++ [0]) t a k cap _ g2 c2 (codesOf (textLens t)) w2 w3 ho3 hb3 HRT.out (by omega) HO2.out HLO.out HPW.out.1)
        clear ho3
        generalize (pairsOf (textLens t) ++ [0]).length = n3 at HPX ⊢
        go_wp2_with fail
        refine HPX.out.mono ?_
        rintro e w4 ⟨v4, rfl, ho4, hb4⟩
        have HO4 := hide (ho4.mono HB2.out.size)
        have HB4 : Hid (Below w.heap.size w w4) := HB2.out.trans (hb4.mono HB2.out.size)
        clear ho4 hb4
        go_wp2_with fail
        go_ret2
        rw [HE.out]
        exact ⟨v4, rfl, HO4.out, HB4.out⟩
end Go.Proofs.YthdblnfohbldcaaGreat.Huff
