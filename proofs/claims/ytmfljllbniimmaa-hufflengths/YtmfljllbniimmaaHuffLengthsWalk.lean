/-
  The walk of the statement HuffLengths.
-/
import Derived.Test.YtmfljllbniimmaaHuffT6
import Derived.Test.YtmfljllbniimmaaHuffK2c
import Derived.Test.YtmfljllbniimmaaHuffK6
import Derived.Deep.RegionHeld
import Derived.Deep.DeepCutAuto
namespace Go.Proofs.Ytmfljllbniimmaa.huffLengths
open Go.ChangeShapes Go.WideShapes Go.ChangeAt Go.RowKit
open Go.Proofs.Ytmfljllbniimmaa.Base Go.Proofs.Ytmfljllbniimmaa.Huff
set_option linter.unusedVariables false
theorem row_front {t : TypeId} {w : World} {g n : Nat} {xs ys : List Int} (h : RowI t w g (xs ++ ys)) (hn : xs.length = n) (hl : n ≤ 17592186044416) : RdI w (some ⟨g, 0, none⟩) n xs := by
  have := h.rd n (by rw [List.length_append]; omega) hl
  rwa [List.take_append_of_le_length (by omega), List.take_of_length_le (by omega)] at this
theorem lengthsd_len (cs : List Int) (lim : Int) : (Pm.lengthsd cs lim).1.length ≤ 256 := by
  unfold Pm.lengthsd
  split
  · simp
  · split
    · simp
    · split
      · simp
      · have e : (Pm.lensBy cs lim.toNat).length = cs.length := by simp [Pm.lensBy]
        simp only [] at *
        omega
theorem lens_at (ls : List Int) (lim : Int) (C : List Int) (E : Int) (h : Pm.lengthsd ls lim = (C, E)) (a : Option Addr) (len cap : Nat) (w : World) (hr : RdI w a len ls) (h0 : a = none → len = 0) :
    Calls Try.prog 10 #[.slice a len cap, .int .i64 lim] w fun e w' => ∃ v, e = .returned (.tuple #[v, .int .i64 E]) ∧ Base.OwnI w' w.heap.size v C ∧ Below w.heap.size w w' := by
  have := Pm.lengths_any a len cap ls lim w hr h0
  rw [h] at this
  exact this
theorem ref_at (ls : List Int) (lim : Int) (C : List Int) (E : Int) (h : Pm.lengthsd ls lim = (C, E)) (a : Option Addr) (len cap : Nat) (w : World) (hr : RdI w a len ls) :
    Calls Try.prog 11 #[.slice a len cap, .int .i64 lim] w fun e w' => ∃ v, e = .returned (.tuple #[v, .int .i64 E]) ∧ Base.OwnI w' w.heap.size v C ∧ Below w.heap.size w w' := by
  have := Pm.refLengths_any a len cap ls lim w hr
  rw [h] at this
  exact this
theorem named {w : World} {base : Nat} {v : Value} {cs : List Int} (h : Base.OwnI w base v cs) : ∃ a c, v = .slice a cs.length c := h.shape
theorem blkC {w : World} {base : Nat} {v : Value} {cs : List Int} (h : Base.OwnI w base v cs) : ∀ i, v.ownBlock = some i → base ≤ i ∧ i < w.heap.size := fun i e => World.ownsRow.lt h i e
set_option maxHeartbeats 2000000 in
set_option maxRecDepth 100000 in
theorem walk (a0 : Option Addr) (len0 cap0 : Nat) (b0 : List Int) (n1 : Int) (w : World) (r0 : RdI w a0 len0 b0) (l0 : len0 ≤ cap0) (m0 : cap0 ≤ 17592186043904) (w1' : (Lit.int .i64 n1).wf = true) :
    Calls Try.prog 3 #[.slice a0 len0 cap0, .int .i64 n1] w fun e w' => e = .returned (.bool true) ∧ Below w.heap.size w w' := by
  have HL0 := hide r0.1
  have R0 := hide r0
  have h0i : (len0 : Int) ≤ 17592186043904 := by omega
  clear r0
  obtain ⟨C, E, hCE⟩ : ∃ C E, Pm.lengthsd b0 n1 = (C, E) := ⟨_, _, rfl⟩
  have HCE := hide hCE
  have HCL : Hid (C.length ≤ 256) := by have := lengthsd_len b0 n1; rw [hCE] at this; exact this
  obtain ⟨N, hN⟩ : ∃ N, C.length = N := ⟨_, rfl⟩
  have HN := hide hN
  have hNb : N ≤ 256 := by rw [← hN]; exact HCL.out
  have hNi : (N : Int) ≤ 256 := by omega
  clear hCE hN
  have he : (E != E) = false := by simp
  go_enter Try.func3, Try.ntmps3
  go_wp2_with fail
  refine (roomyCounts_any a0 len0 cap0 b0 w R0.out (by omega)).mono ?_
  rintro e w1 ⟨rfl, hrow1, hb1⟩
  have HX1 := hide hrow1
  have HB1 := hide hb1
  obtain ⟨gx, hgx⟩ : ∃ gx, w.heap.size = gx := ⟨_, rfl⟩
  have HGX : Hid (w.heap.size ≤ gx) := by rw [hgx]; exact Nat.le_refl _
  rw [hgx] at HX1 ⊢
  clear hrow1 hb1 hgx
  have hx4 : len0 ≤ len0 + 64 := by omega
  have hx5 : (len0 : Int) ≤ (len0 : Int) + 64 := by omega
  go_wp2_with fail
  refine (lens_at b0 n1 C E HCE.out _ len0 _ w1 (row_front HX1.out HL0.out (by omega)) (fun h => by cases h)).mono ?_
  rintro e w2 ⟨v2, rfl, ho2, hb2⟩
  obtain ⟨a2, c2, rfl⟩ := named ho2
  rw [HN.out] at ho2 ⊢
  have HB2 := hide (below_trans HB1.out hb2)
  have HX2 := hide (HX1.out.below hb2)
  have HO2 := hide ho2
  have HK2 : Hid (∀ i, (Value.slice a2 N c2).ownBlock = some i → w1.heap.size ≤ i ∧ i < w2.heap.size) := blkC ho2
  have HGL : Hid (gx < w1.heap.size) := HX1.out.lt
  have hs1 : w.heap.size ≤ w1.heap.size := HB1.out.size
  have hs12 : w1.heap.size ≤ w2.heap.size := hb2.size
  clear hb2 ho2 HB1 HX1
  go_wp2_with fail
  refine (lens_at b0 n1 C E HCE.out _ len0 _ w2 (row_front HX2.out HL0.out (by omega)) (fun h => by cases h)).mono ?_
  rintro e w3 ⟨v3, rfl, ho3, hb3⟩
  obtain ⟨a3, c3, rfl⟩ := named ho3
  rw [HN.out] at ho3 ⊢
  have HB3 := hide (below_trans HB2.out hb3)
  have HX3 := hide (HX2.out.below hb3)
  have HO3 := hide (HO2.out.below hb3)
  have HT3 := hide ho3
  have HK3 : Hid (∀ i, (Value.slice a3 N c3).ownBlock = some i → w2.heap.size ≤ i) := fun i e => (blkC ho3 i e).1
  have hs13 : w1.heap.size ≤ w3.heap.size := Nat.le_trans hs12 hb3.size
  have HOV : Hid (OverI w3 w3 w1.heap.size (.slice a2 N c2) (.slice a2 N c2) N) := by
    have h := OverI.start HO3.out
    rw [HN.out] at h
    exact h
  clear hb3 ho3 HB2 HX2 HO2
  go_wp2_with fail
  go_loopw [10] (fun i wr => ∃ k : Nat, k ≤ N ∧ i = .int .i64 (k : Int) ∧ Hid (OverI w3 wr w1.heap.size (.slice a2 N c2) (.slice a2 N c2) N)) (fun i _ => N - (intOf i).toNat)
  case atStart => exact ⟨0, Nat.zero_le _, rfl, HOV⟩
  case round =>
    clear HOV
    obtain ⟨k, hk, rfl, HOV⟩ := hrel
    by_cases hlt : (k : Int) < (N : Int)
    · obtain ⟨g2, rfl⟩ := HOV.out.some' (by omega)
      obtain ⟨⟨d, hd1⟩, hf1⟩ := HOV.out.cell k (by omega)
      go_wp2_with fail
      go_roundw
      case rel => exact ⟨k + 1, by omega, by go_num, HOV.out.store k (-3)⟩
      case measure => simp [intOf]; omega
    · go_wp2_with fail
      go_loopw [6, 11] (fun v i w2' => ∃ (j : Nat) (va : Option Addr) (vc : Nat), j ≤ 64 ∧ i = .int .i64 (j : Int) ∧ v = .slice va (N + j) vc ∧ Hid (OverI w3 w2' w1.heap.size (.slice a2 N c2) (.slice va (N + j) vc) (N + j))) (fun _ i _ => 64 - (intOf i).toNat)
      case atStart => exact ⟨0, a2, c2, Nat.zero_le _, rfl, rfl, HOV⟩
      case round =>
        clear HOV
        obtain ⟨j, va, vc, hj, rfl, rfl, HOV⟩ := hrel
        by_cases hlt2 : (j : Int) < 64
        · have HOA := hide (HOV.out.alloc (.cells #[.int .i64 (-4)] 3))
          have hsr : w1.heap.size ≤ wr.heap.size := Nat.le_trans hs13 HOV.out.2.2.size
          go_wp2_with (at_builtin; refine pushOverI w3 _ rfl _ _ rfl w1.heap.size _ _ (N + j) rfl HOA.out ⟨wr.heap.size, 0, none⟩ 1 (-4) rfl (cell_one_new _ _ _ 0 _ rfl) (by omega) (by simp; omega) ?_
                       intro g5 c5 w9 hov
                       have HOV9 := hide hov
                       clear hov)
          go_roundw
          case rel => exact ⟨j + 1, _, c5, by omega, by go_num, rfl, HOV9⟩
          case measure => simp [intOf]; omega
        · obtain rfl : j = 64 := by omega
          have HX9 := hide (HX3.out.grown HOV.out.2.2 (fun e => by have h1 := (HK2.out _ e).1; have h2 := HGL.out; omega))
          have HT9 := hide (ownI_keep HT3.out HOV.out.2.2 (fun i e e2 => by have h1 := HK3.out i e; have h2 := (HK2.out i e2).2; omega))
          have HB9 := hide (HOV.out.below HB3.out (fun i e => by have h1 := (HK2.out i e).1; omega))
          have hq : (((N : Int) + 64) != ((N : Int) + 64)) = false := by simp
          clear HOV HX3 HT3 HB3 HO3
          go_wp2_with fail
          refine (ref_at b0 n1 C E HCE.out _ len0 _ wr (R0.out.below HB9.out)).mono ?_
          rintro e w10 ⟨v10, rfl, ho10, hb10⟩
          obtain ⟨a10, c10, rfl⟩ := named ho10
          rw [HN.out] at ho10 ⊢
          have HB10 := hide (below_trans HB9.out hb10)
          have HX10 := hide (HX9.out.below hb10)
          have HT10 := hide (HT9.out.below hb10)
          have HW10 := hide ho10
          clear hb10 ho10 HB9 HX9 HT9
          go_wp2_with fail
          refine (sameInts_eq _ _ N _ _ C w10 (HT10.out.rd (by rw [HN.out]; omega)) (HW10.out.rd (by rw [HN.out]; omega))).mono ?_
          rintro e w11 ⟨rfl, hb11⟩
          have HB11 := hide (below_trans HB10.out hb11)
          have HX11 := hide (HX10.out.below hb11)
          clear hb11 HB10 HX10 HT10 HW10
          go_wp2_with fail
          refine (keptCounts_any gx len0 a0 cap0 b0 w11 HX11.out (R0.out.below HB11.out) (by omega)).mono ?_
          rintro e w12 ⟨rfl, hb12⟩
          have HB12 := hide (below_trans HB11.out hb12)
          have HX12 := hide (HX11.out.below hb12)
          clear hb12 HB11 HX11
          obtain ⟨C2, E2, hCE2⟩ : ∃ C E, Pm.lengthsd (bk b0) n1 = (C, E) := ⟨_, _, rfl⟩
          have HCE2 := hide hCE2
          have HCL2 : Hid (C2.length ≤ 256) := by have := lengthsd_len (bk b0) n1; rw [hCE2] at this; exact this
          obtain ⟨N2, hN2⟩ : ∃ N, C2.length = N := ⟨_, rfl⟩
          have HN2 := hide hN2
          have hNb2 : N2 ≤ 256 := by rw [← hN2]; exact HCL2.out
          have he2 : (E2 == E2) = true := by simp
          have HKL : Hid ((bk b0).length = len0) := by show _ = _; rw [bk_len]; exact HL0.out
          clear hCE2 hN2
          go_wp2_with fail
          refine (roomyCounts_any a0 len0 cap0 b0 w12 (R0.out.below HB12.out) (by omega)).mono ?_
          rintro e w13 ⟨rfl, hrow13, hb13⟩
          have HR13 := hide hrow13
          have HB13 := hide (below_trans HB12.out hb13)
          have HX13 := hide (HX12.out.below hb13)
          obtain ⟨gr, hgr⟩ : ∃ gr, w12.heap.size = gr := ⟨_, rfl⟩
          have HRL : Hid (w.heap.size ≤ gr) := by rw [← hgr]; exact HB12.out.size
          have HXR : Hid (gx < gr) := by rw [← hgr]; exact HX12.out.lt
          rw [hgr] at HR13 ⊢
          clear hrow13 hb13 hgr HB12 HX12
          go_wp2_with fail
          refine (backCounts_any gr len0 (len0 + 64) b0 marksI w13 HR13.out HL0.out (by omega)).mono ?_
          rintro e w14 ⟨rfl, hrow14, hg14⟩
          have HR14 := hide hrow14
          have HB14 := hide (HB13.out.grown hg14 HB13.out.size (fun i h => by have := HRL.out; have := Option.some.inj h; omega))
          have HX14 := hide (HX13.out.grown hg14 (fun e => by have := HXR.out; have := Option.some.inj e; omega))
          clear hrow14 hg14 HB13 HX13 HR13
          go_wp2_with fail
          refine (backCounts_any gx len0 (len0 + 64) b0 marksI w14 HX14.out HL0.out (by omega)).mono ?_
          rintro e w15 ⟨rfl, hrow15, hg15⟩
          have HX15 := hide hrow15
          have HB15 := hide (HB14.out.grown hg15 HB14.out.size (fun i h => by have := HGX.out; have := Option.some.inj h; omega))
          have HR15 := hide (HR14.out.grown hg15 (fun e => by have := HXR.out; have := Option.some.inj e; omega))
          clear hrow15 hg15 HB14 HX14 HR14
          go_wp2_with fail
          refine (lens_at (bk b0) n1 C2 E2 HCE2.out _ len0 _ w15 (row_front HX15.out HKL.out (by omega)) (fun h => by cases h)).mono ?_
          rintro e w16 ⟨v16, rfl, ho16, hb16⟩
          obtain ⟨a16, c16, rfl⟩ := named ho16
          rw [HN2.out] at ho16 ⊢
          have HB16 := hide (below_trans HB15.out hb16)
          have HR16 := hide (HR15.out.below hb16)
          have HO16 := hide ho16
          clear hb16 ho16 HB15 HX15 HR15
          go_wp2_with fail
          refine (ref_at (bk b0) n1 C2 E2 HCE2.out _ len0 _ w16 (row_front HR16.out HKL.out (by omega))).mono ?_
          rintro e w17 ⟨v17, rfl, ho17, hb17⟩
          obtain ⟨a17, c17, rfl⟩ := named ho17
          rw [HN2.out] at ho17 ⊢
          have HB17 := hide (below_trans HB16.out hb17)
          have HO17 := hide (HO16.out.below hb17)
          have HP17 := hide ho17
          clear hb17 ho17 HB16 HO16 HR16
          go_wp2_with fail
          refine (sameInts_eq _ _ N2 _ _ C2 w17 (HO17.out.rd (by rw [HN2.out]; omega)) (HP17.out.rd (by rw [HN2.out]; omega))).mono ?_
          rintro e w18 ⟨rfl, hb18⟩
          have HB18 := hide (below_trans HB17.out hb18)
          clear hb18
          go_wp2_with fail
          go_ret
          exact ⟨rfl, HB18.out⟩
end Go.Proofs.Ytmfljllbniimmaa.huffLengths
