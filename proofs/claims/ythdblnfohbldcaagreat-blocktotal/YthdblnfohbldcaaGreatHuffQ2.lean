/-
  both: two packages put together.
-/
import Derived.Test.YthdblnfohbldcaaGreatHuffQ1
namespace Go.Proofs.YthdblnfohbldcaaGreat.Pm
open Go.ChangeShapes Go.WideShapes Go.ChangeAt Go.RowKit
open Go.Proofs.YthdblnfohbldcaaGreat.Base
set_option linter.unusedVariables false
/-- The first k of the sums are laid. -/
def sumsTo (x y : Pk) (k : Nat) : Pk := (x.1 + y.1, (both x y).2.take k ++ List.replicate (256 - k) 0)
theorem sumsTo_zero (x y : Pk) (S : Nat) (h : x.1 + y.1 = S) : (S, zpack.2) = sumsTo x y 0 := by unfold sumsTo zpack; rw [h, List.take_zero, List.nil_append, Nat.sub_zero]
theorem both_len (x y : Pk) (hx : x.2.length = 256) (hy : y.2.length = 256) : (both x y).2.length = 256 := both_wide x y 256 hx hy
theorem sumsTo_len (x y : Pk) (hx : x.2.length = 256) (hy : y.2.length = 256) (k : Nat) (hk : k ≤ 256) : (sumsTo x y k).2.length = 256 := by
  simp only [sumsTo, List.length_append, List.length_take, List.length_replicate, both_len x y hx hy]; omega
theorem sumsTo_all (x y : Pk) (hx : x.2.length = 256) (hy : y.2.length = 256) : sumsTo x y 256 = both x y := by
  have h := both_len x y hx hy
  have e : (both x y).2.take 256 = (both x y).2 := List.take_of_length_le (by omega)
  unfold sumsTo
  rw [e, Nat.sub_self, List.replicate_zero, List.append_nil]; rfl
theorem sumsTo_set (x y : Pk) (hx : x.2.length = 256) (hy : y.2.length = 256) (k : Nat) (hk : k < 256) (c : Nat) (hc : x.2.getD k 0 + y.2.getD k 0 = c) : ((sumsTo x y k).1, (sumsTo x y k).2.set k c) = sumsTo x y (k + 1) := by
  have h := both_len x y hx hy
  have hg := both_get x y k (by rw [hx, hy])
  rw [hc] at hg
  unfold sumsTo
  simp only
  have hl : ((both x y).2.take k).length = k := by rw [List.length_take]; omega
  rw [List.set_append_right _ _ (by omega), hl, Nat.sub_self, show 256 - k = (256 - (k + 1)) + 1 by omega, List.replicate_succ, List.set_cons_zero,
    List.take_succ_eq_append_getElem (by omega), List.append_assoc]
  rw [List.getD_eq_getElem?_getD, List.getElem?_eq_getElem (by omega)] at hg
  simp only [Option.getD_some] at hg
  rw [hg]
  rfl
set_option maxHeartbeats 1000000 in
set_option maxRecDepth 100000 in
theorem both_any (b1 o1 b2 o2 : Nat) (x y : Pk) (w : World) (h1 : w.rangeAt b1 o1 (pcells .u8 x)) (h2 : w.rangeAt b2 o2 (pcells .u8 y)) (hb1 : b1 < w.heap.size) (hb2 : b2 < w.heap.size)
    (hx : x.2.length = 256) (hy : y.2.length = 256) (hw : x.1 + y.1 ≤ 4611686018427387904) (ht : ∀ s, x.2.getD s 0 + y.2.getD s 0 ≤ 255) :
    Calls Tryz.prog 168 #[.pointer (some ⟨b1, o1, none⟩), .pointer (some ⟨b2, o2, none⟩)] w fun e w' => e = .returned (.agg (pcells .u8 (both x y)).toArray) ∧ Below w.heap.size w w' := by
  obtain ⟨Z, HZ, HI, hz⟩ := zeroP
  have HI2 := hide HI
  have HX := hide h1
  have HY := hide h2
  have HLX := hide hx
  have HLY := hide hy
  have HT := hide ht
  have c1 := h1 0 _ (pcells_w _ x)
  have c2 := h2 0 _ (pcells_w _ y)
  rw [Nat.add_zero] at c1 c2
  obtain ⟨W1, hW1⟩ : ∃ W1, x.1 = W1 := ⟨_, rfl⟩
  obtain ⟨W2, hW2⟩ : ∃ W2, y.1 = W2 := ⟨_, rfl⟩
  rw [hW1] at c1 hw
  rw [hW2] at c2 hw
  obtain ⟨S, hS⟩ : ∃ S : Nat, W1 + W2 = S := ⟨_, rfl⟩
  have hSi : IntKind.i64.wrap ((W1 : Int) + (W2 : Int)) = (S : Int) := by rw [IntKind.wrap_i64]; omega
  obtain ⟨E, hE⟩ : ∃ E, pcells .u8 (S, zpack.2) = E := ⟨_, rfl⟩
  have hset : Z.set 0 (.int .i64 (S : Int)) = E := by rw [← hE, HZ.out]; rfl
  have HE := hide hE
  have HS0 : Hid ((S, zpack.2) = sumsTo x y 0) := sumsTo_zero x y S (by rw [hW1, hW2, hS])
  have hzn : Z ≠ [] := by rw [HZ.out]; simp [pcells]
  have HZL : Hid (Z.length = 257) := by show _ = _; rw [HZ.out]; exact pcells_len _ (List.length_replicate ..)
  have HEL : Hid (E.length = 257) := by show _ = _; rw [← hE]; exact pcells_len _ (List.length_replicate ..)
  have HE1 : Hid (∀ v ∈ E, v.oneCell' = true) := by rw [← hE]; exact pcells_one _ _
  have n1 := World.new_ne w _ c1
  have n2 := World.new_ne w _ c2
  have HTH : Hid (((w.alloc (.cells Z.toArray 161)).alloc (.cells Z.toArray 161)).drew.there (w.heap.size + 1) 0 257) := by
    have := there_new (w.alloc (.cells Z.toArray 161)) Z 161 HZL.out
    rw [World.size_alloc] at this
    exact (World.there_drew _ _ _ _).2 this
  have hst := storeC _ _ _ E 257 HEL.out HTH.out HE1.out
  have HBA : Hid (Below w.heap.size w (((w.alloc (.cells Z.toArray 161)).alloc (.cells Z.toArray 161)).drew)) := ((((Below.refl _ _).alloc (Nat.le_refl _) _).alloc (by simp) _).drew)
  have HB5 : Hid (Below w.heap.size w ((((w.alloc (.cells Z.toArray 161)).alloc (.cells Z.toArray 161)).drew).setCells (w.heap.size + 1) 0 E)) := below_setCells E HBA.out HBA.out.size (by omega)
  have HP5 : Hid (PBlk 161 .u8 ((((w.alloc (.cells Z.toArray 161)).alloc (.cells Z.toArray 161)).drew).setCells (w.heap.size + 1) 0 E) (w.heap.size + 1) (sumsTo x y 0)) := by
    show PBlk _ _ _ _ _
    have e : E = pcells .u8 (sumsTo x y 0) := by rw [← HS0.out, hE]
    rw [e]
    refine pblk_set (cs := Z) ?_ (by rw [HZL.out, ← e, HEL.out])
    have := heap_alloc_new (w.alloc (.cells Z.toArray 161)) (.cells Z.toArray 161)
    rw [World.size_alloc] at this
    exact this
  have HR5 : Hid ((((w.alloc (.cells Z.toArray 161)).alloc (.cells Z.toArray 161)).drew.setCells (w.heap.size + 1) 0 E).heap[w.heap.size]? = some (.cells Z.toArray 161)) := by
    have hg := grown_setCells E 0 _ (World.grownBy.refl (((w.alloc (.cells Z.toArray 161)).alloc (.cells Z.toArray 161)).drew) (some (w.heap.size + 1)))
    refine (hg.block w.heap.size (by simp; omega) (by simp)).trans ?_
    have h0 := heap_alloc_old (w.alloc (.cells Z.toArray 161)) (.cells Z.toArray 161) (r := w.heap.size) (by simp)
    exact h0.trans (heap_alloc_new _ _)
  obtain ⟨w5, hw5⟩ : ∃ w5, (((w.alloc (.cells Z.toArray 161)).alloc (.cells Z.toArray 161)).drew).setCells (w.heap.size + 1) 0 E = w5 := ⟨_, rfl⟩
  rw [hw5] at hst HB5 HP5 HR5
  have HW5 := hide hw5
  have k1 := (HB5.out.cell (p := ⟨b1, o1, none⟩) hb1).trans c1
  have k2 := (HB5.out.cell (p := ⟨b2, o2, none⟩) hb2).trans c2
  clear HI h1 h2 hE hS hW1 hW2 hx hy ht hw5 HBA HTH HW5
  go_enter Tryz.func168, Tryz.ntmps168
  go_wp2_with fail
  go_region_held (fun V => V.cell? ⟨b1, o1, none⟩ = some (.int .i64 (W1 : Int)) ∧ V.cell? ⟨b2, o2, none⟩ = some (.int .i64 (W2 : Int))) (first | exact ⟨k1, k2⟩ | go_keep) (fail)
  clear hst k1 k2 c1 c2 n1 n2 hset hzn hz hSi
  obtain ⟨g, hg⟩ : ∃ g, w.heap.size = g := ⟨_, rfl⟩
  rw [hg] at HP5 HR5 ⊢
  have HG : Hid (w.heap.size = g) := hg
  clear hg
  go_wp2_with fail
  go_loopw [17] (fun i wr => ∃ k : Nat, k ≤ 256 ∧ i = .int .i64 (k : Int) ∧ Hid (PBlk 161 .u8 wr (g + 1) (sumsTo x y k)) ∧ Hid (wr.heap[g]? = some (.cells Z.toArray 161)) ∧ Hid (Below w.heap.size w wr)) (fun i _ => 256 - (intOf i).toNat)
  case atStart => exact ⟨0, by omega, rfl, HP5, HR5, HB5⟩
  case round =>
    clear HP5 HR5 HB5
    obtain ⟨k, hk, rfl, HP, HR, HB⟩ := hrel
    by_cases hlt : k < 256
    · have c1 := HX.out (1 + k) _ (pcells_t .u8 x k (by rw [HLX.out]; exact hlt))
      have c2 := HY.out (1 + k) _ (pcells_t .u8 y k (by rw [HLY.out]; exact hlt))
      have hs := HT.out k
      obtain ⟨A, hA⟩ : ∃ A, x.2.getD k 0 = A := ⟨_, rfl⟩
      obtain ⟨B, hB⟩ : ∃ B, y.2.getD k 0 = B := ⟨_, rfl⟩
      obtain ⟨C, hC⟩ : ∃ C, A + B = C := ⟨_, rfl⟩
      have HN := hide (sumsTo_set x y HLX.out HLY.out k hlt C (by rw [hA, hB, hC]))
      rw [hA] at c1 hs
      rw [hB] at c2 hs
      have hw8 : IntKind.u8.wrap ((A : Int) + (B : Int)) = (C : Int) := by rw [IntKind.wrap_u8]; omega
      rw [← HB.out.cell (p := ⟨b1, o1 + (1 + k), none⟩) hb1, ← Nat.add_assoc] at c1
      rw [← HB.out.cell (p := ⟨b2, o2 + (1 + k), none⟩) hb2, ← Nat.add_assoc] at c2
      have f3 := HP.out.frozen (1 + k)
      have c3 := HP.out.t k (by rw [sumsTo_len x y HLX.out HLY.out k hk]; exact hlt)
      generalize (sumsTo x y k).2.getD k 0 = D at c3
      have hki : (k : Int) < 256 := by omega
      have HS := hide (HP.out.setT k C)
      rw [HN.out] at HS
      have m1 : g + 1 ≠ b1 := by have := HG.out; omega
      have m2 : g + 1 ≠ b2 := by have := HG.out; omega
      clear hA hB hC hs hw
      go_wp2_with fail
      go_region_held (fun V => V.cell? ⟨b1, o1 + 1 + k, none⟩ = some (.int .u8 (A : Int)) ∧ V.cell? ⟨b2, o2 + 1 + k, none⟩ = some (.int .u8 (B : Int))) (go_keep) (fail)
      go_wp2_with fail
      go_roundw
      case rel => exact ⟨k + 1, by omega, by go_num, HS.out, (heap_setCell_other _ _ _ _ (by simp)).trans HR.out, (HB.out.setCell (p := ⟨g + 1, 1 + k, none⟩) (by have := HG.out; show _ ≤ g + 1; omega) _).drew⟩
      case measure => simp [intOf]; omega
    · obtain rfl : k = 256 := by omega
      have HPB : Hid (PBlk 161 .u8 wr (g + 1) (both x y)) := by rw [← sumsTo_all x y HLX.out HLY.out]; exact HP.out
      have HRA := hide HPB.out.range
      have HTH := hide (there_blk HR.out 257 HZL.out)
      have HON : Hid (∀ v ∈ pcells .u8 (both x y), v.oneCell' = true) := pcells_one _ _
      have HLN : Hid ((pcells .u8 (both x y)).length = 257) := pcells_len _ (both_len x y HLX.out HLY.out)
      have HPG : Hid (PBlk 161 .u8 (wr.setCells g 0 (pcells .u8 (both x y))) g (both x y)) := pblk_set HR.out (by rw [HZL.out, HLN.out])
      have HBF : Hid (Below w.heap.size w (wr.setCells g 0 (pcells .u8 (both x y)))) := below_setCells _ HB.out HB.out.size (Nat.le_of_eq HG.out)
      have I1 : Hid ((Tryz.prog.info? 161).map (·.size) = some (pcells .u8 (both x y)).length) := by show _ = _; rw [HLN.out]; exact sizeP
      have I2 : Hid ((Tryz.prog.info? 161).map (·.size) = some (pcells .u8 (both x y)).toArray.size) := by show _ = _; rw [List.size_toArray, HLN.out]; exact sizeP
      have HTH2 : Hid (wr.there g 0 (pcells .u8 (both x y)).toArray.size) := by
        have e : (pcells .u8 (both x y)).toArray.size = 257 := by rw [List.size_toArray, HLN.out]
        rw [e]; exact HTH.out
      have HPGU : Hid ((wr.setCells g 0 (pcells .u8 (both x y))).heap[g]? = some (.cells (pcells .u8 (both x y)).toArray 161)) := HPG.out
      clear HPG HPB HP HR HTH
      obtain ⟨d, hu, hd⟩ := uP
      have HU := hide hu
      clear hu
      obtain ⟨V, hV⟩ : ∃ V, pcells .u8 (both x y) = V := ⟨_, rfl⟩
      have HV := hide hV
      rw [hV] at HRA HTH2 HON HLN HPGU HBF I1 I2
      clear hV
      obtain ⟨w7, hw7⟩ : ∃ w7, wr.setCells g 0 V = w7 := ⟨_, rfl⟩
      have HW7 := hide hw7
      rw [hw7] at HPGU HBF
      clear hw7
      go_wp2_with (first
        | (refine wpList_load_mid rfl 161 (.tmp 5) rfl (g + 1) 0 rfl V _ HRA.out HU.out hd I1.out ?_)
        | (refine wpList_store_mid rfl 161 (.tmp 4) (.tmp 37) rfl g 0 V.toArray rfl rfl HTH2.out I2.out (all_oneCell_toArray HON.out) ?_
           rw [List.toList_toArray, HW7.out]))
      refine bodyPost_ret (v := .agg V.toArray) ?_ rfl ⟨by rw [HV.out], HBF.out⟩
      exact results_mid1 (P := Tryz.prog) rfl _ _ g V d rfl (fun j v hv => by rw [Nat.zero_add, cell_of_row _ _ _ _ _ _ HPGU.out, List.getElem?_toArray]; exact hv) HU.out hd I1.out
end Go.Proofs.YthdblnfohbldcaaGreat.Pm
