/-
  Lengths: the walk.
-/
import Derived.Test.YthdblnfohbldcaaGreatHuffS5
namespace Go.Proofs.YthdblnfohbldcaaGreat.Pm
open Go.ChangeShapes Go.WideShapes Go.ChangeAt Go.RowKit
open Go.Proofs.YthdblnfohbldcaaGreat.Base
set_option linter.unusedVariables false
set_option maxHeartbeats 2000000 in
set_option maxRecDepth 100000 in
theorem lengths_bad (a : Option Addr) (len cap : Nat) (cs : List Int) (lim : Int) (w : World) (hr : RdI w a len cs) (h : 256 < cs.length ∨ lim < 1 ∨ 15 < lim ∨ Huff.allIn 1099511627776 cs = false) :
    Calls Tryz.prog 53 #[.slice a len cap, .int .i64 lim] w fun e w' => ∃ v, e = .returned (.tuple #[v, .int .i64 (lengthsd cs lim).2]) ∧ OwnI w' w.heap.size v (lengthsd cs lim).1 ∧ Below w.heap.size w w' := by
  have HL := hide hr.1
  have HA := hide (Huff.areCounts_any a len cap cs w hr)
  by_cases h1 : 256 < len
  · rw [lengthsd_long (by rw [HL.out]; exact h1)]
    have h1i : (256 : Int) < (len : Int) := by omega
    go_enter Tryz.func53, Tryz.ntmps53
    go_wp2_with fail
    go_ret2
    exact ⟨_, rfl, ownI_none _ _, Below.refl _ _⟩
  · have h1i : ¬ (256 : Int) < (len : Int) := by omega
    have h2 : lim < 1 ∨ 15 < lim ∨ Huff.allIn 1099511627776 cs = false := by
      rcases h with h | h
      · have := HL.out; omega
      · exact h
    rw [lengthsd_arg (by rw [HL.out]; exact h1) h2]
    clear h
    by_cases h3 : lim < 1
    · go_enter Tryz.func53, Tryz.ntmps53
      go_wp2_with fail
      go_ret2
      exact ⟨_, rfl, ownI_none _ _, Below.refl _ _⟩
    · by_cases h4 : 15 < lim
      · go_enter Tryz.func53, Tryz.ntmps53
        go_wp2_with fail
        go_ret2
        exact ⟨_, rfl, ownI_none _ _, Below.refl _ _⟩
      · have h5 : Huff.allIn 1099511627776 cs = false := by
          rcases h2 with h | h | h
          · exact absurd h h3
          · exact absurd h h4
          · exact h
        rw [h5] at HA
        clear h5 h2
        go_enter Tryz.func53, Tryz.ntmps53
        go_wp2_with (go_at_call 96; refine HA.out.mono ?_; rintro e w1 ⟨rfl, rfl⟩)
        go_ret2
        exact ⟨_, rfl, ownI_none _ _, Below.refl _ _⟩
set_option maxHeartbeats 2000000 in
set_option maxRecDepth 100000 in
theorem lengths_ok (a : Option Addr) (len cap : Nat) (cs : List Int) (lim : Nat) (w : World) (hr : RdI w a len cs) (h0 : a = none → len = 0) (h1 : len ≤ 256) (h2 : 1 ≤ lim) (h3 : lim ≤ 15) (h4 : Huff.allIn 1099511627776 cs = true) :
    Calls Tryz.prog 53 #[.slice a len cap, .int .i64 (lim : Int)] w fun e w' => ∃ v, e = .returned (.tuple #[v, .int .i64 (lengthsd cs (lim : Int)).2]) ∧ OwnI w' w.heap.size v (lengthsd cs (lim : Int)).1 ∧ Below w.heap.size w w' := by
  have HL := hide hr.1
  have HA := hide (Huff.areCounts_any a len cap cs w hr)
  rw [h4] at HA
  have HAL := hide (alone_any a len cap cs w hr h1 h0 (fun k hk => (Huff.allIn_get h4 k hk).1))
  have HAT := hide h4
  clear h4
  have h1i : ¬ (256 : Int) < (len : Int) := by omega
  have h2i : ¬ (lim : Int) < 1 := by omega
  have h3i : ¬ 15 < (lim : Int) := by omega
  have HLI := hide (lengthsd_limit (cs := cs) (lim := lim) (by rw [HL.out]; omega) h2 h3 HAT.out)
  have HLO := hide (lengthsd_ok (cs := cs) (lim := lim) (by rw [HL.out]; omega) h2 h3 HAT.out)
  have HMK := hide (fun W => make_row_int len (len : Int) rfl (by omega) W)
  generalize lengthsd cs (lim : Int) = LD at HLI HLO
  go_enter Tryz.func53, Tryz.ntmps53
  go_wp2_with (go_at_call 96; refine HA.out.mono ?_; rintro e w ⟨rfl, rfl⟩)
  refine HAL.out.mono ?_
  rintro e w1 ⟨g1, n, os, rfl, hrd, hn, hod, hb⟩
  obtain rfl := ordered_unique hod (orderOf_ok cs)
  have HRD := hide hrd
  have HB := hide hb
  have HN : Hid ((orderOf cs).length = n) := by show _ = _; rw [← things_len cs, hrd.1]
  clear hrd hb
  have hP : 2 ^ lim ≤ 2 ^ 15 := Nat.pow_le_pow_right (by decide) h3
  obtain ⟨P, hPe⟩ : ∃ P : Nat, 2 ^ lim = P := ⟨_, rfl⟩
  have hPi : (2 : Int) ^ lim = (P : Int) := by rw [← hPe]; simp
  rw [hPe] at hP HLI HLO
  rw [HN.out] at HLI HLO
  have hw64 : wrap64 ((2 : Int) ^ lim) = (P : Int) := by rw [hPi]; unfold wrap64; omega
  clear hPi hPe
  by_cases hlt : P < n
  · have hlti : (P : Int) < (n : Int) := by omega
    have HLE := hide (HLI.out hlt)
    go_wp2_with fail
    go_ret2
    exact ⟨_, by rw [HLE.out]; rfl, by rw [HLE.out]; exact ownI_none _ _, HB.out⟩
  have hlti : ¬ (P : Int) < (n : Int) := by omega
  have HLE := hide (HLO.out hlt)
  have hmk := HMK.out
  have HT := hide (fun W h => taken_any (some ⟨g1, 0, none⟩) n n (thingsOf cs (orderOf cs)) lim W h (by omega) (Nat.le_refl _) h2 h3 (fun j hj => things_fit (orderOf_ok cs) (by rw [HL.out]; exact h1) HAT.out j (by omega)))
  have HR2 : Hid (RowI 3 (w1.alloc (.cells (ivals (List.replicate len 0)).toArray 3)) w1.heap.size (List.replicate len 0)) := rowi_new _ _ _
  have HB2 : Hid (Below w.heap.size w (w1.alloc (.cells (ivals (List.replicate len 0)).toArray 3))) := HB.out.alloc HB.out.size _
  have HRD2 : Hid (RdP .u8 (w1.alloc (.cells (ivals (List.replicate len 0)).toArray 3)) (some ⟨g1, 0, none⟩) n (thingsOf cs (orderOf cs))) := HRD.out.below ((Below.refl _ _).alloc (Nat.le_refl _) _)
  have hs1 := HB.out.size
  obtain ⟨gl, hgl⟩ : ∃ gl, w1.heap.size = gl := ⟨_, rfl⟩
  rw [hgl] at HR2
  have HGL : Hid (w.heap.size ≤ gl) := by show _ ≤ _; omega
  obtain ⟨w2, hw2⟩ : ∃ w2, w1.alloc (.cells (ivals (List.replicate len 0)).toArray 3) = w2 := ⟨_, rfl⟩
  rw [hw2] at HR2 HB2 HRD2
  have hmk2 : (Instr.makeSlice 55 (.int .i64 (len : Int)) (.int .i64 (len : Int))).run Tryz.prog w1 = .ok (.slice (some ⟨gl, 0, none⟩) len len) w2 := by rw [hmk, hgl, hw2]
  clear hmk HMK hgl hw2 hs1 HB HRD HLI HLO hlt
  go_wp2_with fail
  refine (HT.out _ HRD2.out).mono ?_
  rintro e w3 ⟨ta, m, tc, rfl, hrd3, hb3⟩
  have HTB : Hid (takenOf (thingsOf cs (orderOf cs)) lim = takenBy cs lim) := rfl
  rw [HTB.out] at hrd3
  have HRD3 := hide hrd3
  have hs2 := HB2.out.size
  have HB3 : Hid (Below w.heap.size w w3) := HB2.out.trans (hb3.mono hs2)
  have HR3 : Hid (RowI 3 w3 gl (lensAt cs (takenBy cs lim) 0 0)) := by
    rw [lensAt_zero, HL.out]
    exact HR2.out.below hb3
  have HML : Hid ((takenBy cs lim).length = m) := hrd3.1
  have HTA := hide (fun s => taken_t (orderOf_ok cs) (by rw [HL.out]; exact h1) lim h2 h3 s)
  have hm : m ≤ 510 := by
    have h6 := HML.out
    unfold takenBy takenOf at h6
    split at h6
    · rw [things_len, HN.out] at h6; omega
    · have := cut_len_le (thingsOf cs (orderOf cs)) (lim - 1)
      rw [things_len, HN.out] at this
      omega
  have HTA2 : Hid (∀ s, tally (takenBy cs lim) s ≤ lim) := fun s => HTA.out s
  have HLB : Hid (lensBy cs lim = lensAt cs (takenBy cs lim) m 0) := by
    show _ = _
    rw [← HML.out, lensAt_all]; rfl
  rw [HLB.out] at HLE
  clear hrd3 hb3 HR2 HB2 HRD2 HT HTA hmk2 hs2 HTB HLB HAL
  generalize takenBy cs lim = T at HRD3 HR3 HML HTA2 HLE
  obtain ⟨Z, HZ, HI, hz⟩ := zeroP
  have HZL : Hid (Z.length = 257) := by show _ = _; rw [HZ.out]; exact pcells_len _ (List.length_replicate ..)
  clear HI
  obtain ⟨d, hu, hd⟩ := uP
  have HU := hide hu
  clear hu
  go_wp2_with fail
  go_loopw [39] (fun i wr => ∃ k : Nat, k ≤ m ∧ i = .int .i64 (k : Int) ∧ Hid (RowI 3 wr gl (lensAt cs T k 0)) ∧ Hid (RdP .u8 wr ta m T) ∧ Hid (Below w.heap.size w wr)) (fun i _ => m - (intOf i).toNat)
  case atStart => exact ⟨0, Nat.zero_le _, rfl, HR3, HRD3, HB3⟩
  case round =>
    clear HR3 HRD3 HB3
    obtain ⟨k, hk, rfl, HR, HRD, HB⟩ := hrel
    by_cases hlt : k < m
    · have hki : (k : Int) < (m : Int) := by omega
      obtain ⟨b1, o1, rfl, hb1, hc1⟩ := HRD.out.2.2 (by omega)
      have hkT : k < T.length := by rw [HML.out]; exact hlt
      have R1 : Hid (wr.rangeAt b1 (o1 + k * 257) (pcells .u8 (T.getD k (0, [])))) := range_one hc1 HRD.out.2.1 k hkT
      have HPL := hide (wide_get HRD.out.2.1 k hkT)
      have HSN := hide (fun s => tally_snoc s T k hkT)
      have HTT : Hid (∀ s, tally (T.take (k + 1)) s ≤ lim) := fun s => Nat.le_trans (tally_take_le s T (k + 1)) (HTA2.out s)
      generalize T.getD k (0, []) = p at R1 HPL HSN
      have HVL := hide (pcells_len .u8 HPL.out)
      have HV1 := hide (pcells_one .u8 p)
      have HPB : Hid (PBlk 161 .u8 ((wr.alloc (.cells Z.toArray 161)).setCells wr.heap.size 0 (pcells .u8 p)) wr.heap.size p) := pblk_set (cs := Z) (heap_alloc_new _ _) (by rw [HZL.out, HVL.out])
      have HGR : Hid (wr.grownBy ((wr.alloc (.cells Z.toArray 161)).setCells wr.heap.size 0 (pcells .u8 p)) none) := by
        have h1 := grown_setCells (pcells .u8 p) 0 (wr.alloc (.cells Z.toArray 161)) (World.grownBy_alloc wr (.cells Z.toArray 161) (some wr.heap.size))
        exact ⟨h1.os, h1.tape, h1.output, h1.size, fun i hi _ => h1.block i hi (fun e => by have := Option.some.inj e; omega)⟩
      have HR6 := hide (HR.out.grown HGR.out (by simp))
      have HB6 := hide (HB.out.grown HGR.out HB.out.size (fun i e => by cases e))
      have HRD6 : Hid (RdP .u8 ((wr.alloc (.cells Z.toArray 161)).setCells wr.heap.size 0 (pcells .u8 p)) (some ⟨b1, o1, none⟩) m T) :=
        ⟨HRD.out.1, HRD.out.2.1, fun _ => ⟨b1, o1, rfl, Nat.lt_of_lt_of_le hb1 HGR.out.size, range_grown hc1 HGR.out (by simp)⟩⟩
      have HGN : Hid (gl < wr.heap.size) := HR.out.lt
      have HTH : Hid ((wr.alloc (.cells Z.toArray 161)).there wr.heap.size 0 (pcells .u8 p).toArray.size) := by
        have e : (pcells .u8 p).toArray.size = 257 := by rw [List.size_toArray, HVL.out]
        rw [e]; exact there_new wr Z _ HZL.out
      have I1 : Hid ((Tryz.prog.info? 161).map (·.size) = some (pcells .u8 p).length) := by show _ = _; rw [HVL.out]; exact sizeP
      have I2 : Hid ((Tryz.prog.info? 161).map (·.size) = some (pcells .u8 p).toArray.size) := by show _ = _; rw [List.size_toArray, HVL.out]; exact sizeP
      obtain ⟨V, hV⟩ : ∃ V, pcells .u8 p = V := ⟨_, rfl⟩
      have HV := hide hV
      rw [hV] at R1 HVL HV1 HPB HB6 HGR HR6 HRD6 HTH I1 I2
      obtain ⟨w6, hw6⟩ : ∃ w6, (wr.alloc (.cells Z.toArray 161)).setCells wr.heap.size 0 V = w6 := ⟨_, rfl⟩
      have HW6 := hide hw6
      rw [hw6] at HPB HB6 HGR HR6 HRD6
      clear hc1 hV hw6
      go_wp2_with (first
        | (refine wpList_load_mid rfl 161 (.tmp 41) rfl b1 (o1 + k * 257) rfl V _ R1.out HU.out hd I1.out ?_)
        | (refine wpList_store_mid rfl 161 (.tmp 9) (.tmp 42) rfl wr.heap.size 0 V.toArray rfl rfl HTH.out I2.out (all_oneCell_toArray HV1.out) ?_
           rw [List.toList_toArray, HW6.out]))
      try simp only [Act.put]
      obtain ⟨gp, hgp⟩ : ∃ gp, wr.heap.size = gp := ⟨_, rfl⟩
      rw [hgp] at HPB HGN ⊢
      clear HTH HW6 hgp R1 HGR HR HB HRD
      go_loopw [45] (fun i wz => ∃ q : Nat, q ≤ len ∧ i = .int .i64 (q : Int) ∧ Hid (RowI 3 wz gl (lensAt cs T k q)) ∧ Hid (RdP .u8 wz (some ⟨b1, o1, none⟩) m T) ∧ Hid (PBlk 161 .u8 wz gp p) ∧ Hid (Below w.heap.size w wz)) (fun i _ => len - (intOf i).toNat)
      case atStart => exact ⟨0, Nat.zero_le _, rfl, HR6, HRD6, HPB, HB6⟩
      case round =>
        clear HR6 HRD6 HPB HB6
        obtain ⟨q, hq, rfl, HR, HRD, HPB, HB⟩ := hrel
        by_cases hlq : q < len
        · have hqi : (q : Int) < (len : Int) := by omega
          have c1 := HR.out.cell q (by rw [lensAt_len, HL.out]; exact hlq)
          rw [lensAt_get cs T k q (by rw [HL.out]; exact hlq)] at c1
          have f1 := HR.out.frozen q
          have c2 := HPB.out.t q (by rw [HPL.out]; omega)
          have HSQ := hide (HSN.out q)
          have HSB := hide (HTT.out q)
          have HSET := hide (lensAt_set cs T k q (by rw [HL.out]; exact hlq))
          obtain ⟨A, hA⟩ : ∃ A, tally (T.take k) q = A := ⟨_, rfl⟩
          obtain ⟨B, hB⟩ : ∃ B, p.2.getD q 0 = B := ⟨_, rfl⟩
          obtain ⟨C, hC⟩ : ∃ C, tally (T.take (k + 1)) q = C := ⟨_, rfl⟩
          rw [hA] at c1 HSQ
          rw [hB] at c2 HSQ
          rw [hC] at HSQ HSB HSET
          have hsum : A + B = C := HSQ.out.symm
          have hCb : C ≤ lim := HSB.out
          have e1 : IntKind.i64.wrap ((A : Int) + (B : Int)) = (C : Int) := by rw [IntKind.wrap_i64]; omega
          have e0 : IntKind.i64.wrap (B : Int) = (B : Int) := by rw [IntKind.wrap_i64]; omega
          have hBb : (B : Int) ≤ 15 := by omega
          have hs6 : (q : Int) < 256 := by omega
          have HS1 := hide (HR.out.store q (C : Int))
          rw [HSET.out] at HS1
          have HG1 : Hid (wr.grownBy (wr.setCell ⟨gl, q, none⟩ (.int .i64 (C : Int))) (some gl)) := grown_cell (World.grownBy.refl _ _) _ _
          have HRD1 := hide (HRD.out.keepI HR.out HG1.out)
          have HPB1 := hide (HPB.out.grown HG1.out (fun e => by have := Option.some.inj e; have := HGN.out; omega))
          have HB1 : Hid (Below w.heap.size w (wr.setCell ⟨gl, q, none⟩ (.int .i64 (C : Int)))) := HB.out.setCell HGL.out _
          have hne : gl ≠ gp := by have := HGN.out; omega
          clear hA hB hC hsum HSQ HSB HSET HR HRD HPB HB HG1
          go_wp2_with fail
          go_region_with (fail)
          all_goals
            go_wp2_with fail
            go_roundw
            case rel => exact ⟨q + 1, by omega, by go_num, HS1.out, HRD1.out, HPB1.out, HB1.out.drew⟩
            case measure => simp [intOf]; omega
        · obtain rfl : q = len := by omega
          have HRN : Hid (RowI 3 wr gl (lensAt cs T (k + 1) 0)) := by
            have := HR.out
            rw [← HL.out, lensAt_next] at this
            exact this
          have hqi : ¬ (q : Int) < (q : Int) := by omega
          go_wp2_with fail
          go_roundw
          case rel => exact ⟨k + 1, by omega, by go_num, HRN, HRD, HB⟩
          case measure => simp [intOf]; omega
    · obtain rfl : k = m := by omega
      have hki : ¬ (k : Int) < (k : Int) := by omega
      have HOW : Hid (OwnI wr w.heap.size (.slice (some ⟨gl, 0, none⟩) len len) (lensAt cs T k 0)) := by
        have hl : (lensAt cs T k 0).length = len := by rw [lensAt_len, HL.out]
        refine ⟨by rw [length_ivals, Nat.mul_one], .inr ⟨gl, len, _, by rw [hl], HGL.out, HR.out, by rw [hl]; exact Nat.le_refl _, by unfold maxLen; omega, by rw [List.size_toArray, length_ivals, hl, Nat.mul_one], ?_⟩⟩
        rw [List.toList_toArray, Nat.mul_one, ← length_ivals, List.take_length]
      go_wp2_with fail
      go_ret2
      exact ⟨_, by rw [HLE.out]; rfl, by rw [HLE.out]; exact HOW.out, HB.out⟩
/-- Lengths, whatever it is called with. -/
theorem lengths_any (a : Option Addr) (len cap : Nat) (cs : List Int) (lim : Int) (w : World) (hr : RdI w a len cs) (h0 : a = none → len = 0) :
    Calls Tryz.prog 53 #[.slice a len cap, .int .i64 lim] w fun e w' => ∃ v, e = .returned (.tuple #[v, .int .i64 (lengthsd cs lim).2]) ∧ OwnI w' w.heap.size v (lengthsd cs lim).1 ∧ Below w.heap.size w w' := by
  by_cases h : 256 < cs.length ∨ lim < 1 ∨ 15 < lim ∨ Huff.allIn 1099511627776 cs = false
  · exact lengths_bad a len cap cs lim w hr h
  · obtain ⟨l, rfl⟩ : ∃ l : Nat, lim = (l : Int) := ⟨lim.toNat, by omega⟩
    have h1 := hr.1
    exact lengths_ok a len cap cs l w hr h0 (by omega) (by omega) (by omega) (by
      cases hA : Huff.allIn 1099511627776 cs with
      | true => rfl
      | false => exact absurd (.inr (.inr (.inr hA))) h)
end Go.Proofs.YthdblnfohbldcaaGreat.Pm
