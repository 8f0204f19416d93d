/-
  The document's things.
-/
import Derived.Test.YtalnhhpcncjflaaHuffTZ
namespace Go.Proofs.Ytalnhhpcncjflaa.Pm
open Go.ChangeShapes Go.WideShapes Go.ChangeAt Go.RowKit
open Go.Proofs.Ytalnhhpcncjflaa.Base
set_option linter.unusedVariables false
/-- 'l[:k]'. -/
theorem slice_to (b off len cap k : Nat) (h : k ≤ len) (hc : len ≤ cap) : ∀ W, (Instr.sliceAt 62 (.slice (some ⟨b, off, none⟩) len cap) none (some (.int .i64 (k : Int))) none).run Try.prog W = .ok (.slice (some ⟨b, off, none⟩) k cap) W := by
  intro W
  rw [run_sliceAt_slice (h := elemR), run_slice_h (ht := elemR) (h0 := by omega) (h2 := by omega), elemRSize]
  simp only [Result.andThen, sliced, Int.toNat_natCast]
  by_cases hc : cap = 0
  · subst hc; simp
  · simp [Addr.add]
theorem slice_to0 : ∀ W, (Instr.sliceAt 62 (.slice none 0 0) none (some (.int .i64 ((0 : Nat) : Int))) none).run Try.prog W = .ok (.slice none 0 0) W := by
  intro W
  rw [run_sliceAt_slice (h := elemR), run_slice_h (ht := elemR) (h0 := by omega) (h2 := by omega), elemRSize]
  simp [Result.andThen, sliced]
theorem slice_from0 : ∀ W, (Instr.sliceAt 62 (.slice none 0 0) (some (.int .i64 ((0 : Nat) : Int))) none none).run Try.prog W = .ok (.slice none 0 0) W := by
  intro W
  rw [run_sliceAt_slice (h := elemR), run_slice_l (ht := elemR) (h0 := by omega) (h1 := by omega), elemRSize]
  simp [Result.andThen, sliced]
/-- A row that is cut in two. -/
theorem parted {w : World} {g : Nat} {v : Value} {X : List Pk} (h : OwnR w g v X) (K N : Nat) (hN : X.length = N) (hK : K ≤ N) : ∃ la cp lx, v = .slice la N cp ∧
    (∀ W, (Instr.sliceAt 62 (.slice la N cp) none (some (.int .i64 (K : Int))) none).run Try.prog W = .ok (.slice la K cp) W) ∧
    (∀ W, (Instr.sliceAt 62 (.slice la N cp) (some (.int .i64 (K : Int))) none none).run Try.prog W = .ok (.slice lx (N - K) (cp - K)) W) ∧
    (la = none → K = 0 ∧ cp = 0) ∧ (lx = none → N - K = 0 ∧ cp - K = 0) ∧ RdR w la K (X.take K) ∧ RdR w lx (N - K) (X.drop K) ∧
    (0 < N → ∃ gl, la = some ⟨gl, 0, none⟩ ∧ w.rangeAt gl 0 (lcells .i64 X) ∧ gl < w.heap.size) := by
  obtain ⟨a, n, c, hv, hn, hnc, hcm, hr⟩ := h.rd
  subst hN
  subst hn
  rcases h.2.2 with ⟨h1, h2⟩ | ⟨gl, cap, cur, h1, h2, h3, h4, h5, h6, h7⟩
  · rw [h1] at hv
    simp only [Value.slice.injEq] at hv
    obtain ⟨rfl, hx, rfl⟩ := hv
    have hx0 : X.length = 0 := hx.symm
    have hK0 : K = 0 := by omega
    subst hK0
    rw [hx0] at hr ⊢
    refine ⟨none, 0, none, h1, slice_to0, slice_from0, fun _ => ⟨rfl, rfl⟩, fun _ => ⟨rfl, rfl⟩, ?_, ?_, fun h => by omega⟩
    · exact rdr_take hr (Nat.le_refl _)
    · rw [List.drop_zero]; exact hr
  · rw [h1] at hv
    simp only [Value.slice.injEq] at hv
    obtain ⟨rfl, _, rfl⟩ := hv
    obtain ⟨lx, hs1, hs2, hs3⟩ := slice_from gl 0 X.length cap K hK h4
    refine ⟨some ⟨gl, 0, none⟩, cap, some lx, h1, slice_to gl 0 X.length cap K hK h4, hs1, (fun h => by cases h), (fun h => by cases h), rdr_take hr hK, rdr_from hr hK hs2, fun hp => ?_⟩
    obtain ⟨b, off, e, hb, hc⟩ := hr.2.2 hp
    simp only [Option.some.injEq, Addr.mk.injEq, and_true] at e
    obtain ⟨rfl, rfl⟩ := e
    exact ⟨gl, rfl, hc, hb⟩
theorem things_take (cs : List Int) (os : List Nat) (k : Nat) : (thingsOf cs os).take k = thingsOf cs (os.take k) := by unfold thingsOf; rw [List.map_take]
theorem things_drop (cs : List Int) (os : List Nat) (k : Nat) : (thingsOf cs os).drop k = thingsOf cs (os.drop k) := by unfold thingsOf; rw [List.map_drop]
theorem things_ins (cs : List Int) (i : Nat) (os : List Nat) : (thingsOf cs os).take (lightTo cs i os) ++ [thingOf cs i] ++ (thingsOf cs os).drop (lightTo cs i os) = thingsOf cs (insAt cs i os) := by
  rw [things_take, things_drop]
  unfold insAt thingsOf
  simp
theorem light_le (cs : List Int) (i : Nat) (os : List Nat) : lightTo cs i os ≤ os.length := (List.takeWhile_sublist _).length_le
theorem light_at (cs : List Int) (i : Nat) : ∀ (os : List Nat) (q : Nat), q < lightTo cs i os → cs.getD (os.getD q 0) 0 ≤ cs.getD i 0
  | [], q, h => by simp [lightTo] at h
  | x :: l, q, h => by
    unfold lightTo at h
    rw [List.takeWhile_cons] at h
    split at h
    · rename_i hx
      cases q with
      | zero => simpa using hx
      | succ q => exact light_at cs i l q (by unfold lightTo; simpa using h)
    · simp at h
theorem light_end (cs : List Int) (i : Nat) : ∀ (os : List Nat), lightTo cs i os < os.length → cs.getD i 0 < cs.getD (os.getD (lightTo cs i os) 0) 0
  | [], h => by simp at h
  | x :: l, h => by
    have e : lightTo cs i (x :: l) = if cs.getD x 0 ≤ cs.getD i 0 then lightTo cs i l + 1 else 0 := by
      unfold lightTo
      rw [List.takeWhile_cons]
      by_cases hx : cs.getD x 0 ≤ cs.getD i 0
      · rw [if_pos (decide_eq_true hx), if_pos hx]; rfl
      · rw [if_neg (by rw [decide_eq_true_iff]; exact hx), if_neg hx]; rfl
    rw [e] at h ⊢
    by_cases hx : cs.getD x 0 ≤ cs.getD i 0
    · rw [if_pos hx] at h ⊢
      exact light_end cs i l (by simpa using h)
    · rw [if_neg hx]
      show cs.getD i 0 < cs.getD x 0
      omega
set_option maxHeartbeats 2000000 in
set_option maxRecDepth 100000 in
theorem refThings_any (a : Option Addr) (n ca : Nat) (cs : List Int) (w : World) (hr : RdI w a n cs) (hn : n ≤ 256) (hin : Huff.allIn 1099511627776 cs = true) :
    Calls Try.prog 34 #[.slice a n ca] w fun e w' => ∃ v, e = .returned v ∧ OwnR w' w.heap.size v (thingsOf cs (ordFrom cs n 0)) ∧ Below w.heap.size w w' := by
  have HA := hide hr
  have HL := hide hr.1
  have HIN := hide (fun k h => Huff.allIn_get hin k h)
  obtain ⟨d, hu, hd⟩ := uR
  have HU := hide hu
  obtain ⟨Z, HZ, HI, hz⟩ := zeroR
  clear hr hu hin
  obtain ⟨g, hg⟩ : ∃ g, w.heap.size = g := ⟨_, rfl⟩
  have HG : Hid (w.heap.size = g) := hg
  have HS0 : Hid (OwnR w g (.slice none 0 0) (thingsOf cs (ordFrom cs (n - n) n))) := by rw [Nat.sub_self]; exact ownP_none _ _ _ _
  have HB0 : Hid (Below g w w) := Below.refl _ _
  rw [hg]
  clear hg
  have HZL : Hid (Z.length = 257) := by show _ = _; rw [HZ.out]; exact pcells_len _ (List.length_replicate ..)
  have hzn : Z ≠ [] := by rw [HZ.out]; simp [pcells]
  have hni : (n : Int) ≤ 256 := by omega
  go_enter Try.func34, Try.ntmps34
  go_wp2_with fail
  go_loopw [3, 4] (fun l i wr => ∃ m : Nat, m ≤ n ∧ i = .int .i64 ((m : Int) - 1) ∧ Hid (OwnR wr g l (thingsOf cs (ordFrom cs (n - m) m))) ∧ Hid (Below g w wr)) (fun _ i _ => ((intOf i) + 1).toNat)
  case atStart => exact ⟨n, Nat.le_refl _, by go_num, HS0, HB0⟩
  case round =>
    clear HS0 HB0
    obtain ⟨m, hm, rfl, HO, HB⟩ := hrel
    have hsz : g ≤ wr.heap.size := by rw [← HG.out]; exact HB.out.size
    by_cases hm0 : 0 < m
    · obtain ⟨i, rfl⟩ : ∃ i, m = i + 1 := ⟨m - 1, by omega⟩
      have ei : ((i + 1 : Nat) : Int) - 1 = (i : Int) := by omega
      rw [ei]
      have hin : (i : Int) < (n : Int) := by omega
      obtain ⟨b1, o1, rfl, hb1, hc1⟩ := HA.out.2.2 (by omega)
      have g1 := hc1 i (by omega)
      rw [← HB.out.cell (p := ⟨b1, o1 + i, none⟩) (by show b1 < g; rw [← HG.out]; exact hb1)] at g1
      have hx := HIN.out i (by rw [HL.out]; omega)
      by_cases h0 : cs.getD i 0 = 0
      · have HO2 : Hid (OwnR wr g u3 (thingsOf cs (ordFrom cs (n - i) i))) := by
          have e : n - i = (n - (i + 1)) + 1 := by omega
          rw [e]
          simp only [ordFrom]
          rw [if_pos h0]; exact HO.out
        rw [h0] at g1
        clear hc1 hx
        go_wp2_with fail
        go_roundw
        case rel => exact ⟨i, by omega, by go_num, HO2, HB⟩
        case measure => simp [intOf]
      · obtain ⟨c, hcc⟩ : ∃ c : Nat, cs.getD i 0 = (c : Int) := ⟨(cs.getD i 0).toNat, by omega⟩
        have HTO : Hid (thingOf cs i = (c, (List.replicate 256 0).set i 1)) := by show _ = _; unfold thingOf; rw [hcc]; rfl
        rw [hcc] at g1 hx h0
        have hc0 : ((c : Int) == 0) = false := by rw [beq_eq_false_iff_ne]; exact h0
        obtain ⟨E, hE⟩ : ∃ E, pcells .i64 (c, zpack.2) = E := ⟨_, rfl⟩
        have hset : Z.set 0 (.int .i64 (c : Int)) = E := by rw [← hE, HZ.out]; rfl
        have HEL : Hid (E.length = 257) := by show _ = _; rw [← hE]; exact pcells_len _ (List.length_replicate ..)
        have HE1 : Hid (∀ v ∈ E, v.oneCell' = true) := by rw [← hE]; exact pcells_one _ _
        have n1 := World.new_ne wr _ g1
        have HTH : Hid ((wr.alloc (.cells Z.toArray 68)).there wr.heap.size 0 257) := there_new wr Z _ HZL.out
        have hst := storeC _ _ _ E 257 HEL.out HTH.out HE1.out
        have HB5 : Hid (Below g w ((wr.alloc (.cells Z.toArray 68)).setCells wr.heap.size 0 E)) := below_setCells E (HB.out.alloc hsz _) (Nat.le_trans hsz (by simp)) hsz
        have HP5 : Hid (PBlk 68 .i64 ((wr.alloc (.cells Z.toArray 68)).setCells wr.heap.size 0 E) wr.heap.size (c, zpack.2)) := by
          show PBlk _ _ _ _ _
          rw [← hE]
          exact pblk_set (cs := Z) (heap_alloc_new wr (.cells Z.toArray 68)) (by rw [HZL.out, hE, HEL.out])
        have HGR : Hid (wr.grownBy ((wr.alloc (.cells Z.toArray 68)).setCells wr.heap.size 0 E) none) := by
          have h1 := grown_setCells E 0 (wr.alloc (.cells Z.toArray 68)) (World.grownBy_alloc wr (.cells Z.toArray 68) (some wr.heap.size))
          exact ⟨h1.os, h1.tape, h1.output, h1.size, fun i hi _ => h1.block i hi (fun e => by have := Option.some.inj e; omega)⟩
        obtain ⟨os, hos⟩ : ∃ os, ordFrom cs (n - (i + 1)) (i + 1) = os := ⟨_, rfl⟩
        rw [hos] at HO
        have HOS : Hid (ordFrom cs (n - i) i = insAt cs i os) := by
          show _ = _
          rw [show n - i = (n - (i + 1)) + 1 by omega]
          simp only [ordFrom]
          rw [if_neg (by rw [hcc]; exact h0), hos]
        have HO5 : Hid (OwnR ((wr.alloc (.cells Z.toArray 68)).setCells wr.heap.size 0 E) g u3 (thingsOf cs os)) := HO.out.keep HGR.out (fun i _ => by simp)
        have HOL : Hid (∀ i, u3.ownBlock = some i → i < wr.heap.size) := fun i e => (HO.out.2.lt i e).2
        have hs5 := HGR.out.size
        obtain ⟨w5, hw5⟩ : ∃ w5, (wr.alloc (.cells Z.toArray 68)).setCells wr.heap.size 0 E = w5 := ⟨_, rfl⟩
        rw [hw5] at hst HB5 HP5 HO5 hs5
        obtain ⟨gx, hgx⟩ : ∃ gx, wr.heap.size = gx := ⟨_, rfl⟩
        have HGX := hide hgx
        rw [hgx] at hst HP5 hsz HOL
        have f3 := HP5.out.frozen (1 + i)
        have c3 := HP5.out.t i (by show zpack.2.length > i; unfold zpack; rw [List.length_replicate]; omega)
        generalize zpack.2.getD i 0 = D0 at c3
        have HP6 : Hid (PBlk 68 .i64 (w5.setCell ⟨gx, 1 + i, none⟩ (.int .i64 1)) gx (thingOf cs i)) := by
          rw [HTO.out]
          have := HP5.out.setT i 1
          exact this
        have HB6 : Hid (Below g w (w5.setCell ⟨gx, 1 + i, none⟩ (.int .i64 1))) := HB5.out.setCell (p := ⟨gx, 1 + i, none⟩) hsz _
        have HO6 : Hid (OwnR (w5.setCell ⟨gx, 1 + i, none⟩ (.int .i64 1)) g u3 (thingsOf cs os)) := HO5.out.keep (grown_cell (World.grownBy.refl w5 (some gx)) (1 + i) _) (fun j e h => by have := HOL.out j e; have := Option.some.inj h; omega)
        obtain ⟨w6, hw6⟩ : ∃ w6, w5.setCell ⟨gx, 1 + i, none⟩ (.int .i64 1) = w6 := ⟨_, rfl⟩
        rw [hw6] at HP6 HB6 HO6
        have HW6 := hide hw6
        have hii : (i : Int) < 256 := by omega
        have hi6 : i < 256 := by omega
        rw [hgx] at n1
        clear hc1 hw5 hw6 HO HB HTH HGR hE HP5 HB5 HO5
        go_wp2_with fail
        rw [HW6.out]
        have HTL : Hid ((thingsOf cs os).length = os.length) := by show _ = _; unfold thingsOf; rw [List.length_map]
        have HOSL : Hid (os.length ≤ 256) := by
          show _ ≤ _
          rw [← hos]
          have := (ordFrom_perm cs (fun s => by
            by_cases h : s < cs.length
            · exact (HIN.out s h).1
            · rw [List.getD_eq_getElem?_getD, List.getElem?_eq_none (by omega)]; exact Int.le_refl _) (n - (i + 1)) (i + 1)).length_eq
          rw [this]
          refine Nat.le_trans (List.length_filter_le _ _) ?_
          rw [List.length_range']; omega
        clear hos
        obtain ⟨N, hN⟩ : ∃ N, os.length = N := ⟨_, rfl⟩
        obtain ⟨K, hK⟩ : ∃ K, lightTo cs i os = K := ⟨_, rfl⟩
        have hKN : K ≤ N := by rw [← hK, ← hN]; exact light_le cs i os
        have HLA : Hid (∀ q, q < K → (cs.getD (os.getD q 0) 0).toNat ≤ c) := fun q h => by
          have := light_at cs i os q (by rw [hK]; exact h)
          rw [hcc] at this; omega
        have HLZ : Hid (K < N → ¬ (cs.getD (os.getD K 0) 0).toNat ≤ c) := fun h => by
          have := light_end cs i os (by rw [hK, hN]; exact h)
          rw [hcc, hK] at this; omega
        rw [hN] at HTL HOSL
        have HFIN : Hid ((thingsOf cs os).take K ++ [thingOf cs i] ++ (thingsOf cs os).drop K = thingsOf cs (ordFrom cs (n - i) i)) := by
          show _ = _
          rw [HOS.out, ← hK]; exact things_ins cs i os
        obtain ⟨la, cp, lx, hu3, hsl1, hsl2, hz1, hz2, hr1, hr2, hgl⟩ := parted HO6.out K N HTL.out hKN
        subst hu3
        have HR1 := hide hr1
        have HR2 := hide hr2
        have HGL := hide hgl
        have hN6 : N ≤ 256 := HOSL.out
        have hNi : (N : Int) ≤ 256 := by omega
        have x0 := HP6.out.w
        have ec : (thingOf cs i).1 = c := by rw [HTO.out]
        rw [ec] at x0
        have HX0 := hide x0
        have HWT : Hid (∀ q, q < N → ((thingsOf cs os).getD q (0, [])).1 = (cs.getD (os.getD q 0) 0).toNat) := fun q h => by
          have hq : q < os.length := by rw [hN]; exact h
          have e1 : os.getD q 0 = os[q] := by rw [List.getD_eq_getElem?_getD, List.getElem?_eq_getElem hq]; rfl
          have e2 : (thingsOf cs os).getD q (0, []) = thingOf cs os[q] := by unfold thingsOf; rw [List.getD_eq_getElem?_getD, List.getElem?_map, List.getElem?_eq_getElem hq]; rfl
          rw [e1, e2]; rfl
        have HWD : Hid (Wide 256 (thingsOf cs os)) := HO6.out.1
        clear hr1 hr2 hgl x0 ec hst hset hcc h0 hx hc0 n1 g1 f3 c3
        go_loopw [7] (fun k wz => ∃ q : Nat, q ≤ K ∧ k = .int .i64 (q : Int) ∧ Hid (∃ m, wz = w6.drewN m)) (fun k _ => K - (intOf k).toNat)
        case atStart => exact ⟨0, Nat.zero_le _, rfl, 0, rfl⟩
        case round =>
          obtain ⟨q, hq, rfl, HD⟩ := hrel
          have x0 : wr.cell? ⟨gx, 0, none⟩ = some (.int .i64 (c : Int)) := by obtain ⟨m, hm⟩ := HD.out; rw [hm]; exact HX0.out
          by_cases hqK : q < K
          · obtain ⟨gl, rfl, hrg, hgl⟩ := HGL.out (by omega)
            have t0 : wr.cell? ⟨gl, q * 257, none⟩ = some (.int .i64 ((((thingsOf cs os).getD q (0, [])).1 : Nat) : Int)) := by
              obtain ⟨m, hm⟩ := HD.out
              have := (range_one hrg HWD.out q (by rw [HTL.out]; omega)) 0 _ (pcells_w _ _)
              rw [Nat.add_zero, Nat.zero_add] at this
              rw [hm]; exact this
            rw [HWT.out q (by omega)] at t0
            have hle := HLA.out q hqK
            generalize (cs.getD (os.getD q 0) 0).toNat = T1 at t0 hle
            have z1 : (q : Int) < (N : Int) := by omega
            have z2 : decide ((q : Int) < (N : Int)) = true := by rw [decide_eq_true_iff]; exact z1
            have z4 : decide (q < N) = true := by rw [decide_eq_true_iff]; omega
            have z5 : decide ((T1 : Int) ≤ (c : Int)) = true := by rw [decide_eq_true_iff]; omega
            have z6 : decide (T1 ≤ c) = true := by rw [decide_eq_true_iff]; exact hle
            clear hrg
            go_wp2_with fail
            go_quiet (fail)
            go_wp2_with fail
            go_roundw
            case rel => exact ⟨q + 1, by omega, by go_num, by obtain ⟨m, hm⟩ := HD.out; exact ⟨m + nq, by rw [hm]; simp [World.drewN, Nat.add_assoc]⟩⟩
            case measure => simp [intOf]; omega
          · have hqe : q = K := by omega
            subst hqe
            have HCASE : (¬ q < N) ∨ ∃ (gl T1 : Nat), la = some ⟨gl, 0, none⟩ ∧ q < N ∧ wr.cell? ⟨gl, q * 257, none⟩ = some (.int .i64 (T1 : Int)) ∧ ¬ T1 ≤ c := by
              by_cases h : q < N
              · obtain ⟨gl, hla, hrg, hgl⟩ := HGL.out (by omega)
                refine .inr ⟨gl, _, hla, h, ?_, HLZ.out h⟩
                obtain ⟨m, hm⟩ := HD.out
                have := (range_one hrg HWD.out q (by rw [HTL.out]; omega)) 0 _ (pcells_w _ _)
                rw [Nat.add_zero, Nat.zero_add, HWT.out q h] at this
                rw [hm]; exact this
              · exact .inl h
            have HOW : Hid (OwnR wr g (.slice la N cp) (thingsOf cs os)) := by obtain ⟨m, hm⟩ := HD.out; rw [hm]; exact HO6.out
            have HRA : Hid (RdR wr la q ((thingsOf cs os).take q)) := by obtain ⟨m, hm⟩ := HD.out; rw [hm]; exact HR1.out
            have HRB : Hid (RdR wr lx (N - q) ((thingsOf cs os).drop q)) := by obtain ⟨m, hm⟩ := HD.out; rw [hm]; exact HR2.out
            have HPW : Hid (PBlk 68 .i64 wr gx (thingOf cs i)) := by obtain ⟨m, hm⟩ := HD.out; rw [hm]; exact HP6.out
            have HBW : Hid (Below g w wr) := by obtain ⟨m, hm⟩ := HD.out; rw [hm]; exact below_drewN HB6.out m
            have HXW : Hid ((thingOf cs i).2.length = 256) := thingOf_wide cs i
            clear HO6 HR1 HR2 HP6 HB6 HD HGL HLA HLZ HWT
            rcases HCASE with hnq | ⟨gl, T1, rfl, hnq, t0, hnl⟩
            all_goals
              first
                | (have z1 : ¬ (q : Int) < (N : Int) := by omega
                   have z2 : decide ((q : Int) < (N : Int)) = false := by rw [decide_eq_false_iff_not]; exact z1
                   have z4 : decide (q < N) = false := by rw [decide_eq_false_iff_not]; exact hnq)
                | (have z1 : (q : Int) < (N : Int) := by omega
                   have z2 : decide ((q : Int) < (N : Int)) = true := by rw [decide_eq_true_iff]; exact z1
                   have z4 : decide (q < N) = true := by rw [decide_eq_true_iff]; exact hnq
                   have z5 : decide ((T1 : Int) ≤ (c : Int)) = false := by rw [decide_eq_false_iff_not]; omega
                   have z6 : decide (T1 ≤ c) = false := by rw [decide_eq_false_iff_not]; exact hnl)
              go_wp2_with fail
              go_quiet (fail)
              have A1 : Hid (RdR (wr.drewN nq) _ q ((thingsOf cs os).take q)) := HRA.out
              have A2 : Hid (RdR (wr.drewN nq) lx (N - q) ((thingsOf cs os).drop q)) := HRB.out
              have A3 : Hid (PBlk 68 .i64 (wr.drewN nq) gx (thingOf cs i)) := HPW.out
              have A4 : Hid (Below g w (wr.drewN nq)) := below_drewN HBW.out nq
              have A5 : Hid (OwnR (wr.drewN nq) g (.slice none 0 0) []) := ownP_none _ _ _ _
              obtain ⟨w7, hw7⟩ : ∃ w7, wr.drewN nq = w7 := ⟨_, rfl⟩
              rw [hw7] at A1 A2 A3 A4 A5 ⊢
              have hs7 : g ≤ w7.heap.size := by rw [← HG.out]; exact A4.out.size
              clear hw7 HRA HRB HPW HBW HOW x0
              try clear t0
              have A6 : Hid (OwnR w7 w7.heap.size (.slice none 0 0) []) := ownP_none _ _ _ _
              have HVL := hide (pcells_len .i64 HXW.out)
              have IX : Hid ((Try.prog.info? 68).map (·.size) = some (pcells .i64 (thingOf cs i)).length) := by show _ = _; rw [HVL.out]; exact sizeR
              obtain ⟨V, hV⟩ : ∃ V, pcells .i64 (thingOf cs i) = V := ⟨_, rfl⟩
              have HV := hide hV
              rw [hV] at HVL IX
              have HTK : Hid (((thingsOf cs os).take q).length = q) := by show _ = _; rw [List.length_take, HTL.out]; omega
              clear hV A5
              go_wp2_with (first
                | (refine joinR _ rfl (.tmp 44) (.tmp 47) rfl w7.heap.size (.slice none 0 0) [] rfl A6.out _ q cp ((thingsOf cs os).take q) rfl A1.out hz1 (by simp; omega) (Nat.le_refl _) ?_
                   intro v8 w8 ho8 hg8
                   have HO8 := hide ho8
                   have HB8 : Hid (Below w7.heap.size w7 w8) := (Below.refl _ _).grown hg8 (Nat.le_refl _) (fun i e => by cases e)
                   have R8 : Hid (w8.rangeAt gx 0 V) := by rw [← HV.out]; exact (A3.out.below HB8.out).range
                   have hs8 := HB8.out.size
                   clear ho8 hg8)
                | (refine wpList_load_mid rfl 68 (.tmp 5) rfl gx 0 rfl V _ R8.out HU.out hd IX.out ?_)
                | (refine wpList_buildR rfl (.tmp 50) rfl V HVL.out rfl ?_)
                | (refine joinR _ rfl (.tmp 49) (.tmp 51) rfl w7.heap.size v8 ([] ++ (thingsOf cs os).take q) rfl (HO8.out.below ((Below.refl _ _).alloc (Nat.le_refl _) _)) (some ⟨w8.heap.size, 0, none⟩) 1 1 [thingOf cs i] rfl (rdr_new w8 (thingOf cs i) HXW.out V HV.out) (fun h => by cases h) (by rw [List.nil_append, HTK.out]; omega) (Nat.le_trans hs8 (by simp)) ?_
                   intro v9 w9 ho9 hg9
                   have HO9 := hide ho9
                   have HB9 : Hid (Below w7.heap.size w7 w9) := (HB8.out.alloc hs8 _).grown hg9 (Nat.le_trans hs8 (by simp)) (fun i e => (HO8.out.2.lt i e).1)
                   have hs9 := HB9.out.size
                   clear ho9 hg9)
                | (refine joinR _ rfl (.tmp 53) (.tmp 56) rfl w7.heap.size v9 ([] ++ (thingsOf cs os).take q ++ [thingOf cs i]) rfl HO9.out lx (N - q) (cp - q) ((thingsOf cs os).drop q) rfl (A2.out.below HB9.out) hz2 (by rw [List.nil_append, List.length_append, HTK.out, List.length_singleton]; omega) hs9 ?_
                   intro v10 w10 ho10 hg10
                   have HOX := hide ho10
                   have HBX : Hid (Below w7.heap.size w7 w10) := HB9.out.grown hg10 hs9 (fun i e => (HO9.out.2.lt i e).1)
                   clear ho10 hg10))
              have HOF : Hid (OwnR w10 g v10 (thingsOf cs (ordFrom cs (n - i) i))) := by
                rw [← HFIN.out]
                have := HOX.out.mono hs7
                rwa [List.nil_append] at this
              have HBF : Hid (Below g w w10) := A4.out.trans (HBX.out.mono hs7)
              go_wp2_with fail
              go_roundw
              case rel => exact ⟨i, by omega, by go_num, HOF, HBF⟩
              case measure => simp [intOf]
    · obtain rfl : m = 0 := by omega
      rw [Nat.sub_zero] at HO
      go_wp2_with fail
      go_ret
      exact ⟨_, rfl, HO.out, HB.out⟩
end Go.Proofs.Ytalnhhpcncjflaa.Pm
