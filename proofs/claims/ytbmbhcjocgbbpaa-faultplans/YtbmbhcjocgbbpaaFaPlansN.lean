/-
  Any entries, any questions, two plans of the same and a nil one: every answer; what was told is new memory each time.
-/
import Derived.Test.YtbmbhcjocgbbpaaFaSt
import Derived.Test.YtbmbhcjocgbbpaaFaSameF
import Derived.Test.YtbmbhcjocgbbpaaFaGiven
import Derived.Test.YtbmbhcjocgbbpaaFaOpen
namespace Go.Proofs.Ytbmbhcjocgbbpaa.faultPlans
open Go.ChangeShapes Go.WideShapes Go.ChangeAt Go.RowKit
open Go.Proofs.Ytbmbhcjocgbbpaa.Base Go.Proofs.Ytbmbhcjocgbbpaa.Fa
set_option linter.unusedVariables false
theorem rdl_cutP {w : World} {base g N M c : Nat} {fs ms : List Flt} (h : OwnL w base (.slice (some ⟨g, 0, none⟩) N c) (fs ++ ms)) (hn : fs.length = M) : RdL w (some ⟨g, 0, none⟩) M fs := by
  have hN := h.len.1
  have h1 := h.rdl.cut M (by rw [hN, List.length_append]; omega)
  rw [show (fs ++ ms).take M = fs by rw [← hn, List.take_left]] at h1
  exact h1
set_option maxHeartbeats 16000000 in
set_option maxRecDepth 100000 in
theorem walkN (a : Option Addr) (n cap : Nat) (fs : List Flt) (a1 : Option Addr) (K cap1 : Nat) (ks : List Ak) (w : World) (hr : RdL w a n fs) (hlc : n ≤ cap) (hm : cap ≤ 2199023255488) (hnil : a = none → n = 0 ∧ cap = 0)
    (hr1 : RdK w a1 K ks) (hlc1 : K ≤ cap1) (hm1 : cap1 ≤ 3518437208783) (hnil1 : a1 = none → K = 0 ∧ cap1 = 0) (hk : chk fs ≠ 0) :
    Calls Try.prog 7 #[.slice a n cap, .slice a1 K cap1] w fun e w' => e = .returned (.bool true) ∧ Below w.heap.size w w' := by
  have HL := hide hr.1
  have HR := hide hr
  have HR1 := hide hr1
  have HNIL := hide hnil
  have HB_0 : Hid (Below w.heap.size w w) := b0 _
  have hcc : n ≤ n + 64 := by omega
  have hcci : (n : Int) ≤ (n : Int) + 64 := by omega
  have HK := hide hk
  have HNB : Hid (n ≤ 4611686018427387904) := by show _ ≤ _; omega
  obtain ⟨C, hC⟩ : ∃ C, chk fs = C := ⟨_, rfl⟩
  have HKE := hide hC
  have hci : ((C : Int) != 0) = true := by rw [hC] at hk; simp; omega
  have hcq : ((C : Int) != (C : Int)) = false := by simp
  clear hr hr1 hnil hnil1 hk hC
  go_enter Try.func7, Try.ntmps7
  go_wp2_with fail
  refine (pstop_nil 0 0 1 w).mono ?_
  rintro e w1 ⟨rfl, hb⟩
  have HB_1 := hide (below_trans HB_0.out hb)
  have HZ_1 : Hid (w.heap.size ≤ w1.heap.size) := (hb).size
  clear HB_0
  clear hb
  go_wp2_with fail
  refine (pdue_nil 0 1 0 0 _).mono ?_
  rintro e w2 ⟨rfl, hb⟩
  have HB_2 := hide (below_trans HB_1.out hb)
  have HZ_2 : Hid (w1.heap.size ≤ w2.heap.size) := (hb).size
  clear HB_1
  clear hb
  go_wp2_with fail
  refine (pleft_nil _).mono ?_
  rintro e w3 ⟨rfl, hb⟩
  have HB_3 := hide (below_trans HB_2.out hb)
  have HZ_3 : Hid (w2.heap.size ≤ w3.heap.size) := (hb).size
  clear HB_2
  clear hb
  go_wp2_with fail
  have HBP := hide HB_3.out.size
  refine (given_any a n cap fs _ (HR.out.below HB_3.out) (by omega)).mono ?_
  rintro e w4 ⟨gX, rfl, ho, hb⟩
  have HB_4 := hide (below_trans HB_3.out hb)
  have HZ_4 : Hid (w3.heap.size ≤ w4.heap.size) := (hb).size
  have X_4 : Hid (OwnL w4 w3.heap.size (.slice (some ⟨gX, 0, none⟩) (n + 64) (n + 64)) (fs ++ List.replicate 64 markF)) := ho
  clear HB_3
  have HBX : Hid (w.heap.size ≤ w3.heap.size) := HBP.out
  have HXB : Hid (w3.heap.size ≤ gX ∧ gX < w4.heap.size) := ho.blk gX rfl
  clear hb ho
  go_wp2_with fail
  refine (new_no (some ⟨gX, 0, none⟩) n (n + 64) fs _ (rdl_cutP X_4.out HL.out) HK.out).mono ?_
  rintro e w5 ⟨rfl, hb⟩
  have X_5 := hide (X_4.out.below hb)
  have HB_5 := hide (below_trans HB_4.out hb)
  have HZ_5 : Hid (w4.heap.size ≤ w5.heap.size) := (hb).size
  clear X_4 HB_4
  clear hb
  rw [HKE.out]
  go_wp2_with fail
  refine (new_no (some ⟨gX, 0, none⟩) n (n + 64) fs _ (rdl_cutP X_5.out HL.out) HK.out).mono ?_
  rintro e w6 ⟨rfl, hb⟩
  have X_6 := hide (X_5.out.below hb)
  have HB_6 := hide (below_trans HB_5.out hb)
  have HZ_6 : Hid (w5.heap.size ≤ w6.heap.size) := (hb).size
  clear X_5 HB_5
  clear hb
  rw [HKE.out]
  go_wp2_with fail
  refine (rnew_no a n cap fs _ (HR.out.below HB_6.out) HK.out).mono ?_
  rintro e w7 ⟨rfl, hb⟩
  have X_7 := hide (X_6.out.below hb)
  have HB_7 := hide (below_trans HB_6.out hb)
  have HZ_7 : Hid (w6.heap.size ≤ w7.heap.size) := (hb).size
  clear X_6 HB_6
  clear hb
  rw [HKE.out]
  have PA_7 : Hid (PP w7 w.heap.size (.pointer none) (.slice none 0 0) []) := .inl ⟨rfl, rfl, rfl⟩
  have PC_7 : Hid (PP w7 w.heap.size (.pointer none) (.slice none 0 0) []) := .inl ⟨rfl, rfl, rfl⟩
  have PB_7 : Hid (RP w7 w.heap.size (.pointer none) (.slice none 0 0) []) := .inl ⟨rfl, rfl, rfl⟩
  have HAX : Hid (Ap2 (.slice (some ⟨gX, 0, none⟩) (n + 64) (n + 64)) (.slice none 0 0)) := fun i e e' => by cases e'
  have HA3 : Hid (∀ i, pb (.pointer none) = some i → pb (.pointer none) ≠ some i) := fun i e => by cases e
  go_wp2_with fail
  refine (given_any a n cap fs _ (HR.out.below HB_7.out) (by omega)).mono ?_
  rintro e w8 ⟨gG, rfl, ho, hb⟩
  have X_8 := hide (X_7.out.below hb)
  have PA_8 := hide (PA_7.out.below hb)
  have PB_8 := hide (PB_7.out.below hb)
  have PC_8 := hide (PC_7.out.below hb)
  have HB_8 := hide (below_trans HB_7.out hb)
  have HZ_8 : Hid (w7.heap.size ≤ w8.heap.size) := (hb).size
  have G_8 : Hid (OwnL w8 w7.heap.size (.slice (some ⟨gG, 0, none⟩) (n + 64) (n + 64)) (fs ++ List.replicate 64 markF)) := ho
  clear X_7 PA_7 PB_7 PC_7 HB_7
  clear hb ho
  go_wp2_with fail
  refine (sameF_eq (some ⟨gX, 0, none⟩) (some ⟨gG, 0, none⟩) (n + 64) (n + 64) (n + 64) (n + 64) (fs ++ List.replicate 64 markF) _ X_8.out.rdl G_8.out.rdl (by omega)).mono ?_
  rintro e w9 ⟨rfl, zq, hzq⟩
  have hb : Below w8.heap.size w8 w9 := by rw [hzq]; exact below_drewN' _ _ _
  have X_9 := hide (X_8.out.below hb)
  have PA_9 := hide (PA_8.out.below hb)
  have PB_9 := hide (PB_8.out.below hb)
  have PC_9 := hide (PC_8.out.below hb)
  have G_9 := hide (G_8.out.below hb)
  have HB_9 := hide (below_trans HB_8.out hb)
  have HZ_9 : Hid (w8.heap.size ≤ w9.heap.size) := (hb).size
  clear X_8 PA_8 PB_8 PC_8 G_8 HB_8
  clear hb hzq
  have HST : Hid (St w9 w.heap.size (.pointer none) (.pointer none) (.pointer none) (.slice none 0 0) (.slice none 0 0) (.slice none 0 0) (.slice none 0 0) [] [] [] []) := ⟨PA_9.out, PB_9.out, PC_9.out, ownt_none _ _, tds_nil _ _, fun j hj => by simp at hj, HA3.out⟩
  have HXX : Hid (∃ gs : List Flt, gs.length = n + 64 ∧ OwnL w9 w3.heap.size (.slice (some ⟨gX, 0, none⟩) (n + 64) (n + 64)) gs) := ⟨_, by simp [HL.out], X_9.out⟩
  have HBC := HB_9
  clear PA_9 PB_9 PC_9 X_9 G_9 HB_9
  go_wp2_with fail
  go_loopw [15] (fun si wr => ∃ i : Nat, i ≤ n ∧ .int .i64 (i : Int) = si ∧ Hid (∃ gs : List Flt, gs.length = n + 64 ∧ OwnL wr w3.heap.size (.slice (some ⟨gX, 0, none⟩) (n + 64) (n + 64)) gs) ∧ Hid (St wr w.heap.size (.pointer none) (.pointer none) (.pointer none) (.slice none 0 0) (.slice none 0 0) (.slice none 0 0) (.slice none 0 0) [] [] [] []) ∧ Hid (Below w.heap.size w wr)) (fun si _ => n - (intOf si).toNat)
  case atStart => exact ⟨0, by omega, rfl, HXX, HST, HBC⟩
  case round =>
    clear HXX HST HBC
    obtain ⟨i, hi, rfl, HXX, HST, HB⟩ := hrel
    by_cases hin : i < n
    · have hii : (i : Int) < (n : Int) := by omega
      have hij : (i : Int) < (n : Int) + 64 := by omega
      obtain ⟨gs, hgl, hgo⟩ := HXX.out
      have hra := (own_fa hgo).1
      obtain ⟨d0, d1, d2, d3, d4, d5, d6, d7⟩ := hra.at8 i (by omega)
      have z0 := hra.frozen (i * 8)
      have z1 := hra.frozen (i * 8 + 1)
      have z2 := hra.frozen (i * 8 + 2)
      have z3 := hra.frozen (i * 8 + 3)
      have z4 := hra.frozen (i * 8 + 4)
      have z5 := hra.frozen (i * 8 + 5)
      have z6 := hra.frozen (i * 8 + 6)
      have z7 := hra.frozen (i * 8 + 7)
      obtain ⟨w5, hw5⟩ : ∃ w5, ((((((((wr.setCell ⟨gX, i * 8, none⟩ (.int .i64 79)).setCell ⟨gX, i * 8 + 1, none⟩ (.int .i64 0)).setCell ⟨gX, i * 8 + 2, none⟩ (.int .i64 0)).setCell ⟨gX, i * 8 + 3, none⟩ (.int .i64 0)).setCell ⟨gX, i * 8 + 4, none⟩ (.int .i64 0)).setCell ⟨gX, i * 8 + 5, none⟩ (.int .i64 0)).setCell ⟨gX, i * 8 + 6, none⟩ (.int .i64 0)).setCell ⟨gX, i * 8 + 7, none⟩ (.int .u32 0)) = w5 := ⟨_, rfl⟩
      have hw5' : set8 wr gX (i * 8) (ovF 79) = w5 := hw5
      have HXN : Hid (∃ gs : List Flt, gs.length = n + 64 ∧ OwnL w5 w3.heap.size (.slice (some ⟨gX, 0, none⟩) (n + 64) (n + 64)) gs) := ⟨gs.set i (ovF 79), by rw [List.length_set, hgl], by rw [← hw5']; exact hgo.put i (by omega) (ovF 79)⟩
      have hg5 : wr.grownBy w5 (some gX) := by rw [← hw5']; exact grown_set8 (World.grownBy.refl _ _) _ _
      have HSN := hide (HST.out.own1 hgo hg5 HAX.out HAX.out HAX.out (fun j hj => by simp at hj))
      have HBN : Hid (Below w.heap.size w w5) := HB.out.grown hg5 HB.out.size (fun j e => by have e2 : gX = j := Option.some.inj e; have h1 := HXB.out; have h2 := HBX.out; omega)
      clear hra hgo hgl hw5' hg5
      go_wp2_with fail
      go_roundw
      case rel => exact ⟨i + 1, by omega, by go_num, HXN, HSN, HBN⟩
      case measure => simp [intOf]; omega
    · obtain rfl : n = i := by omega
      clear HXX
      go_wp2_with fail
      go_loopw [16, 17] (fun st si wr => ∃ (i : Nat) (ts lv lq : Value) (cur : List Flt) (ds : List Td), i ≤ K ∧ ts = st ∧ .int .i64 (i : Int) = si ∧ Hid (St wr w.heap.size (.pointer none) (.pointer none) (.pointer none) lv lq (.slice none 0 0) ts cur cur [] ds) ∧ Hid (Gd cur) ∧ Hid (ds.length ≤ i) ∧ Hid (Below w.heap.size w wr)) (fun _ si _ => K - (intOf si).toNat)
      case atStart => exact ⟨0, _, (.slice none 0 0), (.slice none 0 0), [], [], by omega, rfl, rfl, HST, gd_nil, Nat.zero_le _, HB⟩
      case round =>
        clear HST HB
        obtain ⟨i, ts, lv, lq, cur, ds, hi, rfl, rfl, HST, HGD, HDL, HB⟩ := hrel
        rename World => V0
        by_cases hin : i < K
        · have hii : (i : Int) < (K : Int) := by omega
          obtain ⟨b1, o1, rfl, hl1, hc1⟩ := HR1.out.2 (by omega)
          obtain ⟨k, hkk⟩ : ∃ k, ks.getD i ak0 = k := ⟨_, rfl⟩
          obtain ⟨p0, p1, p2, p3, p4⟩ := (hc1 i hin).same (w' := V0) (fun k => HB.out.cell (p := ⟨b1, k, none⟩) hl1)
          rw [hkk] at p0 p1 p2 p3 p4
          clear hkk hc1
          obtain ⟨kb, hkb⟩ : ∃ kb, V0.heap.size = kb := ⟨_, rfl⟩
          obtain ⟨v0, hv0⟩ : ∃ v0, V0.alloc (.cells #[.int .i64 k.o, .int .i64 k.a, .int .i64 k.b, .int .i64 k.c, .int .i64 k.d] 46) = v0 := ⟨_, rfl⟩
          have KB0 : Hid (KB v0 kb k) := by show KB _ _ _; rw [← hv0, ← hkb]; exact KB.new V0 k
          have hbv : Below V0.heap.size V0 v0 := by rw [← hv0]; exact ba (b0 _) _
          obtain ⟨t0, t1, t2, t3, t4⟩ := KB0.out.cells
          have S0 := hide (HST.out.below hbv)
          have HB0 := hide (below_trans HB.out hbv)
          have hcl : cur.length ≤ 1048576 := by have := HGD.out.2.2; omega
          have hwm : IntKind.i64.wrap (1000 + (i : Int)) = 1000 + (i : Int) := by rw [IntKind.wrap_i64]; omega
          clear hbv HST HB
          by_cases ho0 : k.o = 0
          · have ho' : (k.o == 0) = true := by simpa using ho0
            have ho1 : (k.o == 1) = false := by rw [ho0]; rfl
            clear ho0
            go_wp2_with fail
            refine (pstop_p k.a k.b k.c w.heap.size (.pointer none) lv cur _ S0.out.p hcl HB0.out.size).mono ?_
            rintro e v1 ⟨rfl, ⟨lv1, hp1, hl1⟩, hg1⟩
            have S1 := hide (S0.out.setP hg1 hp1 hl1)
            have HB1 : Hid (Below w.heap.size w v1) := HB0.out.grown hg1 HB0.out.size (fun j e => (S0.out.p.blk.1 j e).1)
            have KB1 := hide (KB0.out.grown hg1 (ty_ne KB0.out.ty S0.out.p.ty ne_types.2.2.2.2.2.2.1 _ rfl))
            clear t0 t1 t2 t3 t4
            obtain ⟨t0, t1, t2, t3, t4⟩ := KB1.out.cells
            obtain ⟨s1, s2, hs⟩ : ∃ s1 s2, stopV (cur.filter (isStop ((0, k.a, k.b, k.c) : P4))) = (s1, s2) := ⟨_, _, rfl⟩
            rw [hs]
            clear hp1 hl1 hg1
            go_wp2_with fail
            refine (rstop_p k.a k.b k.c w.heap.size (.pointer none) lq cur _ S1.out.q hcl HB1.out.size HGD.out.2.1).mono ?_
            rintro e v2 ⟨rfl, ⟨lq2, hq2, hl2⟩, hg2⟩
            have S2 := hide (S1.out.setQ hg2 hq2 hl2)
            have HB2 : Hid (Below w.heap.size w v2) := HB1.out.grown hg2 HB1.out.size (fun j e => (S1.out.q.blk.1 j e).1)
            rw [hs]
            have hs1 : (s1 != s1) = false := by simp
            have hs2 : (s2 != s2) = false := by simp
            clear hq2 hl2 hg2 hs
            go_wp2_with fail
            go_roundw
            case rel => exact ⟨i + 1, ts, lv1, lq2, cur.filter (fun f => !isStop ((0, k.a, k.b, k.c) : P4) f), ds, by omega, rfl, by go_num, S2, HGD.out.filter _, by have := HDL.out; show _ ≤ _; omega, HB2⟩
            case measure => simp [intOf]; omega
          · have ho' : (k.o == 0) = false := by simpa using ho0
            by_cases ho1 : k.o = 1
            · have ho1' : (k.o == 1) = true := by simpa using ho1
              clear ho0 ho1
              go_wp2_with fail
              refine (pdue_p k.a k.b k.c k.d w.heap.size (.pointer none) lv cur _ S0.out.p hcl HB0.out.size).mono ?_
              rintro e v1 ⟨⟨dv, lv1, rfl, hdv, hp1, hda, hl1⟩, hg1⟩
              have S1 := hide (S0.out.setP hg1 hp1 hl1)
              have HB1 : Hid (Below w.heap.size w v1) := HB0.out.grown hg1 HB0.out.size (fun j e => (S0.out.p.blk.1 j e).1)
              have KB1 := hide (KB0.out.grown hg1 (ty_ne KB0.out.ty S0.out.p.ty ne_types.2.2.2.2.2.2.1 _ rfl))
              clear t0 t1 t2 t3 t4
              obtain ⟨t0, t1, t2, t3, t4⟩ := KB1.out.cells
              have HZA : Hid (v0.heap.size ≤ v1.heap.size) := hg1.size
              have HY := hide (S0.out.young (u := dv) (fun j e => (hdv.blk j e).1))
              obtain ⟨D, hD⟩ : ∃ D, cur.filter (isDue (k.a, k.b, k.c, rdr k.c k.d)) = D := ⟨_, rfl⟩
              rw [hD] at hdv
              have hDl : D.length ≤ 256 := by rw [← hD]; exact Nat.le_trans (List.length_filter_le _ _) HGD.out.2.2
              obtain ⟨M, hM⟩ : ∃ M, D.length = M := ⟨_, rfl⟩
              rw [hM] at hDl
              obtain ⟨da, dc, hdd, _, _⟩ := hdv.shape
              rw [hM] at hdd
              subst hdd
              have HDA := hide hda
              have HD1 : Hid (OwnL v1 v0.heap.size (.slice da M dc) D) := hdv
              have HDS : Hid (∀ j, (Value.slice da M dc).ownBlock = some j → v0.heap.size ≤ j ∧ j < v1.heap.size) := hdv.blk
              have HDE := hide hD
              have hMi : (M : Int) ≤ 256 := by omega
              have HM := hide hM
              clear hdv hp1 hda hl1 hg1 hD hM
              go_wp2_with fail
              refine (rdue_p k.a k.b k.c k.d w.heap.size (.pointer none) lq cur _ S1.out.q hcl HB1.out.size HGD.out.1).mono ?_
              rintro e v2 ⟨⟨qv2, lq2, rfl, hqv, hq2, _, hl2⟩, hg2⟩
              rw [HDE.out] at hqv
              have HZB : Hid (v1.heap.size ≤ v2.heap.size) := hg2.size
              have S2 := hide (S1.out.setQ hg2 hq2 hl2)
              have HB2 : Hid (Below w.heap.size w v2) := HB1.out.grown hg2 HB1.out.size (fun j e => (S1.out.q.blk.1 j e).1)
              have HD2 := hide (HD1.out.kept hg2 (fun j e => ty_ne HD1.out.ty S1.out.q.ty ne_types.2.1 j e))
              have HAQ : Hid (Ap2 (.slice da M dc) lq2) := ap_birth (fun j e => (HDS.out j e).2) hl2
              obtain ⟨qa, qc, hqq, _, _⟩ := hqv.shape
              rw [HM.out] at hqq
              subst hqq
              have HQ2 := hide hqv
              clear hqv hq2 hl2 hg2 t0 t1 t2 t3 t4
              go_wp2_with fail
              refine (sameF_eq da qa M dc M qc D _ HD2.out.rdl HQ2.out.rdl (by omega)).mono ?_
              rintro e v3 ⟨rfl, zq, hzq⟩
              have hb3 : Below v2.heap.size v2 v3 := by rw [hzq]; exact below_drewN' _ _ _
              have HZC : Hid (v2.heap.size ≤ v3.heap.size) := hb3.size
              have S3 := hide (S2.out.below hb3)
              have HB3 := hide (below_trans HB2.out hb3)
              have HD3 := hide (HD2.out.below hb3)
              clear hb3 hzq
              go_wp2_with fail
              refine (spoil_own v0.heap.size da M dc D (1000 + (i : Int)) v3 HD3.out (by have z1 := HZA.out; have z2 := HZB.out; have z3 := HZC.out; omega) (by omega) (by omega) (by omega)).mono ?_
              rintro e v4 ⟨rfl, ho4, hg4⟩
              have HA1 : Hid (Ap2 (.slice da M dc) lv1) := HDA.out
              have HA2 := HAQ
              have HA3' : Hid (Ap2 (.slice da M dc) (.slice none 0 0)) := HY.out.2.2.1
              have HA4 : Hid (∀ j, j < ds.length → Ap2 (.slice da M dc) (ds.getD j td0).v) := HY.out.2.2.2
              have S4 := hide (S3.out.own1 HD3.out hg4 HA1.out HA2.out HA3'.out HA4.out)
              have HB4 : Hid (Below w.heap.size w v4) := HB3.out.grown hg4 HB3.out.size (fun j e => by have h1 := (HDS.out j e).1; have h2 := HB0.out.size; omega)
              have dM : Hid (OwnL v4 w.heap.size (.slice da M dc) (List.replicate M (ovF (1000 + (i : Int))))) := ho4.base HB0.out.size
              have HAA1 := HA1
              have HAA2 := HA2
              have HAA3 := HA3'
              have HAA4 := HA4
              clear ho4 hg4
              obtain ⟨g5, hgg⟩ : ∃ g, v4.heap.size = g := ⟨_, rfl⟩
              obtain ⟨v5, hvv⟩ : ∃ vn, v4.alloc (.cells #[.slice da M dc, .int .i64 (1000 + (i : Int))] 58) = vn := ⟨_, rfl⟩
              have hbn : Below v4.heap.size v4 v5 := by rw [← hvv]; exact ba (b0 _) _
              have hrow : v5.heap[g5]? = some (.cells #[.slice da M dc, .int .i64 (1000 + (i : Int))] 58) := by rw [← hvv, ← hgg]; exact heap_alloc_new _ _
              have HC0 : Hid (v5.cell? ⟨g5, 0, none⟩ = some (Td.v ⟨da, M, dc, 1000 + (i : Int)⟩)) := by show _ = _; rw [cell_of_row _ _ _ _ _ _ hrow]; rfl
              have HC1 : Hid (v5.cell? ⟨g5, 1, none⟩ = some (.int .i64 (Td.m ⟨da, M, dc, 1000 + (i : Int)⟩))) := by show _ = _; rw [cell_of_row _ _ _ _ _ _ hrow]; rfl
              have S5 := hide (S4.out.below hbn)
              have HB5 := hide (below_trans HB4.out hbn)
              have dN := hide (dM.out.below hbn)
              clear hrow hbn
              go_wp2_with (at_builtin; refine pushTd _ rfl _ _ rfl w.heap.size ts ds rfl S5.out.o g5 ⟨da, M, dc, 1000 + (i : Int)⟩ rfl HC0.out HC1.out (by have := HDL.out; omega) HB5.out.size ?_
                           intro gn cn vn hon hgn hln
                           have SN := hide (S5.out.push hgn hon dN.out (by show M ≤ _; omega) HAA1.out HAA2.out HAA3.out HAA4.out)
                           have HBN : Hid (Below w.heap.size w vn) := HB5.out.grown hgn HB5.out.size (fun j e => (S5.out.o.blk j e).1)
                           clear hon hgn hln)
              go_roundw
              case rel => exact ⟨i + 1, _, lv1, lq2, (cur.filter (fun f => !isDue (k.a, k.b, k.c, rdr k.c k.d) f)), _, by omega, rfl, by go_num, SN, HGD.out.filter _, by have := HDL.out; show _ ≤ _; rw [List.length_append, List.length_singleton]; omega, HBN⟩
              case measure => simp [intOf]; omega
            · have ho1' : (k.o == 1) = false := by simpa using ho1
              clear ho0 ho1
              obtain ⟨M, hM⟩ : ∃ M, cur.length = M := ⟨_, rfl⟩
              have hMb : M ≤ 256 := by rw [← hM]; exact HGD.out.2.2
              have hMi : (M : Int) ≤ 256 := by omega
              have HM := hide hM
              clear hM
              go_wp2_with fail
              refine (pleft_p w.heap.size (.pointer none) lv cur _ S0.out.p hcl).mono ?_
              rintro e v1 ⟨⟨xv, rfl, hxv⟩, hb1⟩
              have HY := hide (S0.out.young (u := xv) (fun j e => (hxv.blk j e).1))
              obtain ⟨xa, xc, hxx, _, _⟩ := hxv.shape
              rw [HM.out] at hxx
              subst hxx
              have S1 := hide (S0.out.below hb1)
              have HB1 := hide (below_trans HB0.out hb1)
              have HX1 := hide hxv
              have HXS : Hid (∀ j, (Value.slice xa M xc).ownBlock = some j → v0.heap.size ≤ j ∧ j < v1.heap.size) := hxv.blk
              have HZ1 := hide hb1.size
              clear hxv hb1
              go_wp2_with fail
              refine (pleft_p w.heap.size (.pointer none) lv cur _ S1.out.p hcl).mono ?_
              rintro e v2 ⟨⟨yv, rfl, hyv⟩, hb2⟩
              obtain ⟨ya, yc, hyy, _, _⟩ := hyv.shape
              rw [HM.out] at hyy
              subst hyy
              have S2 := hide (S1.out.below hb2)
              have HB2 := hide (below_trans HB1.out hb2)
              have HX2 := hide (HX1.out.below hb2)
              have HY2 := hide hyv
              have HYS : Hid (∀ j, (Value.slice ya M yc).ownBlock = some j → v1.heap.size ≤ j) := fun j e => (hyv.blk j e).1
              have HZ2 := hide hb2.size
              clear hyv hb2
              go_wp2_with fail
              refine (rleft_p w.heap.size (.pointer none) lq cur _ S2.out.q hcl).mono ?_
              rintro e v3 ⟨⟨zv, rfl, hzv⟩, hb3⟩
              obtain ⟨za, zc, hzz, _, _⟩ := hzv.shape
              rw [HM.out] at hzz
              subst hzz
              have S3 := hide (S2.out.below hb3)
              have HB3 := hide (below_trans HB2.out hb3)
              have HX3 := hide (HX2.out.below hb3)
              have HY3 := hide (HY2.out.below hb3)
              have HQ3 := hide hzv
              have HZ3 := hide hb3.size
              clear hzv hb3
              go_wp2_with fail
              refine (sameF_eq xa za M xc M zc cur _ HX3.out.rdl HQ3.out.rdl (by omega)).mono ?_
              rintro e v4 ⟨rfl, zq, hzq⟩
              have hb4 : Below v3.heap.size v3 v4 := by rw [hzq]; exact below_drewN' _ _ _
              have S4 := hide (S3.out.below hb4)
              have HB4 := hide (below_trans HB3.out hb4)
              have HX4 := hide (HX3.out.below hb4)
              have HY4 := hide (HY3.out.below hb4)
              have HZ4 := hide hb4.size
              clear hb4 hzq
              go_wp2_with fail
              refine (spoil_own v0.heap.size xa M xc cur (1000 + (i : Int)) v4 HX4.out (by have z1 := HZ1.out; have z2 := HZ2.out; have z3 := HZ3.out; have z4 := HZ4.out; omega) (by omega) (by omega) (by omega)).mono ?_
              rintro e v5 ⟨rfl, ho5, hg5⟩
              have HAA1 : Hid (Ap2 (.slice xa M xc) lv) := HY.out.1
              have HAA2 : Hid (Ap2 (.slice xa M xc) lq) := HY.out.2.1
              have HAA3 : Hid (Ap2 (.slice xa M xc) (.slice none 0 0)) := HY.out.2.2.1
              have HAA4 : Hid (∀ j, j < ds.length → Ap2 (.slice xa M xc) (ds.getD j td0).v) := HY.out.2.2.2
              have S5 := hide (S4.out.own1 HX4.out hg5 HAA1.out HAA2.out HAA3.out HAA4.out)
              have HB5 : Hid (Below w.heap.size w v5) := HB4.out.grown hg5 HB4.out.size (fun j e => by have h1 := (HXS.out j e).1; have h2 := HB0.out.size; omega)
              have HX5 : Hid (OwnL v5 w.heap.size (.slice xa M xc) (List.replicate M (ovF (1000 + (i : Int))))) := ho5.base HB0.out.size
              have HY5 := hide (HY4.out.kept hg5 (fun j e e' => by have h1 := (HXS.out j e').2; have h2 := HYS.out j e; omega))
              clear ho5 hg5
              go_wp2_with fail
              refine (rleft_p w.heap.size (.pointer none) lq cur _ S5.out.q hcl).mono ?_
              rintro e v6 ⟨⟨uv, rfl, huv⟩, hb6⟩
              obtain ⟨ua, uc, huu, _, _⟩ := huv.shape
              rw [HM.out] at huu
              subst huu
              have S6 := hide (S5.out.below hb6)
              have HB6 := hide (below_trans HB5.out hb6)
              have HX6 := hide (HX5.out.below hb6)
              have HY6 := hide (HY5.out.below hb6)
              have HU6 := hide huv
              clear huv hb6
              go_wp2_with fail
              refine (sameF_eq ya ua M yc M uc cur _ HY6.out.rdl HU6.out.rdl (by omega)).mono ?_
              rintro e v7 ⟨rfl, zq, hzq⟩
              have hb7 : Below v6.heap.size v6 v7 := by rw [hzq]; exact below_drewN' _ _ _
              have S7 := hide (S6.out.below hb7)
              have HB7 := hide (below_trans HB6.out hb7)
              have xM := hide (HX6.out.below hb7)
              clear hb7 hzq
              obtain ⟨g8, hgg⟩ : ∃ g, v7.heap.size = g := ⟨_, rfl⟩
              obtain ⟨v8, hvv⟩ : ∃ vn, v7.alloc (.cells #[.slice xa M xc, .int .i64 (1000 + (i : Int))] 58) = vn := ⟨_, rfl⟩
              have hbn : Below v7.heap.size v7 v8 := by rw [← hvv]; exact ba (b0 _) _
              have hrow : v8.heap[g8]? = some (.cells #[.slice xa M xc, .int .i64 (1000 + (i : Int))] 58) := by rw [← hvv, ← hgg]; exact heap_alloc_new _ _
              have HC0 : Hid (v8.cell? ⟨g8, 0, none⟩ = some (Td.v ⟨xa, M, xc, 1000 + (i : Int)⟩)) := by show _ = _; rw [cell_of_row _ _ _ _ _ _ hrow]; rfl
              have HC1 : Hid (v8.cell? ⟨g8, 1, none⟩ = some (.int .i64 (Td.m ⟨xa, M, xc, 1000 + (i : Int)⟩))) := by show _ = _; rw [cell_of_row _ _ _ _ _ _ hrow]; rfl
              have S8 := hide (S7.out.below hbn)
              have HB8 := hide (below_trans HB7.out hbn)
              have xN := hide (xM.out.below hbn)
              clear hrow hbn
              go_wp2_with (at_builtin; refine pushTd _ rfl _ _ rfl w.heap.size ts ds rfl S8.out.o g8 ⟨xa, M, xc, 1000 + (i : Int)⟩ rfl HC0.out HC1.out (by have := HDL.out; omega) HB8.out.size ?_
                           intro gn cn vn hon hgn hln
                           have SN := hide (S8.out.push hgn hon xN.out (by show M ≤ _; omega) HAA1.out HAA2.out HAA3.out HAA4.out)
                           have HBN : Hid (Below w.heap.size w vn) := HB8.out.grown hgn HB8.out.size (fun j e => (S8.out.o.blk j e).1)
                           clear hon hgn hln)
              go_roundw
              case rel => exact ⟨i + 1, _, lv, lq, cur, _, by omega, rfl, by go_num, SN, HGD, by have := HDL.out; show _ ≤ _; rw [List.length_append, List.length_singleton]; omega, HBN⟩
              case measure => simp [intOf]; omega
        · obtain rfl : i = K := by omega
          have hcl : cur.length ≤ 1048576 := by have := HGD.out.2.2; omega
          have hfl : ([] : List Flt).length ≤ 1048576 := by simp
          obtain ⟨ta, tc, hts, _⟩ := HST.out.o.shape
          obtain ⟨N, hN⟩ : ∃ N, ds.length = N := ⟨_, rfl⟩
          rw [hN] at hts
          subst hts
          have HN := hide hN
          have hNb : N ≤ 4611686018427387904 := by have := HDL.out; omega
          clear hN
          go_wp2_with fail
          refine (pleft_p w.heap.size (.pointer none) (.slice none 0 0) [] _ HST.out.t hfl).mono ?_
          rintro e v1 ⟨⟨xv, rfl, hxv⟩, hb1⟩
          have HY := hide (HST.out.young (u := xv) (fun j e => (hxv.blk j e).1))
          obtain ⟨xa, xc, hxx, _, _⟩ := hxv.shape
          simp only [List.length_nil] at hxx
          subst hxx
          have S1 := hide (HST.out.below hb1)
          have HB1 := hide (below_trans HB.out hb1)
          have HX1 := hide hxv
          clear hxv hb1
          go_wp2_with fail
          refine (whole_any w.heap.size ta N tc ds v1 S1.out.o S1.out.d S1.out.tap HB1.out.size hNb HN.out.symm).mono ?_
          rintro e v2 ⟨rfl, hm⟩
          have HB2 : Hid (Below w.heap.size w v2) := hm.below HB1.out (fun j ⟨b, hb, e⟩ => ((S1.out.d.own b hb).blk j e).1)
          have HPQ := hide (S1.out.many hm)
          have HX2 := hide (HX1.out.many hm (fun j e ⟨b, hb, e'⟩ => HY.out.2.2.2 b hb j e e'))
          clear hm
          go_wp2_with fail
          refine (pleft_p w.heap.size (.pointer none) lv cur _ HPQ.out.1 hcl).mono ?_
          rintro e v3 ⟨⟨yv, rfl, hyv⟩, hb3⟩
          obtain ⟨ya, yc, rfl, _, _⟩ := hyv.shape
          have HQ3 := hide (HPQ.out.2.below hb3)
          have HB3 := hide (below_trans HB2.out hb3)
          have HX3 := hide (HX2.out.below hb3)
          have HY3 := hide hyv
          clear hyv hb3
          go_wp2_with fail
          refine (rleft_p w.heap.size (.pointer none) lq cur _ HQ3.out hcl).mono ?_
          rintro e v4 ⟨⟨zv, rfl, hzv⟩, hb4⟩
          obtain ⟨za, zc, rfl, _, _⟩ := hzv.shape
          have HB4 := hide (below_trans HB3.out hb4)
          have HX4 := hide (HX3.out.below hb4)
          have HY4 := hide (HY3.out.below hb4)
          have HZ4 := hide hzv
          clear hzv hb4
          go_wp2_with fail
          refine (sameF_eq ya za cur.length yc cur.length zc cur _ HY4.out.rdl HZ4.out.rdl (by omega)).mono ?_
          rintro e v5 ⟨rfl, zq, hzq⟩
          have hb5 : Below v4.heap.size v4 v5 := by rw [hzq]; exact below_drewN' _ _ _
          have HB5 := hide (below_trans HB4.out hb5)
          have HX5 := hide (HX4.out.below hb5)
          clear hb5 hzq
          go_wp2_with fail
          go_ret
          exact ⟨rfl, HB5.out⟩
end Go.Proofs.Ytbmbhcjocgbbpaa.faultPlans
