/-
  Each entry comes at most once, whatever is asked: what was told and what is left are all entries, each once.
-/
import Derived.Test.YtbmbhcjocgbbpaaFaStopAt
import Derived.Test.YtbmbhcjocgbbpaaFaNeq
import Derived.Test.YtbmbhcjocgbbpaaFaWorks
namespace Go.Proofs.Ytbmbhcjocgbbpaa.faultOnce
open Go.ChangeShapes Go.WideShapes Go.ChangeAt Go.RowKit
open Go.Proofs.Ytbmbhcjocgbbpaa.Base Go.Proofs.Ytbmbhcjocgbbpaa.Fa
set_option linter.unusedVariables false
theorem due_fields {x1 x2 x3 x4 : Int} {d : Flt} (h : isDue (x1, x2, x3, x4) d = true) : (d.k == 0) = false ∧ d.t = x1 ∧ d.a = x2 ∧ d.m = x3 ∧ d.r = x4 := by
  simp [isDue] at h
  exact ⟨by simpa using h.1, h.2.1, h.2.2.1, h.2.2.2.1, h.2.2.2.2⟩
/-- The step of one place that is due. -/
theorem due_step {fs : List Flt} {T : List Bool} {x : P4} {kk j : Nat} (hj : (dueI fs T x)[kk]? = some j) : j < fs.length ∧ T.getD j true = false ∧ isDue x (fs.getD j f0) = true ∧ j ∉ (dueI fs T x).take kk ∧ (dueI fs T x).take (kk + 1) = (dueI fs T x).take kk ++ [j] ∧ (∀ i, i ∈ (dueI fs T x).take kk → i < j) := by
  have hlt : kk < (dueI fs T x).length := (List.getElem?_eq_some_iff.1 hj).1
  have hge : (dueI fs T x)[kk] = j := (List.getElem?_eq_some_iff.1 hj).2
  have hm : j ∈ dueI fs T x := hge ▸ List.getElem_mem hlt
  obtain ⟨h1, h2⟩ := sel_mem.1 hm
  rw [Bool.and_eq_true] at h2
  have hr : (dueI fs T x).Pairwise (· < ·) := sel_rises _ _
  have hb : ∀ i, i ∈ (dueI fs T x).take kk → i < j := by
    intro i hi
    obtain ⟨q, hq, e⟩ := List.mem_iff_getElem.1 hi
    have hq2 : q < kk := by rw [List.length_take] at hq; omega
    rw [List.getElem_take] at e
    have := List.pairwise_iff_getElem.1 hr q kk (by omega) hlt hq2
    rw [e, hge] at this
    exact this
  refine ⟨h1, by simpa using h2.1, h2.2, fun hmem => Nat.lt_irrefl _ (hb j hmem), ?_, hb⟩
  rw [List.take_succ_eq_append_getElem hlt, hge]
set_option maxHeartbeats 16000000 in
set_option maxRecDepth 100000 in
theorem walk (a : Option Addr) (n cap : Nat) (fs : List Flt) (a1 : Option Addr) (K cap1 : Nat) (ks : List Ak) (w : World) (hr : RdL w a n fs) (hlc : n ≤ cap) (hm : cap ≤ 2199023255488) (hnil : a = none → n = 0 ∧ cap = 0) (hwf : ∀ f ∈ fs, Wf f)
    (hr1 : RdK w a1 K ks) (hlc1 : K ≤ cap1) (hm1 : cap1 ≤ 3518437208783) (hnil1 : a1 = none → K = 0 ∧ cap1 = 0) (hwf1 : ∀ f ∈ ks, WfK f) :
    Calls Try.prog 5 #[.slice a n cap, .slice a1 K cap1] w fun e w' => e = .returned (.bool true) ∧ Below w.heap.size w w' := by
  have HL := hide hr.1
  have HR := hide hr
  have HR1 := hide hr1
  have HNIL := hide hnil
  have hKi : (K : Int) ≤ 3518437208783 := by omega
  clear hr hnil hr1 hnil1 hwf hwf1
  by_cases hk : chk fs = 0
  rotate_left
  · obtain ⟨Q, hQ⟩ : ∃ Q, chk fs = Q := ⟨_, rfl⟩
    have HK := hide hk
    have HKE := hide hQ
    have hki : ((Q : Int) != 0) = true := by rw [hQ] at hk; simp; omega
    clear hk hQ
    go_enter Try.func5, Try.ntmps5
    go_wp2_with fail
    refine (new_no a n cap fs w HR.out HK.out).mono ?_
    rintro e w1 ⟨rfl, hb1⟩
    have HB1 := hide hb1
    rw [HKE.out]
    clear hb1
    go_wp2_with fail
    refine (works_any _).mono ?_
    rintro e w2 ⟨rfl, hb2⟩
    have HB2 := hide (below_trans HB1.out hb2)
    clear hb2
    go_wp2_with fail
    go_ret
    exact ⟨rfl, HB2.out⟩
  obtain ⟨hall, hnd, h256⟩ := chk_ok hk
  have HK := hide hk
  have HND := hide hnd
  rw [HL.out] at h256
  have hni : (n : Int) ≤ 256 := by omega
  have hmk := make_bools n (by omega)
  clear hk hall hnd
  go_enter Try.func5, Try.ntmps5
  go_wp2_with fail
  refine (new_ok a n cap fs w HR.out HNIL.out HK.out).mono ?_
  rintro e w1 ⟨p, lv, rfl, hp, hpl, hlv, hb1⟩
  have HP := hide hp
  obtain ⟨ZT, hZT⟩ : ∃ ZT, ((List.replicate n false).map Value.bool).toArray = ZT := ⟨_, rfl⟩
  rw [hZT] at hmk
  obtain ⟨w2, hw2⟩ : ∃ w2, w1.alloc (.cells ZT 4) = w2 := ⟨_, rfl⟩
  have HB2' : Hid (Below w1.heap.size w1 w2) := by show Below _ _ _; rw [← hw2]; exact ba (b0 _) _
  have HBB : Hid (BB w2 w1.heap.size (List.replicate n false)) := by show BB _ _ _; rw [← hw2]; unfold BB; rw [hZT]; exact heap_alloc_new _ _
  clear hZT
  obtain ⟨g, hg⟩ : ∃ g, w1.heap.size = g := ⟨_, rfl⟩
  rw [hg] at HBB
  have HG : Hid (w.heap.size ≤ g) := by show _ ≤ _; rw [← hg]; exact hb1.size
  have HPL := hide (hpl.below HB2'.out)
  have HLV := hide (hlv.below HB2'.out)
  have HB2 := hide (below_trans hb1 HB2'.out)
  clear hp hpl hlv hb1
  go_wp2_with fail

  clear hmk hw2 hg HB2'
  go_loopw [8, 9] (fun sn si wr => ∃ (i m : Nat) (T : List Bool) (lv : Value), i ≤ K ∧ .int .i64 (i : Int) = si ∧ .int .i64 (m : Int) = sn ∧ Hid (m + (unt fs T).length = n) ∧ Hid (T.length = n) ∧ Hid (BB wr g T) ∧ Hid (PlB wr p lv) ∧ Hid (OwnL wr w.heap.size lv (unt fs T)) ∧ Hid (Below w.heap.size w wr)) (fun _ si _ => K - (intOf si).toNat)
  case atStart =>
    have hu := unt_start fs
    rw [HL.out] at hu
    exact ⟨0, 0, List.replicate n false, lv, by omega, rfl, rfl, by show _ = _; rw [hu, HL.out]; omega, by show _ = _; simp, HBB.out, HPL.out, by show OwnL _ _ _ _; rw [hu]; exact HLV.out, HB2.out⟩
  case round =>
    clear HBB HPL HLV HB2
    obtain ⟨i, m, T, lv, hi, rfl, rfl, HM, HT, HBB, HPL, HLV, HB⟩ := hrel
    rename World => V0
    have HML := hide (unt_len fs T)
    have hmi : (m : Int) ≤ 256 := by have := HM.out; omega
    by_cases hin : i < K
    · have hii : (i : Int) < (K : Int) := by omega
      obtain ⟨b1, o1, rfl, hl1, hc1⟩ := HR1.out.2 (by omega)
      obtain ⟨k, hkk⟩ : ∃ k, ks.getD i ak0 = k := ⟨_, rfl⟩
      obtain ⟨p0, p1, p2, p3, p4⟩ := (hc1 i hin).same (w' := V0) (fun k => HB.out.cell (p := ⟨b1, k, none⟩) hl1)
      rw [hkk] at p0 p1 p2 p3 p4
      clear hkk hc1
      obtain ⟨w0, hw0⟩ : ∃ w0, V0.alloc (.cells #[.int .i64 k.o, .int .i64 k.a, .int .i64 k.b, .int .i64 k.c, .int .i64 k.d] 46) = w0 := ⟨_, rfl⟩
      have HF0 : Hid (KB w0 V0.heap.size k) := by show KB _ _ _; rw [← hw0]; exact KB.new V0 k
      have HB0 : Hid (Below V0.heap.size V0 w0) := by show Below _ _ _; rw [← hw0]; exact ba (b0 _) _
      obtain ⟨t0, t1, t2, t3, t4⟩ := HF0.out.cells
      obtain ⟨la, lc, rfl, _, _⟩ := HLV.out.shape
      have HPL0 := hide (HPL.out.below HB0.out)
      have HLV0 := hide (HLV.out.below HB0.out)
      have HBB0 := hide (HBB.out.below HB0.out)
      have HBW := hide (below_trans HB.out HB0.out)
      have HPF : Hid (V0.heap.size ≠ p) := by have := HPL.out.lt; exact fun e => by omega
      have HGF : Hid (V0.heap.size ≠ g) := by have := HBB.out.lt; exact fun e => by omega
      have HGP : Hid (g ≠ p) := HBB.out.ne HPL.out
      have hul : (unt fs T).length ≤ 1048576 := by have h1 := HML.out; have h2 := HL.out; omega
      by_cases ho0 : k.o = 0
      · have ho' : (k.o == 0) = true := by simpa using ho0
        have ho1 : (k.o == 1) = false := by rw [ho0]; rfl
        clear ho0
        go_wp2_with fail
        refine (pstop_any k.a k.b k.c p _ _ lc la (unt fs T) _ HPL0.out HLV0.out hul).mono ?_
        rintro e w2 ⟨lv2, rfl, hlv2, hpl2, hg2⟩
        have HB2 := hide (grown_below HBW.out hg2 HP.out)
        have HPL2 := hide hpl2
        have HBB2 := hide (HBB0.out.grown hg2 (fun e => HGP.out (Option.some.inj e).symm))
        have HF2 := hide (HF0.out.grown hg2 (fun e => HPF.out (Option.some.inj e).symm))
        have HLV2 := hide (hlv2.base HBW.out.size)
        clear hlv2 hpl2 hg2 t0 t1 t2 t3 t4
        obtain ⟨t0, t1, t2, t3, t4⟩ := HF2.out.cells
        obtain ⟨L, hL⟩ : ∃ L, (unt fs T).filter (isStop ((0, k.a, k.b, k.c) : P4)) = L := ⟨_, rfl⟩
        rw [hL]
        cases L with
        | nil =>
          rw [show stopV [] = (0, false) from rfl]
          have hfn := filter_none hL
          rw [hfn] at HLV2
          clear hL hfn
          go_wp2_with fail
          go_roundw
          case rel => exact ⟨i + 1, m, T, lv2, by omega, by go_num, rfl, HM.out, HT.out, HBB2.out, HPL2.out, HLV2.out, HB2.out⟩
          case measure => simp [intOf]; omega
        | cons f r =>
          rw [show stopV (f :: r) = (f.p, true) from rfl]
          obtain ⟨q, hq1, hq2, hq3, hq4, hq5, hq6, hq7⟩ := stop_found HND.out hL
          rw [hq6] at HLV2
          have HLEN : Hid (m + 1 + (unt fs (T.set q true)).length = n) := by
            show _ = _
            have h1 := filter_split (isStop ((0, k.a, k.b, k.c) : P4)) (unt fs T)
            rw [hL, hq6, hq7] at h1
            have h2 := HM.out
            simp only [List.length_singleton] at h1
            omega
          rw [HL.out] at hq1
          have HQ5 := hide hq5
          have HQE : Hid (plc (fs.getD q f0) = ((0, k.a, k.b, k.c) : P4)) := by show _ = _; rw [hq2]; exact hq4
          have HR2 := hide (HR.out.below HB2.out)
          have HBBT := hide (HBB2.out.cell q (by rw [HT.out]; exact hq1))
          have HBBF := hide (HBB2.out.fz q)
          rw [hq3] at HBBT
          have HFQ := hide hq2
          clear hL hq2 hq3 hq4 hq5 hq6 hq7
          go_wp2_with fail
          refine (stopAt_any a n cap q fs k _ HR2.out hq1 HQE.out HQ5.out h256).mono ?_
          rintro e w3 ⟨rfl, hb3⟩
          obtain ⟨b2, o2, rfl, hl2, hc2⟩ := HR.out.2 (by omega)
          have HB3 := hide (below_trans HB2.out hb3)
          obtain ⟨c0, c1, c2, c3, c4, c5, c6, c7⟩ := (hc2 q hq1).same (w' := w3) (fun k => HB3.out.cell (p := ⟨b2, k, none⟩) hl2)
          rw [HFQ.out] at c6
          have bt := (hb3.cell (p := ⟨g, q, none⟩) HBB2.out.lt).trans HBBT.out
          have bf := (hb3.frozen (p := ⟨g, q, none⟩) HBB2.out.lt).trans HBBF.out
          have hqi : (q : Int) < (n : Int) := by omega
          have hq0 : ¬ (q : Int) < 0 := by omega
          have hpp : (f.p != f.p) = false := by simp
          obtain ⟨w4, hw4⟩ : ∃ w4, w3.setCell ⟨g, q, none⟩ (.bool true) = w4 := ⟨_, rfl⟩
          have HBB3 := hide (HBB2.out.below hb3)
          have HG4 : Hid (w3.grownBy w4 (some g)) := by show World.grownBy _ _ _; rw [← hw4]; exact grown_cell (World.grownBy.refl _ _) _ _
          have HBB4 : Hid (BB w4 g (T.set q true)) := by show BB _ _ _; rw [← hw4]; exact HBB3.out.set q true
          have HPL4 := hide ((HPL2.out.below hb3).grown HG4.out (fun e => HGP.out (Option.some.inj e)))
          have HLV4 := hide ((HLV2.out.below hb3).kept HG4.out (fun j e e2 => HBB3.out.apart (HLV2.out.below hb3) j e (Option.some.inj e2).symm))
          have HB4 := hide (grown_below HB3.out HG4.out HG.out)
          have HF4 := hide ((HF2.out.below hb3).grown HG4.out (fun e => HGF.out (Option.some.inj e).symm))
          obtain ⟨s0, s1, s2, s3, s4⟩ := HF4.out.cells
          clear hc2 c0 c1 c2 c3 c4 c5 c7 hb3 t0 t1 t2 t3 t4
          go_wp2_with fail
          go_roundw
          case rel => exact ⟨i + 1, m + 1, T.set q true, lv2, by omega, by go_num, by go_num, HLEN.out, by show _ = _; rw [List.length_set, HT.out], HBB4.out, HPL4.out, HLV4.out, HB4.out⟩
          case measure => simp [intOf]; omega
      · have ho' : (k.o == 0) = false := by simpa using ho0
        by_cases ho1 : k.o = 1
        rotate_left
        · have ho1' : (k.o == 1) = false := by simpa using ho1
          go_wp2_with fail
          go_roundw
          case rel => exact ⟨i + 1, m, T, _, by omega, by go_num, rfl, HM.out, HT.out, HBB0.out, HPL0.out, HLV0.out, HBW.out⟩
          case measure => simp [intOf]; omega
        have ho1' : (k.o == 1) = true := by simpa using ho1
        clear ho0 ho1
        go_wp2_with fail
        refine (pdue_any k.a k.b k.c k.d p _ _ lc la (unt fs T) _ HPL0.out HLV0.out hul).mono ?_
        rintro e w2 ⟨v2, lv2, rfl, hv2, hlv2, hpl2, hap2, hg2⟩
        have HB2 := hide (grown_below HBW.out hg2 HP.out)
        have HPL2 := hide hpl2
        have HBB2 := hide (HBB0.out.grown hg2 (fun e => HGP.out (Option.some.inj e).symm))
        have HF2 := hide (HF0.out.grown hg2 (fun e => HPF.out (Option.some.inj e).symm))
        obtain ⟨X, hX⟩ : ∃ X : P4, (k.a, k.b, k.c, rdr k.c k.d) = X := ⟨_, rfl⟩
        rw [hX] at hv2 hlv2
        have HX := hide hX
        have HSPL := hide (filter_split (isDue X) (unt fs T))
        rw [due_list fs T X] at hv2 HSPL
        rw [due_left fs T X] at hlv2 HSPL
        have HLV2 := hide (hlv2.base HBW.out.size)
        obtain ⟨va, vc, rfl, _, _⟩ := hv2.shape
        rw [List.length_map] at HSPL
        have hlm : ((dueI fs T X).map (fun i => fs.getD i f0)).length = (dueI fs T X).length := List.length_map _
        rw [hlm] at hv2 ⊢
        have HV2 := hide hv2
        obtain ⟨M, hM⟩ : ∃ M, (dueI fs T X).length = M := ⟨_, rfl⟩
        rw [hM] at HV2 HSPL ⊢
        have HME := hide hM
        have hMb : M ≤ 256 := by have h1 := HSPL.out; have h2 := HML.out; have h3 := HL.out; omega
        have hMi : (M : Int) ≤ 256 := by omega
        clear hv2 hlv2 hpl2 hap2 hg2 t0 t1 t2 t3 t4 hX hM hlm
        go_wp2_with fail
        go_loopw [8, 15, 16] (fun sn sf sk wr => ∃ (kk fr : Nat), kk ≤ M ∧ fr ≤ 256 ∧ .int .i64 ((m + kk : Nat) : Int) = sn ∧ .int .i64 (fr : Int) = sf ∧ .int .i64 (kk : Int) = sk ∧ Hid (∀ j, (dueI fs T X)[kk]? = some j → fr ≤ j) ∧ Hid (BB wr g (setAll T ((dueI fs T X).take kk))) ∧ Hid (w2.grownBy wr (some g))) (fun _ _ sk _ => M - (intOf sk).toNat)
        case atStart => exact ⟨0, 0, by omega, by omega, rfl, rfl, rfl, fun j _ => Nat.zero_le _, HBB2.out, World.grownBy.refl _ _⟩
        case round =>
          obtain ⟨kk, fr, hkM, hfr, rfl, rfl, rfl, HFR, HBB5, HG5⟩ := hrel
          rename World => V1
          have HF5 := hide (HF2.out.grown HG5.out (fun e => HGF.out (Option.some.inj e).symm))
          have HPL5 := hide (HPL2.out.grown HG5.out (fun e => HGP.out (Option.some.inj e)))
          have HLV5 := hide (HLV2.out.kept HG5.out (fun j e e2 => HBB2.out.apart HLV2.out j e (Option.some.inj e2).symm))
          have HV5 := hide (HV2.out.kept HG5.out (fun j e e2 => HBB2.out.apart HV2.out j e (Option.some.inj e2).symm))
          have HB5 := hide (grown_below HB2.out HG5.out HG.out)
          by_cases hkk : kk < M
          · have hkki : (kk : Int) < (M : Int) := by omega
            obtain ⟨j, hj⟩ : ∃ j, (dueI fs T X)[kk]? = some j := ⟨_, List.getElem?_eq_getElem (by rw [HME.out]; exact hkk)⟩
            obtain ⟨hjn, hjt, hjd, hjm, hjs, hjb⟩ := due_step hj
            rw [HL.out] at hjn
            have HJT := hide hjt
            have HJN := hide hjm
            have HJS := hide hjs
            have hfj : fr ≤ j := HFR.out j hj
            obtain ⟨d, hd⟩ : ∃ d, fs.getD j f0 = d := ⟨_, rfl⟩
            have hgd : ((dueI fs T X).map (fun i => fs.getD i f0)).getD kk f0 = fs.getD j f0 := by
              rw [List.getD_eq_getElem?_getD, List.getElem?_map, hj]; rfl
            obtain ⟨b3, o3, rfl, hl3, hc3⟩ := HV5.out.rdl.2 (by omega)
            have hc3' := hc3 kk hkk
            rw [hgd] at hc3'
            have HDC : Hid (∀ W, Below V1.heap.size V1 W → At8 W b3 (o3 + kk * 8) (fs.getD j f0)) := fun W hW => hc3'.same (fun x => hW.cell (p := ⟨b3, x, none⟩) hl3)
            obtain ⟨b2, o2, rfl, hl2, hc2⟩ := HR.out.2 (by omega)
            have HC2 := hide hc2
            rw [hd] at hjd
            rw [← HX.out] at hjd
            obtain ⟨dk, dj, dt, da, dm, dr, dp, dq⟩ := d
            obtain ⟨hd0, hd1, hd2, hd3, hd4⟩ := due_fields hjd
            simp only at hd0 hd1 hd2 hd3 hd4
            subst hd1 hd2 hd3
            have HRD : Hid (k.c = 2 → dr = k.d) := fun h => by rw [hd4]; unfold rdr; rw [if_pos h]
            have HD := hide hd
            have HNEXT : Hid (∀ q, (dueI fs T X)[kk + 1]? = some q → j ≤ q) := fun q hq => by
              obtain ⟨_, _, _, _, _, h6⟩ := due_step hq
              have : j ∈ (dueI fs T X).take (kk + 1) := by rw [HJS.out]; simp
              exact Nat.le_of_lt (h6 j this)
            clear hj hjt hjd hjm hjs hjb hd hgd hc3 hc3' hc2 hd4
            go_wp2_with fail
            go_loopw [15] (fun sf wr => ∃ (fr : Nat), fr ≤ j ∧ .int .i64 (fr : Int) = sf ∧ Hid (Below V1.heap.size V1 wr)) (fun sf _ => n - (intOf sf).toNat)
            case atStart => exact ⟨fr, hfj, rfl, b0 _⟩
            case round =>
              obtain ⟨fq, hfq, rfl, HB7⟩ := hrel
              have HB6 := hide (below_trans HB5.out HB7.out)
              have HBB3 := hide (HBB5.out.below HB7.out)
              by_cases hfe : fq = j
              · have hfe2 := hfe.symm
                subst hfe2
                by_cases hc2 : k.c = 2
                · have HJT' : Hid (((setAll T ((dueI fs T X).take kk)).getD j true) = false) := by show _ = _; rw [setAll_get, HJT.out, decide_eq_false HJN.out]; rfl
                  have bt := HBB3.out.cell j (by rw [setAll_len, HT.out]; exact hjn)
                  rw [HJT'.out] at bt
                  have bf := HBB3.out.fz j
                  obtain ⟨c0, c1, c2, c3, c4, c5, c6, c7⟩ := (HC2.out j hjn).same (w' := wr) (fun k => HB6.out.cell (p := ⟨b2, k, none⟩) hl2)
                  obtain ⟨e0, e1, e2, e3, e4, e5, e6, e7⟩ := HDC.out wr HB7.out
                  rw [HD.out] at c0 c1 c2 c3 c4 c5 c6 c7 e0 e1 e2 e3 e4 e5 e6 e7
                  simp only at c0 c1 c2 c3 c4 c5 c6 c7 e0 e1 e2 e3 e4 e5 e6 e7
                  obtain ⟨s0, s1, s2, s3, s4⟩ := (HF5.out.below HB7.out).cells
                  have hjne : ((j : Int) == (n : Int)) = false := by simp; omega
                  have hjne2 : decide ((j : Int) = (n : Int)) = false := decide_eq_false (by omega)
                  have hdj1 : decide ((j : Int) < (n : Int)) = true := decide_eq_true (by omega)
                  have hdj2 : decide (j < n) = true := decide_eq_true hjn
                  obtain rfl := HRD.out hc2
                  have hcc : (k.c == 2) = true := by simpa using hc2
                  clear hc2
                  have hgd : ∀ q1, BB (wr.drewN q1) g (setAll T ((dueI fs T X).take kk)) := fun q1 => HBB3.out.below (below_drewN' _ _ _)
                  have HGD := hide hgd
                  clear hgd
                  go_wp2_with fail
                  go_quiet (fail)
                  go_wp2_with fail
                  clear c0 c1 c2 c3 c4 c5 c6 c7 hdj1 hdj2 e1 e6 e7 s0
                  go_quiet (fail)
                  go_wp2_with fail
                  go_roundw
                  case rel =>
                    refine ⟨kk + 1, j, by omega, by omega, by go_num, rfl, by go_num, HNEXT.out, ?_, ?_⟩
                    · show BB _ _ _
                      rw [HJS.out, setAll_snoc]
                      refine BB.set ?_ j true
                      first
                        | exact HBB3.out.below (below_trans (below_drewN' _ _ _) (below_drewN' _ _ _))
                        | exact HBB3.out.below (below_drewN' _ _ _)
                    · refine grown_cell ?_ _ _
                      refine grown_trans HG5.out ?_
                      refine grown_any (below_grown ?_) _
                      refine below_trans HB7.out ?_
                      first
                        | exact below_trans (below_drewN' _ _ _) (below_drewN' _ _ _)
                        | exact below_drewN' _ _ _
                  case measure => simp [intOf]; omega
                · have HJT' : Hid (((setAll T ((dueI fs T X).take kk)).getD j true) = false) := by show _ = _; rw [setAll_get, HJT.out, decide_eq_false HJN.out]; rfl
                  have bt := HBB3.out.cell j (by rw [setAll_len, HT.out]; exact hjn)
                  rw [HJT'.out] at bt
                  have bf := HBB3.out.fz j
                  obtain ⟨c0, c1, c2, c3, c4, c5, c6, c7⟩ := (HC2.out j hjn).same (w' := wr) (fun k => HB6.out.cell (p := ⟨b2, k, none⟩) hl2)
                  obtain ⟨e0, e1, e2, e3, e4, e5, e6, e7⟩ := HDC.out wr HB7.out
                  rw [HD.out] at c0 c1 c2 c3 c4 c5 c6 c7 e0 e1 e2 e3 e4 e5 e6 e7
                  simp only at c0 c1 c2 c3 c4 c5 c6 c7 e0 e1 e2 e3 e4 e5 e6 e7
                  obtain ⟨s0, s1, s2, s3, s4⟩ := (HF5.out.below HB7.out).cells
                  have hjne : ((j : Int) == (n : Int)) = false := by simp; omega
                  have hjne2 : decide ((j : Int) = (n : Int)) = false := decide_eq_false (by omega)
                  have hdj1 : decide ((j : Int) < (n : Int)) = true := decide_eq_true (by omega)
                  have hdj2 : decide (j < n) = true := decide_eq_true hjn
                  have hcc : (k.c == 2) = false := by simpa using hc2
                  clear hc2
                  have hgd : ∀ q1, BB (wr.drewN q1) g (setAll T ((dueI fs T X).take kk)) := fun q1 => HBB3.out.below (below_drewN' _ _ _)
                  have HGD := hide hgd
                  clear hgd
                  go_wp2_with fail
                  go_quiet (fail)
                  go_wp2_with fail
                  clear c0 c1 c2 c3 c4 c5 c6 c7 hdj1 hdj2 e1 e6 e7 s0
                  go_quiet (fail)
                  go_wp2_with fail
                  go_roundw
                  case rel =>
                    refine ⟨kk + 1, j, by omega, by omega, by go_num, rfl, by go_num, HNEXT.out, ?_, ?_⟩
                    · show BB _ _ _
                      rw [HJS.out, setAll_snoc]
                      refine BB.set ?_ j true
                      first
                        | exact HBB3.out.below (below_trans (below_drewN' _ _ _) (below_drewN' _ _ _))
                        | exact HBB3.out.below (below_drewN' _ _ _)
                    · refine grown_cell ?_ _ _
                      refine grown_trans HG5.out ?_
                      refine grown_any (below_grown ?_) _
                      refine below_trans HB7.out ?_
                      first
                        | exact below_trans (below_drewN' _ _ _) (below_drewN' _ _ _)
                        | exact below_drewN' _ _ _
                  case measure => simp [intOf]; omega
              · have hfn : fq < n := by omega
                have hfi : (fq : Int) < (n : Int) := by omega
                have hdf1 : decide ((fq : Int) < (n : Int)) = true := decide_eq_true hfi
                have hdf2 : decide (fq < n) = true := decide_eq_true hfn
                obtain ⟨h, hh⟩ : ∃ h, fs.getD fq f0 = h := ⟨_, rfl⟩
                have hne : h ≠ ⟨dk, dj, k.a, k.b, k.c, dr, dp, dq⟩ := fun e => apart_of HND.out (by rw [HL.out]; exact hfn) (by rw [HL.out]; exact hjn) hfe (by rw [hh, HD.out, e])
                have hnq := neq_run h ⟨dk, dj, k.a, k.b, k.c, dr, dp, dq⟩ hne
                simp only at hnq
                obtain ⟨c0, c1, c2, c3, c4, c5, c6, c7⟩ := (HC2.out fq hfn).same (w' := wr) (fun k => HB6.out.cell (p := ⟨b2, k, none⟩) hl2)
                obtain ⟨e0, e1, e2, e3, e4, e5, e6, e7⟩ := HDC.out wr HB7.out
                rw [HD.out] at e0 e1 e2 e3 e4 e5 e6 e7
                rw [hh] at c0 c1 c2 c3 c4 c5 c6 c7
                simp only at e0 e1 e2 e3 e4 e5 e6 e7
                clear hh hne
                go_wp2_with fail
                go_quiet (fail)
                go_wp2_with fail
                go_roundw
                case rel => exact ⟨fq + 1, by omega, by go_num, below_trans HB7.out (below_drewN' _ _ _)⟩
                case measure => simp [intOf]; omega
          · obtain rfl : kk = M := by omega
            have htk : (dueI fs T X).take kk = dueI fs T X := List.take_of_length_le (by rw [HME.out]; exact Nat.le_refl _)
            rw [htk] at HBB5
            go_wp2_with fail
            go_roundw
            case rel => exact ⟨i + 1, m + kk, setAll T (dueI fs T X), lv2, by omega, by go_num, rfl, by show _ = _; have h1 := HSPL.out; have h2 := HM.out; omega, by show _ = _; rw [setAll_len, HT.out], HBB5.out, HPL5.out, HLV5.out, HB5.out⟩
            case measure => simp [intOf]; omega
    · obtain rfl : i = K := by omega
      obtain ⟨la, lc, rfl, _, _⟩ := HLV.out.shape
      have hul : (unt fs T).length ≤ 1048576 := by have h1 := HML.out; have h2 := HL.out; omega
      go_wp2_with fail
      refine (pleft_any p _ _ lc la (unt fs T) _ HPL.out HLV.out hul).mono ?_
      rintro e w2 ⟨v2, rfl, hv2, hb2⟩
      obtain ⟨va, vc, rfl, _, _⟩ := hv2.shape
      have HB2 := hide (below_trans HB.out hb2)
      have HBB2 := hide (HBB.out.below hb2)
      have HV2 := hide hv2
      obtain ⟨M, hM⟩ : ∃ M, (unt fs T).length = M := ⟨_, rfl⟩
      rw [hM] at HV2 HM ⊢
      have HME := hide hM
      have hMb : M ≤ 256 := by have h1 := HM.out; omega
      have hMi : (M : Int) ≤ 256 := by omega
      have HSL : Hid ((sel (fun i => !T.getD i true) n).length = M) := by
        show _ = _
        rw [← HME.out]
        unfold unt
        rw [List.length_map, HL.out]
      clear hv2 hb2 hM hul
      go_wp2_with fail
      go_loopw [18, 19] (fun sk si wr => ∃ (q c : Nat), q ≤ n ∧ .int .i64 (q : Int) = si ∧ .int .i64 (c : Int) = sk ∧ Hid (c = (sel (fun i => !T.getD i true) q).length) ∧ Hid (Below w2.heap.size w2 wr)) (fun _ si _ => n - (intOf si).toNat)
      case atStart => exact ⟨0, 0, by omega, rfl, rfl, rfl, b0 _⟩
      case round =>
        obtain ⟨q, c, hq, rfl, rfl, HC, HB5⟩ := hrel
        have HB6 := hide (below_trans HB2.out HB5.out)
        have HCM : Hid (c ≤ M) := by
          show c ≤ M
          rw [HC.out, ← HSL.out]
          unfold sel
          rw [show n = q + (n - q) by omega, List.range_add, List.filter_append, List.length_append]
          omega
        by_cases hqn : q < n
        · have hqi : (q : Int) < (n : Int) := by omega
          have bt := (HBB2.out.below HB5.out).cell q (by rw [HT.out]; exact hqn)
          have HSS := hide (sel_succ (fun i => !T.getD i true) q)
          have hci : (c : Int) ≤ 256 := by have := HCM.out; omega
          by_cases hT : T.getD q true = true
          · rw [hT] at bt HSS
            go_wp2_with fail
            go_roundw
            case rel => exact ⟨q + 1, c, by omega, by go_num, rfl, by show _ = _; rw [HSS.out, if_neg (by simp), List.append_nil]; exact HC.out, HB5.out⟩
            case measure => simp [intOf]; omega
          · have hTf : T.getD q true = false := bool_ff hT
            rw [hTf] at bt HSS
            have hsg := sel_get (fun i => !T.getD i true) n q hqn (by rw [hTf]; rfl)
            rw [← HC.out] at hsg
            have hcM : c < M := by rw [← HSL.out]; exact (List.getElem?_eq_some_iff.1 hsg).1
            have hcMi : (c : Int) < (M : Int) := by omega
            have hgd : (unt fs T).getD c f0 = fs.getD q f0 := by
              unfold unt
              rw [List.getD_eq_getElem?_getD, List.getElem?_map, HL.out, hsg]; rfl
            obtain ⟨b3, o3, rfl, hl3, hc3⟩ := HV2.out.rdl.2 (by omega)
            obtain ⟨e0, e1, e2, e3, e4, e5, e6, e7⟩ := (hc3 c hcM).same (w' := wr) (fun k => HB5.out.cell (p := ⟨b3, k, none⟩) hl3)
            obtain ⟨b2, o2, rfl, hl2, hc2⟩ := HR.out.2 (by omega)
            obtain ⟨c0, c1, c2, c3, c4, c5, c6, c7⟩ := (hc2 q hqn).same (w' := wr) (fun k => HB6.out.cell (p := ⟨b2, k, none⟩) hl2)
            rw [hgd] at e0 e1 e2 e3 e4 e5 e6 e7
            generalize fs.getD q f0 = d at c0 c1 c2 c3 c4 c5 c6 c7 e0 e1 e2 e3 e4 e5 e6 e7
            have hd1 : decide ((M : Int) ≤ (c : Int)) = false := decide_eq_false (by omega)
            have hd2 : decide (M ≤ c) = false := decide_eq_false (by omega)
            clear hc2 hc3 hgd hsg hT hTf
            go_wp2_with fail
            go_quiet (fail)
            go_wp2_with fail
            go_roundw
            case rel => exact ⟨q + 1, c + 1, by omega, by go_num, by go_num, by show _ = _; rw [HSS.out, if_pos (by rfl), List.length_append, ← HC.out]; rfl, below_trans HB5.out (below_drewN' _ _ _)⟩
            case measure => simp [intOf]; omega
        · obtain rfl : q = n := by omega
          have hcM : c = M := by rw [HC.out]; exact HSL.out
          subst hcM
          have hsum : (m : Int) + (c : Int) = (q : Int) := by have := HM.out; omega
          have hsum2 : (((m : Int) + (c : Int)) == (q : Int)) = true := by rw [hsum]; simp
          go_wp2_with fail
          refine (works_any _).mono ?_
          rintro e w3 ⟨rfl, hb3⟩
          have HB3 := hide (below_trans HB6.out hb3)
          clear hb3
          go_wp2_with fail
          go_ret
          exact ⟨rfl, HB3.out⟩
end Go.Proofs.Ytbmbhcjocgbbpaa.faultOnce
