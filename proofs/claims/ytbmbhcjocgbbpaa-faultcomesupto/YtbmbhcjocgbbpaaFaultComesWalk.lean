/-
  Whoever asks for an entry by its own fields is told it.
-/
import Derived.Test.YtbmbhcjocgbbpaaFaComesM
import Derived.Test.YtbmbhcjocgbbpaaFaWorks
import Derived.Test.YtbmbhcjocgbbpaaFaOpen
namespace Go.Proofs.Ytbmbhcjocgbbpaa.faultComes
open Go.ChangeShapes Go.WideShapes Go.ChangeAt Go.RowKit
open Go.Proofs.Ytbmbhcjocgbbpaa.Base Go.Proofs.Ytbmbhcjocgbbpaa.Fa
set_option linter.unusedVariables false
set_option maxHeartbeats 4000000 in
set_option maxRecDepth 100000 in
theorem walk0 (a : Option Addr) (n cap : Nat) (fs : List Flt) (w : World) (hr : RdL w a n fs) (hnil : a = none → n = 0 ∧ cap = 0) :
    Calls Try.prog 4 #[.slice a n cap] w fun e w' => e = .returned (.bool true) ∧ Below w.heap.size w w' := by
  have HL := hide hr.1
  have HR := hide hr
  have HNIL := hide hnil
  clear hr hnil
  by_cases hk : chk fs = 0
  rotate_left
  · obtain ⟨K, hK⟩ : ∃ K, chk fs = K := ⟨_, rfl⟩
    have HK := hide hk
    have HKE := hide hK
    have hki : ((K : Int) != 0) = true := by rw [hK] at hk; simp; omega
    clear hk hK
    go_enter Try.func4, Try.ntmps4
    go_wp2_with fail
    refine (new_no a n cap fs w HR.out HK.out).mono ?_
    rintro e w1 ⟨rfl, hb1⟩
    have HB1 := hide hb1
    rw [HKE.out]
    clear hb1
    go_wp2_with fail
    refine (works_any _).mono ?_
    rintro e w2 ⟨rfl, hb2⟩
    have HB2 := hide (below_trans HB1.out hb2)
    clear hb2
    go_wp2_with fail
    go_ret
    exact ⟨rfl, HB2.out⟩
  obtain ⟨hall, hnd, h256⟩ := chk_ok hk
  have HK := hide hk
  have HALL := hide hall
  have HND := hide hnd
  rw [HL.out] at h256
  have hni : (n : Int) ≤ 256 := by omega
  clear hk hall hnd
  go_enter Try.func4, Try.ntmps4
  go_wp2_with fail
  refine (new_ok a n cap fs w HR.out HNIL.out HK.out).mono ?_
  rintro e w1 ⟨p, lv, rfl, hp, hpl, hlv, hb1⟩
  have HP := hide hp
  have HPL := hide hpl
  have HLV := hide hlv
  have HB1 := hide hb1
  clear hp hpl hlv hb1
  go_wp2_with fail
  go_loopw [5, 6] (fun sn si wr => ∃ (i m : Nat) (lv : Value), i ≤ n ∧ .int .i64 (i : Int) = si ∧ .int .i64 (m : Int) = sn ∧ Hid (m + (leftL fs i).length = n) ∧ Hid (PlB wr p lv) ∧ Hid (OwnL wr w.heap.size lv (leftL fs i)) ∧ Hid (Below w.heap.size w wr)) (fun _ si _ => n - (intOf si).toNat)
  case atStart => exact ⟨0, 0, lv, by omega, rfl, rfl, by show _ = _; rw [leftL_zero, HL.out]; omega, HPL.out, by show OwnL _ _ _ _; rw [leftL_zero]; exact HLV.out, HB1.out⟩
  case round =>
    clear HPL HLV HB1
    obtain ⟨i, m, lv, hi, rfl, rfl, HM, HPL, HLV, HB⟩ := hrel
    have HML := hide (leftL_len fs i)
    by_cases hin : i < n
    · have hii : (i : Int) < (n : Int) := by omega
      obtain ⟨b1, o1, rfl, hl1, hc1⟩ := HR.out.2 (by omega)
      obtain ⟨f, hf⟩ : ∃ f, fs.getD i f0 = f := ⟨_, rfl⟩
      obtain ⟨p0, p1, p2, p3, p4, p5, p6, p7⟩ := (hc1 i hin).same (w' := wr) (fun k => HB.out.cell (p := ⟨b1, k, none⟩) hl1)
      rw [hf] at p0 p1 p2 p3 p4 p5 p6 p7
      have HF := hide hf
      have hil : i < fs.length := by rw [HL.out]; exact hin
      have HMAY : Hid (may f = true) := by show _ = _; rw [← HF.out]; exact List.all_eq_true.1 HALL.out _ (getD_mem hil)
      have HLS := hide (leftL_succ fs i f hil HF.out)
      have hm256 : m ≤ 256 := by have := HM.out; omega
      have hmi : (m : Int) ≤ 256 := by omega
      clear hf hc1
      obtain ⟨w0, hw0⟩ : ∃ w0, wr.alloc (.cells #[.int .i64 f.k, .int .i64 f.j, .int .i64 f.t, .int .i64 f.a, .int .i64 f.m, .int .i64 f.r, .int .i64 f.p, .int .u32 (f.q.toNat : Int)] 25) = w0 := ⟨_, rfl⟩
      have HF0 : Hid (FB w0 wr.heap.size f) := by show FB _ _ _; rw [← hw0]; exact FB.new wr f
      have HB0 : Hid (Below wr.heap.size wr w0) := by show Below _ _ _; rw [← hw0]; exact ba (b0 _) _
      obtain ⟨t0, t1, t2, t3, t4, t5, t6, t7⟩ := HF0.out.cells
      obtain ⟨la, lc, rfl, _, _⟩ := HLV.out.shape
      have HPL0 := hide (HPL.out.below HB0.out)
      have HLV0 := hide (HLV.out.below HB0.out)
      have HBW := hide (below_trans HB.out HB0.out)
      have HPF : Hid (wr.heap.size ≠ p) := by have := HPL.out.lt; exact fun e => by omega
      by_cases hk : f.k = 0
      · have hk' : (f.k == 0) = true := by simpa using hk
        have HST := hide (stop_there fs HND.out i f hil HF.out hk)
        have HTE : Hid (∀ g, tells f g = isStop ((0, f.j, f.t, f.a) : P4) g) := fun g => by unfold tells; rw [if_pos hk]
        clear hk
        go_wp2_with fail
        refine (pstop_any f.j f.t f.a p _ _ lc la (leftL fs i) _ HPL0.out HLV0.out (by have h1 := HML.out; have h2 := HL.out; omega)).mono ?_
        rintro e w2 ⟨lv2, rfl, hlv2, hpl2, hg2⟩
        rw [HST.out, show stopV [f] = (f.p, true) from rfl]
        have hpp : (f.p != f.p) = false := by simp
        have HB2 := hide (grown_below HBW.out hg2 HP.out)
        have HPL2 := hide hpl2
        have HLV2 : Hid (OwnL w2 w.heap.size lv2 (leftL fs (i + 1))) := by
          show OwnL _ _ _ _
          rw [HLS.out, show (fun g => !tells f g) = (fun g => !isStop ((0, f.j, f.t, f.a) : P4) g) from funext fun g => by rw [HTE.out g]]
          exact hlv2.base HBW.out.size
        have HLEN : Hid (1 + (leftL fs (i + 1)).length = (leftL fs i).length) := by
          show _ = _
          have h1 := filter_split (isStop ((0, f.j, f.t, f.a) : P4)) (leftL fs i)
          rw [HST.out] at h1
          rw [HLS.out, show (fun g => !tells f g) = (fun g => !isStop ((0, f.j, f.t, f.a) : P4) g) from funext fun g => by rw [HTE.out g]]
          exact h1
        obtain ⟨d0, d1, d2, d3, d4, d5, d6, d7⟩ := (HF0.out.grown hg2 (fun e => HPF.out (Option.some.inj e).symm)).cells
        clear hlv2 hpl2 hg2 t0 t1 t2 t3 t4 t5 t6 t7
        go_wp2_with fail
        go_roundw
        case rel => exact ⟨i + 1, m + 1, lv2, by omega, by go_num, by go_num, by show _ = _; have h1 := HLEN.out; have h2 := HM.out; omega, HPL2.out, HLV2.out, HB2.out⟩
        case measure => simp [intOf]; omega
      · have hk' : (f.k == 0) = false := by simpa using hk
        have HTE : Hid (∀ g, tells f g = isDue (f.t, f.a, f.m, rdr f.m f.r) g) := fun g => by unfold tells; rw [if_neg hk]
        clear hk
        go_wp2_with fail
        refine (pdue_any f.t f.a f.m f.r p _ _ lc la (leftL fs i) _ HPL0.out HLV0.out (by have h1 := HML.out; have h2 := HL.out; omega)).mono ?_
        rintro e w2 ⟨v2, lv2, rfl, hv2, hlv2, hpl2, hap2, hg2⟩
        have HB2 := hide (grown_below HBW.out hg2 HP.out)
        have HPL2 := hide hpl2
        have HLV2 : Hid (OwnL w2 w.heap.size lv2 (leftL fs (i + 1))) := by
          show OwnL _ _ _ _
          rw [HLS.out, show (fun g => !tells f g) = (fun g => !isDue (f.t, f.a, f.m, rdr f.m f.r) g) from funext fun g => by rw [HTE.out g]]
          exact hlv2.base HBW.out.size
        obtain ⟨va, vc, rfl, _, _⟩ := hv2.shape
        have HLEN : Hid (((leftL fs i).filter (isDue (f.t, f.a, f.m, rdr f.m f.r))).length + (leftL fs (i + 1)).length = (leftL fs i).length) := by
          show _ = _
          rw [HLS.out, show (fun g => !tells f g) = (fun g => !isDue (f.t, f.a, f.m, rdr f.m f.r) g) from funext fun g => by rw [HTE.out g]]
          exact filter_split _ _
        generalize ((leftL fs i).filter (isDue (f.t, f.a, f.m, rdr f.m f.r))).length = D at HLEN
        have hDi : (D : Int) ≤ 256 := by have h1 := HLEN.out; have h2 := HML.out; have h3 := HL.out; omega
        clear hv2 hlv2 hpl2 hap2 hg2 t0 t1 t2 t3 t4 t5 t6 t7
        go_wp2_with fail
        go_roundw
        case rel => exact ⟨i + 1, m + D, lv2, by omega, by go_num, by go_num, by show _ = _; have h1 := HLEN.out; have h2 := HM.out; omega, HPL2.out, HLV2.out, HB2.out⟩
        case measure => simp [intOf]; omega
    · obtain rfl : i = n := by omega
      have hle : leftL fs i = [] := by rw [← HL.out]; exact leftL_end fs HALL.out
      rw [hle] at HM HLV
      obtain rfl : m = i := by have := HM.out; simpa using this
      obtain ⟨la, lc, rfl, _, _⟩ := HLV.out.shape
      clear hle
      go_wp2_with fail
      refine (pleft_any p _ _ lc la [] _ HPL.out HLV.out (by simp)).mono ?_
      rintro e w2 ⟨v2, rfl, hv2, hb2⟩
      obtain ⟨va, vc, rfl, _, _⟩ := hv2.shape
      have HB2 := hide (below_trans HB.out hb2)
      clear hv2 hb2
      go_wp2_with fail
      refine (works_any _).mono ?_
      rintro e w3 ⟨rfl, hb3⟩
      have HB3 := hide (below_trans HB2.out hb3)
      clear hb3
      go_wp2_with fail
      go_ret
      exact ⟨rfl, HB3.out⟩
theorem walk (a : Option Addr) (n cap : Nat) (fs : List Flt) (w : World) (hr : RdL w a n fs) (hlc : n ≤ cap) (hm : cap ≤ 2199023255488) (hnil : a = none → n = 0 ∧ cap = 0) (hwf : ∀ f ∈ fs, Wf f) :
    Calls Try.prog 4 #[.slice a n cap] w fun e w' => e = .returned (.bool true) ∧ Below w.heap.size w w' := walk0 a n cap fs w hr hnil
theorem walku (a : Option Addr) (n cap : Nat) (fs : List Flt) (w : World) (hr : RdL w a n fs) (hlc : n ≤ cap) (hm : cap ≤ 1048576) (hnil : a = none → n = 0 ∧ cap = 0) (hwf : ∀ f ∈ fs, Wf f) :
    Calls Try.prog 4 #[.slice a n cap] w fun e w' => e = .returned (.bool true) ∧ Below w.heap.size w w' := walk0 a n cap fs w hr hnil
end Go.Proofs.Ytbmbhcjocgbbpaa.faultComes
