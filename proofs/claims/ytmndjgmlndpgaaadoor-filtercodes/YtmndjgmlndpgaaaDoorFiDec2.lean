/-
  Decode, of any bytes: the whole.
-/
import Derived.Test.YtmndjgmlndpgaaaDoorFiDec
import Derived.Test.YtmndjgmlndpgaaaDoorFiBuildC
namespace Go.Proofs.YtmndjgmlndpgaaaDoor.Filt
open Go.ChangeShapes Go.WideShapes Go.ChangeAt Go.RowKit
open Go.Proofs.YtmndjgmlndpgaaaDoor.Base Go.Proofs.YtmndjgmlndpgaaaDoor.Nums Go.Proofs.YtmndjgmlndpgaaaDoor.Curs
set_option linter.unusedVariables false
theorem end_cur (g : Nat) (ok : Bool) (w : World) (h : CurE w g ok) : Calls Tryd.prog 24 #[.pointer (some ⟨g, 0, none⟩)] w fun e w' => (∃ x y : Int, e = .returned (.agg #[.int .i64 x, .int .i64 y]) ∧ (x != 0) = !ok) ∧ Below w.heap.size w w' := by
  rcases h with ⟨L, p, h1, e⟩ | ⟨p, er, h1, e⟩
  · refine (end_any g p L w h1).mono fun e' w' ⟨h2, h3⟩ => ⟨?_, h3⟩
    by_cases hl : L.length = 0
    · rw [if_pos hl] at h2
      exact ⟨0, 0, h2, by rw [e, decide_eq_true hl]; rfl⟩
    · rw [if_neg hl] at h2
      exact ⟨22, p, h2, by rw [e, decide_eq_false hl]; rfl⟩
  · refine (end_dead g p er w h1).mono fun e' w' ⟨h2, h3⟩ => ⟨⟨er, p, h2, ?_⟩, h3⟩
    rw [e]
    show ((er : Int) != 0) = true
    rw [bne_iff_ne]
    have := h1.2
    omega
theorem readF_len (bs : List (BitVec 8)) : (readF bs).1.data.length ≤ bs.length := by
  unfold readF
  split
  · simp [zeroF]
  · split
    · simp [zeroF]
    · split
      · simp
      · show (textAt _ _).2.2.length ≤ _
        have := textAt_txt ‹_› 4096
        simp only [List.length_cons]
        omega
/-- Bytes stay as they are where a block of a filter is written. -/
theorem rd_set3 {w : World} {r n : Nat} {x : Option Addr} {xs : List (BitVec 8)} {A : Bool} {H : Int} {va : Option Addr} {vn vc : Nat} (h2 : Rd w x n xs) (hf : FB w r A H (.slice va vn vc)) (a b c : Value) : Rd (((w.setCell ⟨r, 0, none⟩ a).setCell ⟨r, 1, none⟩ b).setCell ⟨r, 2, none⟩ c) x n xs := by
  by_cases hp : 0 < n
  · obtain ⟨bb, off, e2, hlt, hc⟩ := h2.2.2 hp
    have hne : bb ≠ r := by
      rintro rfl
      have h9 := hc 0 hp
      rw [cell_of_row _ _ _ _ _ _ hf] at h9
      match off, h9 with
      | 0, h9 => simp at h9
      | 1, h9 => simp at h9
      | 2, h9 => simp at h9
      | n + 3, h9 => simp at h9
    exact h2.grown (grown3 w r a b c) (fun ad e3 e4 => by rw [e2] at e3; cases e3; exact hne (Option.some.inj e4).symm)
  · have h0 : n = 0 := by omega
    subst h0
    have hL : xs = [] := List.length_eq_zero_iff.1 h2.1
    subst hL
    exact rd_zero _ _
set_option maxHeartbeats 1000000 in
set_option maxRecDepth 100000 in
theorem decode_any (a : Option Addr) (n c : Nat) (bs : List (BitVec 8)) (w : World) (hK : KAt w) (hr : Rd w a n bs) (hn : n ≤ c) (hz : a = none → n = 0 ∧ c = 0) :
    Calls Tryd.prog 9 #[.slice a n c] w fun e w' => ∃ a2 n2 c2, e = .returned (.tuple #[.agg #[.bool (decF bs).1.all, .int .i64 (decF bs).1.hashes, .slice a2 n2 c2], .int .i64 (decF bs).2]) ∧ Rd w' a2 n2 (decF bs).1.data ∧ (a2 = none → n2 = 0 ∧ c2 = 0) ∧ Below w.heap.size w w' := by
  obtain ⟨w0, hw0⟩ : ∃ w0, w.alloc (.cells #[.bool false, .int .i64 0, .slice none 0 0] 24) = w0 := ⟨_, rfl⟩
  have hb0 : Below w.heap.size w w0 := by rw [← hw0]; exact (Below.refl _ _).alloc (Nat.le_refl _) _
  have hF0 : FB w0 w.heap.size false 0 (.slice none 0 0) := by rw [← hw0]; exact FB.new _ _ _ _
  obtain ⟨r, hr0⟩ : ∃ r, w.heap.size = r := ⟨_, rfl⟩
  rw [hr0] at hF0
  have HRS := hide hr0
  have HF0 := hide hF0
  have HB0 := hide hb0
  have HR0 := hide (hr.below hb0)
  have hlm := hr.2.1
  have HL := hide hr.1
  have HKW := hide hK
  have HRL := hide (readF_len bs)
  clear hr hK hF0 hb0
  go_enter Tryd.func9, Tryd.ntmps9
  go_wp2_with fail
  refine (newCursor_any a n c bs w0 HR0.out hn hlm hz).mono ?_
  rintro e w1 ⟨g, rfl, hg, hcur, hb1⟩
  have HF1 := hide (HF0.out.below hb1)
  have HB1 := hide (below_trans HB0.out hb1)
  have HC1 := hide hcur
  have HGW : Hid (w.heap.size ≤ g) := Nat.le_trans HB0.out.size hg
  have HGR : Hid (some g ≠ some r) := fun e => by have h1 := HF0.out.lt; have h2 : g = r := Option.some.inj e; omega
  clear hcur hb1 hg
  go_wp2_with fail
  refine (read_any g bs w1 HC1.out).mono ?_
  rintro e w2 ⟨fa, fn, fc, rfl, hrd, hnil, hce, hg2⟩
  have HD : Hid (decF bs = if (readF bs).2 = true ∧ (readF bs).1.kind ≠ 3 then ((readF bs).1, 0) else (zeroF, 70)) := rfl
  obtain ⟨F, hF⟩ : ∃ F, readF bs = F := ⟨_, rfl⟩
  rw [hF] at hrd hce HD HRL ⊢
  obtain ⟨⟨A, H, D⟩, ok⟩ := F
  simp only at hrd hce HRL ⊢
  have HDL : Hid (D.length = fn) := hrd.1
  have HF2 := hide (HF1.out.grown hg2 HGR.out)
  have HB2 := hide (grown_below HB1.out hg2 HGW.out)
  obtain ⟨w3, hw3⟩ : ∃ w3, w2.alloc (.cells #[.bool A, .int .i64 H, .slice fa fn fc] 24) = w3 := ⟨_, rfl⟩
  have hb3 : Below w2.heap.size w2 w3 := by rw [← hw3]; exact (Below.refl _ _).alloc (Nat.le_refl _) _
  have HQ3 : Hid (FB w3 w2.heap.size A H (.slice fa fn fc)) := by rw [← hw3]; exact FB.new _ _ _ _
  obtain ⟨q, hq⟩ : ∃ q, w2.heap.size = q := ⟨_, rfl⟩
  rw [hq] at HQ3
  have HF3 := hide (HF2.out.below hb3)
  have HRQ : Hid (r ≠ q) := by have := HF2.out.lt; show r ≠ q; omega
  have HB3 := hide (below_trans HB2.out hb3)
  have HR3 := hide (hrd.below hb3)
  have HE3 : Hid (CurE w3 g ok) := hce.grown (below_grown hb3) (by simp) (by simp)
  have HNIL := hide hnil
  clear hrd hnil hce hg2 hb3 hF
  go_wp2_with fail
  refine (end_cur g ok w3 HE3.out).mono ?_
  rintro e w4 ⟨⟨x, y, rfl, hxy⟩, hb4⟩
  have HF4 := hide (HF3.out.below hb4)
  have HQ4 := hide (HQ3.out.below hb4)
  have HB4 := hide (below_trans HB3.out hb4)
  have HR4 := hide (HR3.out.below hb4)
  have HK4 := hide (kat_below HKW.out HB4.out)
  clear hb4
  have r0 := HF4.out.c0
  have r1 := HF4.out.c1
  have r2 := HF4.out.c2
  have z0 := HF4.out.fz 0
  have z1 := HF4.out.fz 1
  have z2 := HF4.out.fz 2
  have q0 := HQ4.out.c0
  have q1 := HQ4.out.c1
  have q2 := HQ4.out.c2
  have hfd : ∀ W : World, (Instr.field 45 (.agg #[.int .i64 x, .int .i64 y]) 0).run Tryd.prog W = .ok (.int .i64 x) W := fun _ => by kernel_rfl
  cases ok with
  | false =>
    have hx : (x != 0) = true := hxy
    have HDE : Hid (decF bs = (⟨false, 0, []⟩, 70)) := by show _ = _; rw [HD.out, if_neg (by simp)]; rfl
    clear hxy HD
    go_wp2_with fail
    refine bodyPost_ret (fb_ret2 rfl _ _ r false 0 (.slice none 0 0) rfl (HF4.out.set3 false 0 (.slice none 0 0))) rfl ?_
    exact ⟨_, _, _, ret_f2 HDE.out, by rw [HDE.out]; exact rd_nil _, (fun _ => ⟨rfl, rfl⟩), by first | exact below3 HB4.out (by rw [HRS.out]; exact Nat.le_refl _) _ _ _ | (rw [← HRS.out]; exact below3 HB4.out (by rw [HRS.out]; exact Nat.le_refl _) _ _ _)⟩
  | true =>
    have hx : (x != 0) = false := hxy
    have HD2 : Hid (decF bs = if kindN A H fn ≠ 3 then (⟨A, H, D⟩, 0) else (zeroF, 70)) := by
      show _ = _
      rw [HD.out]
      unfold Fw.kind
      simp only [HDL.out, true_and]
    have HKI := hide (kind_any A H fa fn fc w4 HK4.out (by have := HDL.out; have := HRL.out; have := HL.out; omega))
    obtain ⟨kk, hkk⟩ : ∃ kk, kindN A H fn = kk := ⟨_, rfl⟩
    rw [hkk] at HD2 HKI
    clear hxy HD hkk
    go_wp2_with fail
    refine HKI.out.mono ?_
    rintro e w5 ⟨rfl, hb5⟩
    have HF5 := hide (HF4.out.below hb5)
    have HQ5 := hide (HQ4.out.below hb5)
    have HB5 := hide (below_trans HB4.out hb5)
    have HR5 := hide (HR4.out.below hb5)
    clear hb5 r0 r1 r2 z0 z1 z2 q0 q1 q2
    have r0 := HF5.out.c0
    have r1 := HF5.out.c1
    have r2 := HF5.out.c2
    have z0 := HF5.out.fz 0
    have z1 := HF5.out.fz 1
    have z2 := HF5.out.fz 2
    have q0 := HQ5.out.c0
    have q1 := HQ5.out.c1
    have q2 := HQ5.out.c2
    by_cases h3 : kk = 3
    · have hk3 : (kk == 3) = true := by rw [h3]; rfl
      have HDE : Hid (decF bs = (⟨false, 0, []⟩, 70)) := by show _ = _; rw [HD2.out, if_neg (by simp [h3])]; rfl
      clear HD2 h3
      go_wp2_with fail
      refine bodyPost_ret (fb_ret2 rfl _ _ r false 0 (.slice none 0 0) rfl (HF5.out.set3 false 0 (.slice none 0 0))) rfl ?_
      exact ⟨_, _, _, ret_f2 HDE.out, by rw [HDE.out]; exact rd_nil _, (fun _ => ⟨rfl, rfl⟩), by first | exact below3 HB5.out (by rw [HRS.out]; exact Nat.le_refl _) _ _ _ | (rw [← HRS.out]; exact below3 HB5.out (by rw [HRS.out]; exact Nat.le_refl _) _ _ _)⟩
    · have hk3 : (kk == 3) = false := by rw [beq_eq_false_iff_ne]; exact h3
      have HDE : Hid (decF bs = (⟨A, H, D⟩, 0)) := by show _ = _; rw [HD2.out, if_pos h3]
      clear HD2 h3
      go_wp2_with fail
      refine bodyPost_ret (fb_ret2 rfl _ _ r A H (.slice fa fn fc) rfl (HF5.out.set3 A H (.slice fa fn fc))) rfl ?_
      refine ⟨_, _, _, ret_f2 HDE.out, ?_, HNIL.out, by first | exact below3 HB5.out (by rw [HRS.out]; exact Nat.le_refl _) _ _ _ | (rw [← HRS.out]; exact below3 HB5.out (by rw [HRS.out]; exact Nat.le_refl _) _ _ _)⟩
      rw [HDE.out]
      exact rd_set3 HR5.out HF5.out _ _ _
end Go.Proofs.YtmndjgmlndpgaaaDoor.Filt
