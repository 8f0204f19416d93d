/-
  Decode, of any bytes: where its bytes lie.
-/
import Derived.Test.YtmndjgmlndpgaaaDoorFiMo
namespace Go.Proofs.YtmndjgmlndpgaaaDoor.Filt
open Go.ChangeShapes Go.WideShapes Go.ChangeAt Go.RowKit
open Go.Proofs.YtmndjgmlndpgaaaDoor.Base Go.Proofs.YtmndjgmlndpgaaaDoor.Nums Go.Proofs.YtmndjgmlndpgaaaDoor.Curs
set_option linter.unusedVariables false
theorem mo_str (w : World) (T : List (BitVec 8)) (cap : Nat) (fr : Nat × Nat) (h : T.length ≤ 140737488355328) (hc : T.length ≤ cap) (hm : cap ≤ maxLen) (hf : fr.1 = (bytesRow (str T) cap).size) : MO (w.drew.alloc (.cells (bytesRow (str T) cap) 5 fr)) w.heap.size (.slice (some ⟨w.heap.size, 0, none⟩) T.length cap) T := by
  have hs : (bytesRow (str T) cap).size = cap := by
    unfold bytesRow
    simp only [Array.size_append, Array.size_map, Array.size_replicate]
    have e : (str T).data.size = T.length := by simp [str]
    have e2 : (str T).size = T.length := str_size T
    omega
  refine .inr ⟨w.heap.size, cap, bytesRow (str T) cap, fr, rfl, Nat.le_refl _, heap_alloc_new w.drew _, .inr (by omega), hc, hm, hs, ?_⟩
  unfold bytesRow
  have e : ((str T).data.map (fun b => Value.int .u8 b.toNat)).toList = vals T := by
    simp [str, vals, V8]
  rw [Array.toList_append, e]
  rw [List.take_append_of_le_length (by rw [length_vals]; omega), List.take_of_length_le (by rw [length_vals]; omega)]
theorem mo_ne_fb {w : World} {base i n c g : Nat} {xs : List (BitVec 8)} {A : Bool} {H : Int} {v : Value} (h : MO w base (.slice (some ⟨i, 0, none⟩) n c) xs) (hf : FB w g A H v) : i ≠ g := by
  rintro rfl
  rcases h with ⟨e, _⟩ | ⟨g', cap, cur, fz, e, h2, h3, _⟩
  · simp at e
  · simp only [Value.slice.injEq, Option.some.injEq, Addr.mk.injEq, and_true] at e
    obtain ⟨rfl, _⟩ := e
    unfold FB at hf
    rw [h3] at hf
    have := Option.some.inj hf
    simp only [Obj.cells.injEq] at this
    exact absurd this.2.1 (by decide)
theorem mo_fb {w : World} {base p : Nat} {u v : Value} {xs : List (BitVec 8)} {A : Bool} {H : Int} (h : MO w base u xs) (hf : FB w p A H v) : ∀ i j, u.ownBlock = some i → (some p : Option Nat) = some j → i ≠ j := by
  intro i j e1 e2
  cases e2
  rcases h with ⟨rfl, _⟩ | ⟨g, cap, cur, fz, rfl, h2⟩
  · cases e1
  · have e3 : g = i := Option.some.inj e1
    subst e3
    exact mo_ne_fb (.inr ⟨g, cap, cur, fz, rfl, h2⟩) hf
theorem mo_set3 {w : World} {r base : Nat} {u : Value} {xs : List (BitVec 8)} {A : Bool} {H : Int} {v : Value} (h : MO w base u xs) (hf : FB w r A H v) (a b c : Value) : MO (((w.setCell ⟨r, 0, none⟩ a).setCell ⟨r, 1, none⟩ b).setCell ⟨r, 2, none⟩ c) base u xs := h.keep (grown3 w r a b c) (mo_fb h hf)
set_option maxHeartbeats 1000000 in
set_option maxRecDepth 100000 in
theorem readM_any (g : Nat) (bs : List (BitVec 8)) (w : World) (h : Cur w g bs 0) :
    Calls Tryd.prog 23 #[.pointer (some ⟨g, 0, none⟩)] w fun e w' => ∃ a n c, e = .returned (.agg #[.bool (readF bs).1.all, .int .i64 (readF bs).1.hashes, .slice a n c]) ∧ MO w' w.heap.size (.slice a n c) (readF bs).1.data ∧ CurE w' g (readF bs).2 ∧ w.grownBy w' (some g) := by
  obtain ⟨w0, hw0⟩ : ∃ w0, w.alloc (.cells #[.bool false, .int .i64 0, .slice none 0 0] 24) = w0 := ⟨_, rfl⟩
  have hb0 : Below w.heap.size w w0 := by rw [← hw0]; exact (Below.refl _ _).alloc (Nat.le_refl _) _
  have hF0 : FB w0 w.heap.size false 0 (.slice none 0 0) := by rw [← hw0]; exact FB.new _ _ _ _
  have hgl : g < w.heap.size := by obtain ⟨a, c, h1, _⟩ := h; exact h1.lt
  have hcw : Cur w0 g bs 0 := by
    obtain ⟨x, cp, h1, h2, h3, h4, h5, h6, h7, h8⟩ := h
    exact ⟨x, cp, h1.grown (below_grown hb0) (by simp), h2.below hb0, h3, h4, h5, h6, Nat.lt_of_lt_of_le h7 hb0.size, h8⟩
  obtain ⟨r, hr0⟩ : ∃ r, w.heap.size = r := ⟨_, rfl⟩
  rw [hr0] at hF0
  have HRS := hide hr0
  have HF0 := hide hF0
  have HG0 : Hid (w.grownBy w0 (some g)) := grown_of_below hb0
  have HC0 := hide hcw
  have HGR : Hid (r ≠ g) := by show r ≠ g; omega
  have HGR2 : Hid (some g ≠ some r) := fun e => HGR.out (Option.some.inj e).symm
  have HNEW : Hid (∀ q, w.heap.size ≤ q → ∀ W W', w.grownBy W (some g) → W.grownBy W' (some q) → w.grownBy W' (some g)) := fun q hq W W' h1 h2 => grown_new h1 h2 (fun i e => by cases e; exact hq)
  clear h hcw hb0 hF0 hgl
  rcases bs with _ | ⟨c, rest⟩
  · have HFX : Hid (fixAt [] 1 = (0, 0, 20)) := by show _ = _; decide
    have HRD : Hid (readF [] = (⟨false, 0, []⟩, false)) := rfl
    go_enter Tryd.func23, Tryd.ntmps23
    go_wp2_with fail
    refine (fixedC_any g 0 [] 1 w0 HC0.out).mono ?_
    rintro e w1 ⟨rfl, hg1, hc1⟩
    rw [HFX.out] at hc1 ⊢
    have hd1 : Dead w1 g 0 20 := by have h := hc1; rw [if_neg (by simp)] at h; exact h
    have HC1 : Hid (CurE w1 g false) := .inr ⟨0, 20, hd1, rfl⟩
    have HF1 := hide (HF0.out.grown hg1 HGR2.out)
    have HG1 := hide (grown_trans HG0.out hg1)
    clear hg1 hc1 hd1
    have r0 := HF1.out.c0
    have r1 := HF1.out.c1
    have r2 := HF1.out.c2
    have z0 := HF1.out.fz 0
    have z1 := HF1.out.fz 1
    have z2 := HF1.out.fz 2
    go_wp2_with fail
    refine bodyPost_ret (fb_ret rfl _ _ r false 0 (.slice none 0 0) rfl (HF1.out.set3 false 0 (.slice none 0 0))) rfl ?_
    exact ⟨_, _, _, ret_f1 (congrArg Prod.fst HRD.out), by rw [HRD.out]; exact MO.nil _ _, by rw [HRD.out]; exact cur_set3 HC1.out HF1.out HGR.out _ _ _, HNEW.out r (by rw [HRS.out]; exact Nat.le_refl _) _ _ HG1.out (grown3 _ _ _ _ _)⟩
  · have HFX := hide (fixAt_one (c :: rest) c rest rfl)
    have HRD : Hid (readF (c :: rest) = if c = 0 then (zeroF, decide (rest = [])) else if c = 255 then (⟨true, 0, []⟩, decide (rest = []))
      else (⟨false, (c.toNat : Int), (textAt rest 4096).2.2⟩, decide ((textAt rest 4096).2.1 = 0 ∧ rest.length ≤ (textAt rest 4096).1))) := rfl
    go_enter Tryd.func23, Tryd.ntmps23
    go_wp2_with fail
    refine (fixedC_any g 0 (c :: rest) 1 w0 HC0.out).mono ?_
    rintro e w1 ⟨rfl, hg1, hc1⟩
    rw [HFX.out] at hc1 ⊢
    have HC1 : Hid (Cur w1 g rest (0 + 1)) := by have h := hc1; rw [if_pos rfl] at h; exact h
    have HF1 := hide (HF0.out.grown hg1 HGR2.out)
    have HG1 := hide (grown_trans HG0.out hg1)
    have HE1 : Hid (CurE w1 g (decide (rest = []))) := .inl ⟨rest, 0 + 1, HC1.out, by cases rest <;> simp⟩
    clear hg1 hc1
    have r0 := HF1.out.c0
    have r1 := HF1.out.c1
    have r2 := HF1.out.c2
    have z0 := HF1.out.fz 0
    have z1 := HF1.out.fz 1
    have z2 := HF1.out.fz 2
    by_cases hc0 : c = 0
    · subst hc0
      have HRE : Hid (readF (0 :: rest) = (⟨false, 0, []⟩, decide (rest = []))) := HRD.out
      have e0 : ((((0 : BitVec 8).toNat : Nat) : Int) == 0) = true := by decide
      go_wp2_with fail
      refine bodyPost_ret (fb_ret rfl _ _ r false 0 (.slice none 0 0) rfl (HF1.out.set3 false 0 (.slice none 0 0))) rfl ?_
      exact ⟨_, _, _, ret_f1 (congrArg Prod.fst HRE.out), by rw [HRE.out]; exact MO.nil _ _, by rw [HRE.out]; exact cur_set3 HE1.out HF1.out HGR.out _ _ _, HNEW.out r (by rw [HRS.out]; exact Nat.le_refl _) _ _ HG1.out (grown3 _ _ _ _ _)⟩
    · by_cases hc5 : c = 255
      · subst hc5
        have HRE : Hid (readF (255 :: rest) = (⟨true, 0, []⟩, decide (rest = []))) := HRD.out
        have e0 : ((((255 : BitVec 8).toNat : Nat) : Int) == 0) = false := by decide
        have e1 : ((((255 : BitVec 8).toNat : Nat) : Int) == 255) = true := by decide
        go_wp2_with fail
        refine bodyPost_ret (fb_ret rfl _ _ r true 0 (.slice none 0 0) rfl (HF1.out.set3 true 0 (.slice none 0 0))) rfl ?_
        exact ⟨_, _, _, ret_f1 (congrArg Prod.fst HRE.out), by rw [HRE.out]; exact MO.nil _ _, by rw [HRE.out]; exact cur_set3 HE1.out HF1.out HGR.out _ _ _, HNEW.out r (by rw [HRS.out]; exact Nat.le_refl _) _ _ HG1.out (grown3 _ _ _ _ _)⟩
      · have HRE : Hid (readF (c :: rest) = (⟨false, (c.toNat : Int), (textAt rest 4096).2.2⟩, decide ((textAt rest 4096).2.1 = 0 ∧ rest.length ≤ (textAt rest 4096).1))) := by
          show _ = _; rw [HRD.out, if_neg hc0, if_neg hc5]
        obtain ⟨m, hm⟩ : ∃ m, c.toNat = m := ⟨_, rfl⟩
        have hm256 : m < 256 := by rw [← hm]; exact lt8 c
        have hm0 : m ≠ 0 := fun e => hc0 (BitVec.eq_of_toNat_eq (by rw [hm, e]; rfl))
        have hm5 : m ≠ 255 := fun e => hc5 (BitVec.eq_of_toNat_eq (by rw [hm, e]; rfl))
        have e0 : ((m : Int) == 0) = false := by rw [beq_eq_false_iff_ne]; omega
        have e1 : ((m : Int) == 255) = false := by rw [beq_eq_false_iff_ne]; omega
        have hmw : wrap64 (m : Int) = (m : Int) := by unfold wrap64; omega
        rw [hm] at HRE ⊢
        clear hc0 hc5 hm HRD HFX
        go_wp2_with fail
        refine (text_any g (0 + 1) rest 4096 w1 HC1.out).mono ?_
        rintro e w2 ⟨rfl, hg2, hc2⟩
        have HTL := hide (textAt_len rest 4096)
        have HTL2 := hide (textAt_txt rest 4096)
        obtain ⟨T, hT⟩ : ∃ T, textAt rest 4096 = T := ⟨_, rfl⟩
        rw [hT] at HRE HTL HTL2 hc2 ⊢
        obtain ⟨tn, te, tt⟩ := T
        simp only at HRE HTL HTL2 hc2 ⊢
        have HE2 : Hid (CurE w2 g (decide (te = 0 ∧ rest.length ≤ tn))) := by
          by_cases h : te = 0
          · rw [if_pos h] at hc2
            refine .inl ⟨_, _, hc2, ?_⟩
            rw [List.length_drop]
            by_cases h3 : rest.length ≤ tn
            · rw [decide_eq_true ⟨h, h3⟩, decide_eq_true (by omega)]
            · rw [decide_eq_false (fun e => h3 e.2), decide_eq_false (by omega)]
          · rw [if_neg h] at hc2
            exact .inr ⟨_, _, hc2, decide_eq_false (fun e => h e.1)⟩
        have HF2 := hide (HF1.out.grown hg2 HGR2.out)
        have HG2 := hide (grown_trans HG1.out hg2)
        have hcv := run_bytes_of_string (P := Tryd.prog) w2 9 22 5 (str tt) Tryd.underlying9 Tryd.underlying22 Tryd.underlying5
        have hrd := mo_str w2 tt (grownCap w2 (str tt).size 0 5) ((bytesRow (str tt) (grownCap w2 (str tt).size 0 5)).size, (bytesRow (str tt) (grownCap w2 (str tt).size 0 5)).size + 1) (by have := HTL2.out; have := Curs.Cur.len47 HC1.out; omega) (by rw [← str_size tt]; exact grownCap_ge w2 _ 0 _) (grownCap_le_maxLen w2 _ 0 _ (by rw [str_size]; have := HTL2.out; have := Curs.Cur.len47 HC1.out; unfold maxLen; omega)) rfl
        rw [str_size] at hcv hrd
        generalize hcp : grownCap w2 tt.length 0 5 = cp at hcv hrd
        obtain ⟨w3, hw3⟩ : ∃ w3, w2.drew.alloc (.cells (bytesRow (str tt) cp) 5 ((bytesRow (str tt) cp).size, (bytesRow (str tt) cp).size + 1)) = w3 := ⟨_, rfl⟩
        rw [hw3] at hcv hrd
        have hb3 : Below w2.heap.size w2 w3 := by rw [← hw3]; exact (Below.refl _ _).drew.alloc (Nat.le_refl _) _
        have HF3 := hide (HF2.out.below hb3)
        have HG3 : Hid (w.grownBy w3 (some g)) := grown_new HG2.out (below_grown hb3) (fun i e => by cases e)
        have HE3 : Hid (CurE w3 g (decide (te = 0 ∧ rest.length ≤ tn))) := HE2.out.grown (below_grown hb3) (by simp) (by simp)
        have HRD3 := hide hrd
        generalize str tt = S at hcv
        clear hg2 hc2 hb3 hrd hcp hw3 hT r0 r1 r2 z0 z1 z2
        have r0 := HF3.out.c0
        have r1 := HF3.out.c1
        have r2 := HF3.out.c2
        have z0 := HF3.out.fz 0
        have z1 := HF3.out.fz 1
        have z2 := HF3.out.fz 2
        go_wp2_with fail
        refine bodyPost_ret (fb_ret rfl _ _ r false (m : Int) _ rfl (HF3.out.set3 false (m : Int) _)) rfl ?_
        refine ⟨_, _, _, ret_f1 (congrArg Prod.fst HRE.out), ?_, by rw [HRE.out]; exact cur_set3 HE3.out HF3.out HGR.out _ _ _, HNEW.out r (by rw [HRS.out]; exact Nat.le_refl _) _ _ HG3.out (grown3 _ _ _ _ _)⟩
        rw [HRE.out]
        refine (HRD3.out.mono (by first | exact HG2.out.size | (rw [← HRS.out]; exact HG2.out.size))).keep (grown3 _ _ _ _ _) (fun i j e1 e2 => ?_)
        have h1 := HF2.out.lt
        have h2 : w2.heap.size = i := Option.some.inj e1
        have h3 : r = j := Option.some.inj e2
        omega
set_option maxHeartbeats 1000000 in
set_option maxRecDepth 100000 in
theorem decodeM_any (a : Option Addr) (n c : Nat) (bs : List (BitVec 8)) (w : World) (hK : KAt w) (hr : Rd w a n bs) (hn : n ≤ c) (hz : a = none → n = 0 ∧ c = 0) :
    Calls Tryd.prog 9 #[.slice a n c] w fun e w' => ∃ a2 n2 c2, e = .returned (.tuple #[.agg #[.bool (decF bs).1.all, .int .i64 (decF bs).1.hashes, .slice a2 n2 c2], .int .i64 (decF bs).2]) ∧ MO w' w.heap.size (.slice a2 n2 c2) (decF bs).1.data ∧ Below w.heap.size w w' := by
  obtain ⟨w0, hw0⟩ : ∃ w0, w.alloc (.cells #[.bool false, .int .i64 0, .slice none 0 0] 24) = w0 := ⟨_, rfl⟩
  have hb0 : Below w.heap.size w w0 := by rw [← hw0]; exact (Below.refl _ _).alloc (Nat.le_refl _) _
  have hF0 : FB w0 w.heap.size false 0 (.slice none 0 0) := by rw [← hw0]; exact FB.new _ _ _ _
  obtain ⟨r, hr0⟩ : ∃ r, w.heap.size = r := ⟨_, rfl⟩
  rw [hr0] at hF0
  have HRS := hide hr0
  have HF0 := hide hF0
  have HB0 := hide hb0
  have HR0 := hide (hr.below hb0)
  have hlm := hr.2.1
  have HL := hide hr.1
  have HKW := hide hK
  have HRL := hide (readF_len bs)
  clear hr hK hF0 hb0
  go_enter Tryd.func9, Tryd.ntmps9
  go_wp2_with fail
  refine (newCursor_any a n c bs w0 HR0.out hn hlm hz).mono ?_
  rintro e w1 ⟨g, rfl, hg, hcur, hb1⟩
  have HF1 := hide (HF0.out.below hb1)
  have HB1 := hide (below_trans HB0.out hb1)
  have HC1 := hide hcur
  have HGW : Hid (w.heap.size ≤ g) := Nat.le_trans HB0.out.size hg
  have HGR : Hid (some g ≠ some r) := fun e => by have h1 := HF0.out.lt; have h2 : g = r := Option.some.inj e; omega
  clear hcur hb1 hg
  go_wp2_with fail
  refine (readM_any g bs w1 HC1.out).mono ?_
  rintro e w2 ⟨fa, fn, fc, rfl, hrd0, hce, hg2⟩
  have hrd := hrd0.mono HB1.out.size
  clear hrd0
  have HD : Hid (decF bs = if (readF bs).2 = true ∧ (readF bs).1.kind ≠ 3 then ((readF bs).1, 0) else (zeroF, 70)) := rfl
  obtain ⟨F, hF⟩ : ∃ F, readF bs = F := ⟨_, rfl⟩
  rw [hF] at hrd hce HD HRL ⊢
  obtain ⟨⟨A, H, D⟩, ok⟩ := F
  simp only at hrd hce HRL ⊢
  have HDL : Hid (D.length = fn) := hrd.len
  have HF2 := hide (HF1.out.grown hg2 HGR.out)
  have HB2 := hide (grown_below HB1.out hg2 HGW.out)
  obtain ⟨w3, hw3⟩ : ∃ w3, w2.alloc (.cells #[.bool A, .int .i64 H, .slice fa fn fc] 24) = w3 := ⟨_, rfl⟩
  have hb3 : Below w2.heap.size w2 w3 := by rw [← hw3]; exact (Below.refl _ _).alloc (Nat.le_refl _) _
  have HQ3 : Hid (FB w3 w2.heap.size A H (.slice fa fn fc)) := by rw [← hw3]; exact FB.new _ _ _ _
  obtain ⟨q, hq⟩ : ∃ q, w2.heap.size = q := ⟨_, rfl⟩
  rw [hq] at HQ3
  have HF3 := hide (HF2.out.below hb3)
  have HRQ : Hid (r ≠ q) := by have := HF2.out.lt; show r ≠ q; omega
  have HB3 := hide (below_trans HB2.out hb3)
  have HR3 := hide (hrd.below hb3)
  have HE3 : Hid (CurE w3 g ok) := hce.grown (below_grown hb3) (by simp) (by simp)
  clear hrd hce hg2 hb3 hF
  go_wp2_with fail
  refine (end_cur g ok w3 HE3.out).mono ?_
  rintro e w4 ⟨⟨x, y, rfl, hxy⟩, hb4⟩
  have HF4 := hide (HF3.out.below hb4)
  have HQ4 := hide (HQ3.out.below hb4)
  have HB4 := hide (below_trans HB3.out hb4)
  have HR4 := hide (HR3.out.below hb4)
  have HK4 := hide (kat_below HKW.out HB4.out)
  clear hb4
  have r0 := HF4.out.c0
  have r1 := HF4.out.c1
  have r2 := HF4.out.c2
  have z0 := HF4.out.fz 0
  have z1 := HF4.out.fz 1
  have z2 := HF4.out.fz 2
  have q0 := HQ4.out.c0
  have q1 := HQ4.out.c1
  have q2 := HQ4.out.c2
  have hfd : ∀ W : World, (Instr.field 45 (.agg #[.int .i64 x, .int .i64 y]) 0).run Tryd.prog W = .ok (.int .i64 x) W := fun _ => by kernel_rfl
  cases ok with
  | false =>
    have hx : (x != 0) = true := hxy
    have HDE : Hid (decF bs = (⟨false, 0, []⟩, 70)) := by show _ = _; rw [HD.out, if_neg (by simp)]; rfl
    clear hxy HD
    go_wp2_with fail
    refine bodyPost_ret (fb_ret2 rfl _ _ r false 0 (.slice none 0 0) rfl (HF4.out.set3 false 0 (.slice none 0 0))) rfl ?_
    exact ⟨_, _, _, ret_f2 HDE.out, by rw [HDE.out]; exact MO.nil _ _, by first | exact below3 HB4.out (by rw [HRS.out]; exact Nat.le_refl _) _ _ _ | (rw [← HRS.out]; exact below3 HB4.out (by rw [HRS.out]; exact Nat.le_refl _) _ _ _)⟩
  | true =>
    have hx : (x != 0) = false := hxy
    have HD2 : Hid (decF bs = if kindN A H fn ≠ 3 then (⟨A, H, D⟩, 0) else (zeroF, 70)) := by
      show _ = _
      rw [HD.out]
      unfold Fw.kind
      simp only [HDL.out, true_and]
    have HKI := hide (kind_any A H fa fn fc w4 HK4.out (by have := HDL.out; have := HRL.out; have := HL.out; omega))
    obtain ⟨kk, hkk⟩ : ∃ kk, kindN A H fn = kk := ⟨_, rfl⟩
    rw [hkk] at HD2 HKI
    clear hxy HD hkk
    go_wp2_with fail
    refine HKI.out.mono ?_
    rintro e w5 ⟨rfl, hb5⟩
    have HF5 := hide (HF4.out.below hb5)
    have HQ5 := hide (HQ4.out.below hb5)
    have HB5 := hide (below_trans HB4.out hb5)
    have HR5 := hide (HR4.out.below hb5)
    clear hb5 r0 r1 r2 z0 z1 z2 q0 q1 q2
    have r0 := HF5.out.c0
    have r1 := HF5.out.c1
    have r2 := HF5.out.c2
    have z0 := HF5.out.fz 0
    have z1 := HF5.out.fz 1
    have z2 := HF5.out.fz 2
    have q0 := HQ5.out.c0
    have q1 := HQ5.out.c1
    have q2 := HQ5.out.c2
    by_cases h3 : kk = 3
    · have hk3 : (kk == 3) = true := by rw [h3]; rfl
      have HDE : Hid (decF bs = (⟨false, 0, []⟩, 70)) := by show _ = _; rw [HD2.out, if_neg (by simp [h3])]; rfl
      clear HD2 h3
      go_wp2_with fail
      refine bodyPost_ret (fb_ret2 rfl _ _ r false 0 (.slice none 0 0) rfl (HF5.out.set3 false 0 (.slice none 0 0))) rfl ?_
      exact ⟨_, _, _, ret_f2 HDE.out, by rw [HDE.out]; exact MO.nil _ _, by first | exact below3 HB5.out (by rw [HRS.out]; exact Nat.le_refl _) _ _ _ | (rw [← HRS.out]; exact below3 HB5.out (by rw [HRS.out]; exact Nat.le_refl _) _ _ _)⟩
    · have hk3 : (kk == 3) = false := by rw [beq_eq_false_iff_ne]; exact h3
      have HDE : Hid (decF bs = (⟨A, H, D⟩, 0)) := by show _ = _; rw [HD2.out, if_pos h3]
      clear HD2 h3
      go_wp2_with fail
      refine bodyPost_ret (fb_ret2 rfl _ _ r A H (.slice fa fn fc) rfl (HF5.out.set3 A H (.slice fa fn fc))) rfl ?_
      refine ⟨_, _, _, ret_f2 HDE.out, ?_, by first | exact below3 HB5.out (by rw [HRS.out]; exact Nat.le_refl _) _ _ _ | (rw [← HRS.out]; exact below3 HB5.out (by rw [HRS.out]; exact Nat.le_refl _) _ _ _)⟩
      rw [HDE.out]
      first | exact mo_set3 HR5.out HF5.out _ _ _ | (rw [← HRS.out]; exact mo_set3 HR5.out HF5.out _ _ _)
end Go.Proofs.YtmndjgmlndpgaaaDoor.Filt
