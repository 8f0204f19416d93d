/-
  Decode, of any bytes.
-/
import Derived.Test.YtmndjgmlndpgaaaDoorFiTurn
import Derived.Test.YtmndjgmlndpgaaaDoorNumsCur3
namespace Go.Proofs.YtmndjgmlndpgaaaDoor.Filt
open Go.ChangeShapes Go.WideShapes Go.ChangeAt Go.RowKit
open Go.Proofs.YtmndjgmlndpgaaaDoor.Base Go.Proofs.YtmndjgmlndpgaaaDoor.Nums Go.Proofs.YtmndjgmlndpgaaaDoor.Curs
set_option linter.unusedVariables false
/-- What read tells of the bytes: the filter, and whether the cursor is well and at its end. -/
def readF (bs : List (BitVec 8)) : Fw × Bool :=
  match bs with
  | [] => (zeroF, false)
  | c :: rest =>
    if c = 0 then (zeroF, decide (rest = [])) else if c = 255 then (⟨true, 0, []⟩, decide (rest = []))
    else (⟨false, (c.toNat : Int), (textAt rest 4096).2.2⟩, decide ((textAt rest 4096).2.1 = 0 ∧ rest.length ≤ (textAt rest 4096).1))
theorem textAt_txt (L : List (BitVec 8)) (most : Int) : (textAt L most).2.2.length ≤ L.length := by
  unfold textAt
  split
  · simp
  · split
    · simp
    · show (List.take _ (List.drop _ L)).length ≤ _
      rw [List.length_take, List.length_drop]; omega
/-- What Decode answers. -/
def decF (bs : List (BitVec 8)) : Fw × Int := if (readF bs).2 = true ∧ (readF bs).1.kind ≠ 3 then ((readF bs).1, 0) else (zeroF, 70)
/-- The cursor in block g is at its end, or not, or has failed. -/
def CurE (w : World) (g : Nat) (ok : Bool) : Prop := (∃ L p, Cur w g L p ∧ ok = decide (L.length = 0)) ∨ (∃ p er, Dead w g p er ∧ ok = false)
theorem fixAt_one (bs : List (BitVec 8)) (c : BitVec 8) (rest : List (BitVec 8)) (h : bs = c :: rest) : fixAt bs 1 = (c.toNat, 1, 0) := by
  subst h
  unfold fixAt
  rw [if_neg (by omega), if_neg (by simp; omega)]
  show (word ((c :: rest).take 1), 1, 0) = _
  have : word ((c :: rest).take 1) = c.toNat := by simp [word, wordFrom]
  rw [this]
theorem Curs.Cur.len47 {w : World} {g : Nat} {L : List (BitVec 8)} {p : Nat} (h : Cur w g L p) : L.length ≤ 140737488355328 := by
  obtain ⟨a, c, _, h2, _⟩ := h
  exact h2.2.1
theorem str_size (T : List (BitVec 8)) : (str T).size = T.length := by simp [str, ByteArray.size]
theorem rd_str (w : World) (T : List (BitVec 8)) (cap : Nat) (fr : Nat × Nat) (h : T.length ≤ 140737488355328) : Rd (w.drew.alloc (.cells (bytesRow (str T) cap) 5 fr)) (some ⟨w.heap.size, 0, none⟩) T.length T := by
  refine ⟨rfl, h, fun _ => ⟨w.heap.size, 0, rfl, by simp, fun i hi => ?_⟩⟩
  rw [Nat.zero_add]
  have e : (w.drew.alloc (.cells (bytesRow (str T) cap) 5 fr)).cell? ⟨w.heap.size, i, none⟩ = (bytesRow (str T) cap)[i]? := World.cell?_alloc_mark _ _ _ _ _
  rw [e, bytesRow_at (str T) cap i (by simpa [str] using hi), List.getD_eq_getElem?_getD, List.getElem?_eq_getElem hi]
  simp [str]
theorem row_keep {w w' : World} {g q p : Nat} {v : Value} {a b : Int} {r : Nat} (h : Row w g v a b) (hg : w.grownBy w' (some r)) (hne : r ≠ g) : Row w' g v a b := h.grown hg (fun e => hne (Option.some.inj e))
theorem CurE.grown {w w' : World} {g : Nat} {ok : Bool} {q : Option Nat} (h : CurE w g ok) (hg : w.grownBy w' q) (hne : q ≠ some g) (hq : ∀ L p a c, Row w g (.slice (some a) L c) p 0 → q ≠ some a.block) : CurE w' g ok := by
  rcases h with ⟨L, p, ⟨a, c, h1, h2, h3, h4, h5, h6, h7, h8⟩, e⟩ | ⟨p, er, h1, e⟩
  · exact .inl ⟨L, p, ⟨a, c, h1.grown hg hne, h2.grown hg (fun ad e => by cases e; exact hq _ _ _ _ h1), h3, h4, h5, h6, Nat.lt_of_lt_of_le h7 hg.size, h8⟩, e⟩
  · exact .inr ⟨p, er, ⟨h1.1.grown hg hne, h1.2⟩, e⟩
theorem ret_f1 {F : Fw} {A : Bool} {H : Int} {D : List (BitVec 8)} {v : Value} (h : F = ⟨A, H, D⟩) : Ending.returned (.agg #[.bool A, .int .i64 H, v]) = .returned (.agg #[.bool F.all, .int .i64 F.hashes, v]) := by rw [h]
/-- A cursor keeps its state where a block of a filter is written. -/
theorem cur_set3 {w : World} {g r : Nat} {ok : Bool} {A : Bool} {H : Int} {va : Option Addr} {vn vc : Nat} (h : CurE w g ok) (hf : FB w r A H (.slice va vn vc)) (hgr : r ≠ g) (a b c : Value) : CurE (((w.setCell ⟨r, 0, none⟩ a).setCell ⟨r, 1, none⟩ b).setCell ⟨r, 2, none⟩ c) g ok := by
  rcases h with ⟨L, p, ⟨x, cp, h1, h2, h3, h4, h5, h6, h7, h8⟩, e⟩ | ⟨p, er, h1, e⟩
  · refine .inl ⟨L, p, ⟨x, cp, h1.grown (grown3 w r a b c) (fun e => hgr (Option.some.inj e)), ?_, h3, h4, h5, h6, Nat.lt_of_lt_of_le h7 (grown3 w r a b c).size, h8⟩, e⟩
    by_cases hp : 0 < L.length
    · obtain ⟨bb, off, e2, hlt, hc⟩ := h2.2.2 hp
      have hne : bb ≠ r := by
        rintro rfl
        have h9 := hc 0 hp
        rw [cell_of_row _ _ _ _ _ _ hf] at h9
        match off, h9 with
        | 0, h9 => simp at h9
        | 1, h9 => simp at h9
        | 2, h9 => simp at h9
        | n + 3, h9 => simp at h9
      exact h2.grown (grown3 w r a b c) (fun ad e3 e4 => by rw [e2] at e3; cases e3; exact hne (Option.some.inj e4).symm)
    · have h0 : L.length = 0 := by omega
      have hL : L = [] := List.length_eq_zero_iff.1 h0
      subst hL
      exact rd_zero _ _
  · exact .inr ⟨p, er, ⟨h1.1.grown (grown3 w r a b c) (fun e => hgr (Option.some.inj e)), h1.2⟩, e⟩
set_option maxHeartbeats 1000000 in
set_option maxRecDepth 100000 in
theorem read_any (g : Nat) (bs : List (BitVec 8)) (w : World) (h : Cur w g bs 0) :
    Calls Tryd.prog 23 #[.pointer (some ⟨g, 0, none⟩)] w fun e w' => ∃ a n c, e = .returned (.agg #[.bool (readF bs).1.all, .int .i64 (readF bs).1.hashes, .slice a n c]) ∧ Rd w' a n (readF bs).1.data ∧ (a = none → n = 0 ∧ c = 0) ∧ CurE w' g (readF bs).2 ∧ w.grownBy w' (some g) := by
  obtain ⟨w0, hw0⟩ : ∃ w0, w.alloc (.cells #[.bool false, .int .i64 0, .slice none 0 0] 24) = w0 := ⟨_, rfl⟩
  have hb0 : Below w.heap.size w w0 := by rw [← hw0]; exact (Below.refl _ _).alloc (Nat.le_refl _) _
  have hF0 : FB w0 w.heap.size false 0 (.slice none 0 0) := by rw [← hw0]; exact FB.new _ _ _ _
  have hgl : g < w.heap.size := by obtain ⟨a, c, h1, _⟩ := h; exact h1.lt
  have hcw : Cur w0 g bs 0 := by
    obtain ⟨x, cp, h1, h2, h3, h4, h5, h6, h7, h8⟩ := h
    exact ⟨x, cp, h1.grown (below_grown hb0) (by simp), h2.below hb0, h3, h4, h5, h6, Nat.lt_of_lt_of_le h7 hb0.size, h8⟩
  obtain ⟨r, hr0⟩ : ∃ r, w.heap.size = r := ⟨_, rfl⟩
  rw [hr0] at hF0
  have HRS := hide hr0
  have HF0 := hide hF0
  have HG0 : Hid (w.grownBy w0 (some g)) := grown_of_below hb0
  have HC0 := hide hcw
  have HGR : Hid (r ≠ g) := by show r ≠ g; omega
  have HGR2 : Hid (some g ≠ some r) := fun e => HGR.out (Option.some.inj e).symm
  have HNEW : Hid (∀ q, w.heap.size ≤ q → ∀ W W', w.grownBy W (some g) → W.grownBy W' (some q) → w.grownBy W' (some g)) := fun q hq W W' h1 h2 => grown_new h1 h2 (fun i e => by cases e; exact hq)
  clear h hcw hb0 hF0 hgl
  rcases bs with _ | ⟨c, rest⟩
  · have HFX : Hid (fixAt [] 1 = (0, 0, 20)) := by show _ = _; decide
    have HRD : Hid (readF [] = (⟨false, 0, []⟩, false)) := rfl
    go_enter Tryd.func23, Tryd.ntmps23
    go_wp2_with fail
    refine (fixedC_any g 0 [] 1 w0 HC0.out).mono ?_
    rintro e w1 ⟨rfl, hg1, hc1⟩
    rw [HFX.out] at hc1 ⊢
    have hd1 : Dead w1 g 0 20 := by have h := hc1; rw [if_neg (by simp)] at h; exact h
    have HC1 : Hid (CurE w1 g false) := .inr ⟨0, 20, hd1, rfl⟩
    have HF1 := hide (HF0.out.grown hg1 HGR2.out)
    have HG1 := hide (grown_trans HG0.out hg1)
    clear hg1 hc1 hd1
    have r0 := HF1.out.c0
    have r1 := HF1.out.c1
    have r2 := HF1.out.c2
    have z0 := HF1.out.fz 0
    have z1 := HF1.out.fz 1
    have z2 := HF1.out.fz 2
    go_wp2_with fail
    refine bodyPost_ret (fb_ret rfl _ _ r false 0 (.slice none 0 0) rfl (HF1.out.set3 false 0 (.slice none 0 0))) rfl ?_
    exact ⟨_, _, _, ret_f1 (congrArg Prod.fst HRD.out), by rw [HRD.out]; exact rd_nil _, fun _ => ⟨rfl, rfl⟩, by rw [HRD.out]; exact cur_set3 HC1.out HF1.out HGR.out _ _ _, HNEW.out r (by rw [HRS.out]; exact Nat.le_refl _) _ _ HG1.out (grown3 _ _ _ _ _)⟩
  · have HFX := hide (fixAt_one (c :: rest) c rest rfl)
    have HRD : Hid (readF (c :: rest) = if c = 0 then (zeroF, decide (rest = [])) else if c = 255 then (⟨true, 0, []⟩, decide (rest = []))
      else (⟨false, (c.toNat : Int), (textAt rest 4096).2.2⟩, decide ((textAt rest 4096).2.1 = 0 ∧ rest.length ≤ (textAt rest 4096).1))) := rfl
    go_enter Tryd.func23, Tryd.ntmps23
    go_wp2_with fail
    refine (fixedC_any g 0 (c :: rest) 1 w0 HC0.out).mono ?_
    rintro e w1 ⟨rfl, hg1, hc1⟩
    rw [HFX.out] at hc1 ⊢
    have HC1 : Hid (Cur w1 g rest (0 + 1)) := by have h := hc1; rw [if_pos rfl] at h; exact h
    have HF1 := hide (HF0.out.grown hg1 HGR2.out)
    have HG1 := hide (grown_trans HG0.out hg1)
    have HE1 : Hid (CurE w1 g (decide (rest = []))) := .inl ⟨rest, 0 + 1, HC1.out, by cases rest <;> simp⟩
    clear hg1 hc1
    have r0 := HF1.out.c0
    have r1 := HF1.out.c1
    have r2 := HF1.out.c2
    have z0 := HF1.out.fz 0
    have z1 := HF1.out.fz 1
    have z2 := HF1.out.fz 2
    by_cases hc0 : c = 0
    · subst hc0
      have HRE : Hid (readF (0 :: rest) = (⟨false, 0, []⟩, decide (rest = []))) := HRD.out
      have e0 : ((((0 : BitVec 8).toNat : Nat) : Int) == 0) = true := by decide
      go_wp2_with fail
      refine bodyPost_ret (fb_ret rfl _ _ r false 0 (.slice none 0 0) rfl (HF1.out.set3 false 0 (.slice none 0 0))) rfl ?_
      exact ⟨_, _, _, ret_f1 (congrArg Prod.fst HRE.out), by rw [HRE.out]; exact rd_nil _, fun _ => ⟨rfl, rfl⟩, by rw [HRE.out]; exact cur_set3 HE1.out HF1.out HGR.out _ _ _, HNEW.out r (by rw [HRS.out]; exact Nat.le_refl _) _ _ HG1.out (grown3 _ _ _ _ _)⟩
    · by_cases hc5 : c = 255
      · subst hc5
        have HRE : Hid (readF (255 :: rest) = (⟨true, 0, []⟩, decide (rest = []))) := HRD.out
        have e0 : ((((255 : BitVec 8).toNat : Nat) : Int) == 0) = false := by decide
        have e1 : ((((255 : BitVec 8).toNat : Nat) : Int) == 255) = true := by decide
        go_wp2_with fail
        refine bodyPost_ret (fb_ret rfl _ _ r true 0 (.slice none 0 0) rfl (HF1.out.set3 true 0 (.slice none 0 0))) rfl ?_
        exact ⟨_, _, _, ret_f1 (congrArg Prod.fst HRE.out), by rw [HRE.out]; exact rd_nil _, fun _ => ⟨rfl, rfl⟩, by rw [HRE.out]; exact cur_set3 HE1.out HF1.out HGR.out _ _ _, HNEW.out r (by rw [HRS.out]; exact Nat.le_refl _) _ _ HG1.out (grown3 _ _ _ _ _)⟩
      · have HRE : Hid (readF (c :: rest) = (⟨false, (c.toNat : Int), (textAt rest 4096).2.2⟩, decide ((textAt rest 4096).2.1 = 0 ∧ rest.length ≤ (textAt rest 4096).1))) := by
          show _ = _; rw [HRD.out, if_neg hc0, if_neg hc5]
        obtain ⟨m, hm⟩ : ∃ m, c.toNat = m := ⟨_, rfl⟩
        have hm256 : m < 256 := by rw [← hm]; exact lt8 c
        have hm0 : m ≠ 0 := fun e => hc0 (BitVec.eq_of_toNat_eq (by rw [hm, e]; rfl))
        have hm5 : m ≠ 255 := fun e => hc5 (BitVec.eq_of_toNat_eq (by rw [hm, e]; rfl))
        have e0 : ((m : Int) == 0) = false := by rw [beq_eq_false_iff_ne]; omega
        have e1 : ((m : Int) == 255) = false := by rw [beq_eq_false_iff_ne]; omega
        have hmw : wrap64 (m : Int) = (m : Int) := by unfold wrap64; omega
        rw [hm] at HRE ⊢
        clear hc0 hc5 hm HRD HFX
        go_wp2_with fail
        refine (text_any g (0 + 1) rest 4096 w1 HC1.out).mono ?_
        rintro e w2 ⟨rfl, hg2, hc2⟩
        have HTL := hide (textAt_len rest 4096)
        have HTL2 := hide (textAt_txt rest 4096)
        obtain ⟨T, hT⟩ : ∃ T, textAt rest 4096 = T := ⟨_, rfl⟩
        rw [hT] at HRE HTL HTL2 hc2 ⊢
        obtain ⟨tn, te, tt⟩ := T
        simp only at HRE HTL HTL2 hc2 ⊢
        have HE2 : Hid (CurE w2 g (decide (te = 0 ∧ rest.length ≤ tn))) := by
          by_cases h : te = 0
          · rw [if_pos h] at hc2
            refine .inl ⟨_, _, hc2, ?_⟩
            rw [List.length_drop]
            by_cases h3 : rest.length ≤ tn
            · rw [decide_eq_true ⟨h, h3⟩, decide_eq_true (by omega)]
            · rw [decide_eq_false (fun e => h3 e.2), decide_eq_false (by omega)]
          · rw [if_neg h] at hc2
            exact .inr ⟨_, _, hc2, decide_eq_false (fun e => h e.1)⟩
        have HF2 := hide (HF1.out.grown hg2 HGR2.out)
        have HG2 := hide (grown_trans HG1.out hg2)
        have hcv := run_bytes_of_string (P := Tryd.prog) w2 9 22 5 (str tt) Tryd.underlying9 Tryd.underlying22 Tryd.underlying5
        have hrd := rd_str w2 tt (grownCap w2 (str tt).size 0 5) ((bytesRow (str tt) (grownCap w2 (str tt).size 0 5)).size, (bytesRow (str tt) (grownCap w2 (str tt).size 0 5)).size + 1) (by have := HTL2.out; have := Curs.Cur.len47 HC1.out; omega)
        rw [str_size] at hcv hrd
        generalize hcp : grownCap w2 tt.length 0 5 = cp at hcv hrd
        obtain ⟨w3, hw3⟩ : ∃ w3, w2.drew.alloc (.cells (bytesRow (str tt) cp) 5 ((bytesRow (str tt) cp).size, (bytesRow (str tt) cp).size + 1)) = w3 := ⟨_, rfl⟩
        rw [hw3] at hcv hrd
        have hb3 : Below w2.heap.size w2 w3 := by rw [← hw3]; exact (Below.refl _ _).drew.alloc (Nat.le_refl _) _
        have HF3 := hide (HF2.out.below hb3)
        have HG3 : Hid (w.grownBy w3 (some g)) := grown_new HG2.out (below_grown hb3) (fun i e => by cases e)
        have HE3 : Hid (CurE w3 g (decide (te = 0 ∧ rest.length ≤ tn))) := HE2.out.grown (below_grown hb3) (by simp) (by simp)
        have HRD3 := hide hrd
        generalize str tt = S at hcv
        clear hg2 hc2 hb3 hrd hcp hw3 hT r0 r1 r2 z0 z1 z2
        have r0 := HF3.out.c0
        have r1 := HF3.out.c1
        have r2 := HF3.out.c2
        have z0 := HF3.out.fz 0
        have z1 := HF3.out.fz 1
        have z2 := HF3.out.fz 2
        go_wp2_with fail
        refine bodyPost_ret (fb_ret rfl _ _ r false (m : Int) _ rfl (HF3.out.set3 false (m : Int) _)) rfl ?_
        refine ⟨_, _, _, ret_f1 (congrArg Prod.fst HRE.out), ?_, (fun h => by cases h), by rw [HRE.out]; exact cur_set3 HE3.out HF3.out HGR.out _ _ _, HNEW.out r (by rw [HRS.out]; exact Nat.le_refl _) _ _ HG3.out (grown3 _ _ _ _ _)⟩
        rw [HRE.out]
        refine HRD3.out.grown (grown3 _ _ _ _ _) (fun ad e e2 => ?_)
        cases e
        have h1 := HF2.out.lt
        have h2 : r = w2.heap.size := Option.some.inj e2
        omega
end Go.Proofs.YtmndjgmlndpgaaaDoor.Filt
