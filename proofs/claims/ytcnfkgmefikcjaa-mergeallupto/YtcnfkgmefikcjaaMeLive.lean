/-
  A merge, by the places of its sources: what Next tells.
-/
import Derived.Test.YtcnfkgmefikcjaaMeNext2
namespace Go.Proofs.Ytcnfkgmefikcjaa.Me
open Go.ChangeShapes Go.WideShapes Go.ChangeAt Go.RowKit
open Go.Proofs.Ytcnfkgmefikcjaa.Base
set_option linter.unusedVariables false
/-- A source as it is when it stands at a place. -/
def fdP (B : Nat → Fd) (pos : Nat → Nat) : Nat → Fd := fun j => { B j with at_ := min (pos j + 1) (B j).ts.length, asks := pos j + 1, over := decide (pos j = (B j).ts.length), bad := false }
def scP (B : Nat → Fd) (gf : Nat → Nat) (pos : Nat → Nat) : Nat → Sc := fun j => if pos j < (B j).ts.length then ⟨feedV (gf j), (B j).ts.getD (pos j) th0, true⟩ else sc0
def keyP (B : Nat → Fd) (pos : Nat → Nat) (j : Nat) : Int := ((B j).ts.getD (pos j) th0).key
def upP (pos : Nat → Nat) (v : Nat) : Nat → Nat := fun j => if j = v then pos j + 1 else pos j
/-- What ends the merge when the source v is asked. -/
def codP (B : Nat → Fd) (pos : Nat → Nat) (v : Nat) : Int := if pos v + 1 < (B v).ts.length then (if ((B v).ts.getD (pos v + 1) th0).key < keyP B pos v then 61 else 0) else (B v).fin
/-- The first of the things that stand. -/
def Best (B : Nat → Fd) (n : Nat) (pos : Nat → Nat) (v : Nat) : Prop := v < n ∧ pos v < (B v).ts.length ∧ ∀ j, j < n → pos j < (B j).ts.length → keyP B pos v < keyP B pos j ∨ (keyP B pos v = keyP B pos j ∧ v ≤ j)
theorem best_of {B : Nat → Fd} {gf : Nat → Nat} {n : Nat} {pos : Nat → Nat} {pl : Nat → Nat} {v : Nat} (h : T n (ah (scP B gf pos)) pl 1 v) (hs : (scP B gf pos v).some = true) : Best B n pos v := by
  have hv := h.sub.2
  have hp : pos v < (B v).ts.length := by
    by_cases q : pos v < (B v).ts.length
    · exact q
    · unfold scP at hs; rw [if_neg q] at hs; cases hs
  refine ⟨hv, hp, fun j hj hpj => ?_⟩
  have hb := h.best (fun a => ah_irr _ a) (fun a b c h1 h2 => ah_tr _ a b c h1 h2) j hj (in_one _ (by omega)) (by omega)
  have e1 : scP B gf pos v = ⟨feedV (gf v), (B v).ts.getD (pos v) th0, true⟩ := by unfold scP; rw [if_pos hp]
  have e2 : scP B gf pos j = ⟨feedV (gf j), (B j).ts.getD (pos j) th0, true⟩ := by unfold scP; rw [if_pos hpj]
  unfold ah at hb
  rw [e1, e2] at hb
  unfold keyP
  generalize (B v).ts.getD (pos v) th0 = tv at hb ⊢
  generalize (B j).ts.getD (pos j) th0 = tj at hb ⊢
  simp at hb
  omega
theorem ended_of {B : Nat → Fd} {gf : Nat → Nat} {n : Nat} {pos : Nat → Nat} {pl : Nat → Nat} {v : Nat} (h : T n (ah (scP B gf pos)) pl 1 v) (hs : (scP B gf pos v).some = false) : ∀ j, j < n → (B j).ts.length ≤ pos j := by
  intro j hj
  by_cases q : pos j < (B j).ts.length
  · have hb := h.best (fun a => ah_irr _ a) (fun a b c h1 h2 => ah_tr _ a b c h1 h2) j hj (in_one _ (by omega)) (by omega)
    have e2 : scP B gf pos j = ⟨feedV (gf j), (B j).ts.getD (pos j) th0, true⟩ := by unfold scP; rw [if_pos q]
    unfold ah at hb
    rw [hs, e2] at hb
    simp at hb
  · omega
/-- Asking the source v: its code, its place. -/
theorem cod_eq {B : Nat → Fd} {gf : Nat → Nat} {pos : Nat → Nat} {v : Nat} (hp : pos v < (B v).ts.length) : codeA (scP B gf pos v) (fdP B pos v) = codP B pos v := by
  have e1 : scP B gf pos v = ⟨feedV (gf v), (B v).ts.getD (pos v) th0, true⟩ := by unfold scP; rw [if_pos hp]
  have e2 : min (pos v + 1) (B v).ts.length = pos v + 1 := by omega
  rw [e1]
  unfold codeA codP fdP keyP
  simp only [e2, true_and]
theorem fd_eq {B : Nat → Fd} {pos : Nat → Nat} {v : Nat} (hp : pos v < (B v).ts.length) : setD (fdP B pos) v (fdP B pos v).next = fdP B (upP pos v) := by
  funext j
  unfold setD
  by_cases e : j = v
  · subst e
    rw [if_pos rfl]
    have e2 : min (pos j + 1) (B j).ts.length = pos j + 1 := by omega
    unfold Fd.next fdP upP
    simp only [if_true, e2]
    by_cases q : pos j + 1 < (B j).ts.length
    · rw [if_pos q]
      have e3 : min (pos j + 1 + 1) (B j).ts.length = pos j + 1 + 1 := by omega
      have e4 : decide (pos j = (B j).ts.length) = decide (pos j + 1 = (B j).ts.length) := by
        rw [decide_eq_decide]; omega
      have e5 : decide (pos j + 1 = (B j).ts.length) = false := by rw [decide_eq_false_iff_not]; omega
      rw [e3, e4, e5]
      rfl
    · rw [if_neg q]
      have e3 : min (pos j + 1 + 1) (B j).ts.length = pos j + 1 := by omega
      have e4 : decide (pos j = (B j).ts.length) = false := by rw [decide_eq_false_iff_not]; omega
      have e5 : decide (pos j + 1 = (B j).ts.length) = true := by rw [decide_eq_true_eq]; omega
      rw [e3, e4, e5]
      rfl
  · rw [if_neg e]
    unfold fdP upP
    simp only [if_neg e]
theorem sc_eq {B : Nat → Fd} {gf : Nat → Nat} {pos : Nat → Nat} {v : Nat} (hp : pos v < (B v).ts.length) (hc : codP B pos v = 0) : setF (scP B gf pos) v (srcA (scP B gf pos v) (fdP B pos v)) = scP B gf (upP pos v) := by
  have e1 : scP B gf pos v = ⟨feedV (gf v), (B v).ts.getD (pos v) th0, true⟩ := by unfold scP; rw [if_pos hp]
  have e2 : min (pos v + 1) (B v).ts.length = pos v + 1 := by omega
  funext j
  unfold setF
  by_cases e : j = v
  · subst e
    rw [if_pos rfl, e1]
    unfold srcA fdP
    simp only [e2, true_and]
    unfold codP keyP at hc
    by_cases q : pos j + 1 < (B j).ts.length
    · rw [if_pos q] at hc ⊢
      have hlt : ¬ ((B j).ts.getD (pos j + 1) th0).key < ((B j).ts.getD (pos j) th0).key := fun h => by rw [if_pos h] at hc; cases hc
      rw [if_neg hlt]
      unfold scP upP
      simp only [if_true, if_pos q]
    · rw [if_neg q] at hc ⊢
      rw [if_pos hc]
      unfold scP upP
      simp only [if_true, if_neg q]
  · rw [if_neg e]
    unfold scP upP
    simp only [if_neg e]
/-- A merge that stands, its last told thing that of source v. -/
structure Live (w : World) (gm gs n : Nat) (gf : Nat → Nat) (B : Nat → Fd) (pos : Nat → Nat) (v : Nat) : Prop where
  fs : FSt w n gf (fdP B pos) gm gs
  ms : ∃ pl, MS w gm gs n pl true false 0 (scP B gf pos) ∧ T n (ah (scP B gf pos)) pl 1 (pl 0) ∧ pl 0 = v
  pv : pos v < (B v).ts.length
  le : ∀ j, j < n → pos j ≤ (B j).ts.length
theorem upP_le {B : Nat → Fd} {n : Nat} {pos : Nat → Nat} {v : Nat} (h : ∀ j, j < n → pos j ≤ (B j).ts.length) (hp : pos v < (B v).ts.length) : ∀ j, j < n → upP pos v j ≤ (B j).ts.length := fun j hj => by
  unfold upP
  by_cases e : j = v
  · subst e; rw [if_pos rfl]; omega
  · rw [if_neg e]; exact h j hj
/-- What Next leaves of it. -/
def Told (w w' : World) (e : Ending) (gm gs n : Nat) (gf : Nat → Nat) (B : Nat → Fd) (pos : Nat → Nat) (c : Int) : Prop :=
  Tn w w' (All n gm gs gf) ∧ FSt w' n gf (fdP B pos) gm gs ∧ ((c ≠ 0 ∧ e = .returned (.tuple #[th0.val, .bool false, .int .i64 c]) ∧ OV w' gm c) ∨ (c = 0 ∧ ((∃ v, Best B n pos v ∧ e = .returned (.tuple #[((B v).ts.getD (pos v) th0).val, .bool true, .int .i64 0]) ∧ Live w' gm gs n gf B pos v) ∨ ((∀ j, j < n → pos j = (B j).ts.length) ∧ e = .returned (.tuple #[th0.val, .bool false, .int .i64 0]) ∧ OV w' gm 0))))
theorem next_live (gm gs n : Nat) (gf : Nat → Nat) (B : Nat → Fd) (pos : Nat → Nat) (v : Nat) (w : World) (h : Live w gm gs n gf B pos v) (hk : pos v + 2 ≤ 4611686018427387904) :
    Calls Try.prog 7 #[.pointer (some ⟨gm, 0, none⟩)] w fun e w' => Told w w' e gm gs n gf B (upP pos v) (codP B pos v) := by
  obtain ⟨pl, hm, ht, hv⟩ := h.ms
  have hle := upP_le h.le h.pv
  have hvn : v < n := by have := ht.sub.2; rw [hv] at this; exact this
  have hask : (scP B gf pos (pl 0)).ask = feedV (gf (pl 0)) := by rw [hv]; unfold scP; rw [if_pos h.pv]
  refine (next_by gm gs n gf (fdP B pos) (fun fd' er => fd' = fdP B (upP pos v) ∧ ((codP B pos v ≠ 0 ∧ er = codP B pos v) ∨ (codP B pos v = 0 ∧ er = 0 ∧ ∀ j, j < n → upP pos v j = (B j).ts.length))) (fun fd' pl' F' => fd' = fdP B (upP pos v) ∧ codP B pos v = 0 ∧ F' = scP B gf (upP pos v) ∧ T n (ah (scP B gf (upP pos v))) pl' 1 (pl' 0) ∧ (scP B gf (upP pos v) (pl' 0)).some = true) w h.fs hm.m.lt hm.s.lt hm.m.cells.2.2.2.1 (fun W hb => ?_)).mono ?_
  · refine (advance_next gm gs n gf (fdP B pos) (scP B gf pos) pl W (hm.below hb) (h.fs.turned (Tn.of_below _ hb)) ht hask ?_).mono ?_
    · rw [hv]; show pos v + 1 + 1 ≤ _; omega
    · rintro e W' ⟨rfl, hs, htn, ho⟩
      rw [hv, cod_eq h.pv] at ho
      rw [hv, fd_eq h.pv] at hs
      refine ⟨rfl, htn, _, hs, fun j hj => ⟨rfl, rfl⟩, ?_⟩
      rcases ho with ⟨hc, hov⟩ | ⟨hc, pl', ht', hl⟩
      · exact .inl ⟨_, hov, rfl, .inl ⟨hc, rfl⟩⟩
      · rw [sc_eq h.pv hc] at ht' hl
        rcases hl with ⟨q1, q2⟩ | ⟨q1, q2⟩
        · exact .inr ⟨pl', _, q2, ht'.sub.2, rfl, hc, rfl, ht', q1⟩
        · exact .inl ⟨0, q2, rfl, .inr ⟨hc, rfl, fun j hj => by have h1 := ended_of ht' q1 j hj; have h2 := hle j hj; omega⟩⟩
  · rintro e w' ⟨fd', hs, htn, ⟨er, rfl, hov, rfl, ha⟩ | ⟨pl', F', rfl, hms, hvl, rfl, hc, rfl, ht', hsm⟩⟩
    · refine ⟨htn, hs, ?_⟩
      rcases ha with ⟨hc, rfl⟩ | ⟨hc, rfl, hend⟩
      · exact .inl ⟨hc, rfl, hov⟩
      · exact .inr ⟨hc, .inr ⟨hend, rfl, hov⟩⟩
    · have hb := best_of ht' hsm
      refine ⟨htn, hs, .inr ⟨hc, .inl ⟨pl' 0, hb, ?_, ⟨hs, ⟨pl', hms, ht', rfl⟩, hb.2.1, hle⟩⟩⟩⟩
      have e1 : (scP B gf (upP pos v) (pl' 0)).th = (B (pl' 0)).ts.getD (upP pos v (pl' 0)) th0 := by unfold scP; rw [if_pos hb.2.1]
      rw [e1]
/-- Sources that have not been asked yet. -/
def Fresh (B : Nat → Fd) (n : Nat) : Prop := ∀ j, j < n → (B j).at_ = 0 ∧ (B j).asks = 0 ∧ (B j).over = false ∧ (B j).bad = false
def sc1 (gf : Nat → Nat) : Nat → Sc := fun j => ⟨feedV (gf j), th0, false⟩
theorem MS.congr {w : World} {gm gs n : Nat} {pl : Nat → Nat} {bg ov : Bool} {er : Int} {F F' : Nat → Sc} (h : MS w gm gs n pl bg ov er F) (e : ∀ j, j < n → F' j = F j) : MS w gm gs n pl bg ov er F' := by
  obtain ⟨cur, h0, h1, h2⟩ := h.s
  exact ⟨h.m, ⟨cur, h0, h1, fun j hj => by rw [e j hj]; exact h2 j hj⟩, h.ne, h.n64⟩
theorem FSt.congr {w : World} {n : Nat} {gf : Nat → Nat} {fd fd' : Nat → Fd} {gm gs : Nat} (h : FSt w n gf fd gm gs) (e : ∀ j, j < n → fd' j = fd j) : FSt w n gf fd' gm gs :=
  ⟨fun j hj => by rw [e j hj]; exact h.fb j hj, fun j hj => by rw [e j hj]; exact h.rd j hj, fun j hj => by rw [e j hj]; exact h.ap j hj, h.inj, h.far, fun j hj => by rw [e j hj]; exact h.len j hj, fun j hj => by rw [e j hj]; exact h.asks j hj⟩
theorem ah_congr {F F' : Nat → Sc} {n : Nat} (e : ∀ j, j < n → F' j = F j) (a b : Nat) (ha : a < n) (hb : b < n) : ah F' a b = ah F a b := by unfold ah; rw [e a ha, e b hb]
def pos0 : Nat → Nat := fun _ => 0
theorem first_cod {B : Nat → Fd} {n : Nat} {gf : Nat → Nat} (hf : Fresh B n) (j : Nat) (hj : j < n) : codeA (sc1 gf j) (B j) = if 0 < (B j).ts.length then 0 else (B j).fin := by
  obtain ⟨h1, _⟩ := hf j hj
  unfold codeA sc1
  rw [h1]
  simp
theorem first_fd {B : Nat → Fd} {n : Nat} (hf : Fresh B n) (j : Nat) (hj : j < n) : (B j).next = fdP B pos0 j := by
  obtain ⟨h1, h2, h3, h4⟩ := hf j hj
  unfold Fd.next fdP pos0
  by_cases q : 0 < (B j).ts.length
  · have e1 : min (0 + 1) (B j).ts.length = 1 := by omega
    have e2 : decide (0 = (B j).ts.length) = false := by rw [decide_eq_false_iff_not]; omega
    rw [h1, if_pos q, h2, h3, h4, e1, e2]
    rfl
  · have e0 : (B j).ts.length = 0 := by omega
    have e1 : min (0 + 1) (B j).ts.length = 0 := by omega
    have e2 : decide (0 = (B j).ts.length) = true := by rw [decide_eq_true_eq]; omega
    rw [h1, if_neg q, h2, h3, h4, e1, e2]
    rfl
theorem first_sc {B : Nat → Fd} {n : Nat} {gf : Nat → Nat} (hf : Fresh B n) (j : Nat) (hj : j < n) (hc : codeA (sc1 gf j) (B j) = 0) : srcA (sc1 gf j) (B j) = scP B gf pos0 j := by
  rw [first_cod hf j hj] at hc
  obtain ⟨h1, _⟩ := hf j hj
  unfold srcA sc1 scP pos0
  rw [h1]
  by_cases q : 0 < (B j).ts.length
  · simp [q]
  · rw [if_neg q] at hc
    simp [q, hc]
end Go.Proofs.Ytcnfkgmefikcjaa.Me
