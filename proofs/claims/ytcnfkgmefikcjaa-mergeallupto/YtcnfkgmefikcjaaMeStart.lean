/-
  The first Next of a merge.
-/
import Derived.Test.YtcnfkgmefikcjaaMeLive
namespace Go.Proofs.Ytcnfkgmefikcjaa.Me
open Go.ChangeShapes Go.WideShapes Go.ChangeAt Go.RowKit
open Go.Proofs.Ytcnfkgmefikcjaa.Base
set_option linter.unusedVariables false
/-- A merge as New makes it. -/
structure Newly (w : World) (gm gs n : Nat) (gf : Nat → Nat) (B : Nat → Fd) : Prop where
  fs : FSt w n gf B gm gs
  ms : ∃ pl, MS w gm gs n pl false false 0 (sc1 gf)
  fr : Fresh B n
def okF (B : Nat → Fd) (j : Nat) : Prop := 0 < (B j).ts.length ∨ (B j).fin = 0
theorem ok_cod {B : Nat → Fd} {n : Nat} {gf : Nat → Nat} (hf : Fresh B n) (j : Nat) (hj : j < n) : codeA (sc1 gf j) (B j) = 0 ↔ okF B j := by
  rw [first_cod hf j hj]
  unfold okF
  by_cases q : 0 < (B j).ts.length
  · simp [q]
  · rw [if_neg q]
    constructor
    · intro h; exact .inr h
    · intro h
      rcases h with h | h
      · exact absurd h q
      · exact h
theorem bad_cod {B : Nat → Fd} {n : Nat} {gf : Nat → Nat} (hf : Fresh B n) (j : Nat) (hj : j < n) (h : codeA (sc1 gf j) (B j) ≠ 0) : (B j).ts.length = 0 ∧ (B j).fin ≠ 0 ∧ codeA (sc1 gf j) (B j) = (B j).fin := by
  rw [first_cod hf j hj] at h ⊢
  by_cases q : 0 < (B j).ts.length
  · rw [if_pos q] at h; exact absurd rfl h
  · rw [if_neg q] at h ⊢
    exact ⟨by omega, h, rfl⟩
/-- What the first Next leaves. -/
def Begun (w w' : World) (e : Ending) (gm gs n : Nat) (gf : Nat → Nat) (B : Nat → Fd) : Prop :=
  (∃ m, m < n ∧ (B m).ts.length = 0 ∧ (B m).fin ≠ 0 ∧ (∀ j, j < m → okF B j) ∧ e = .returned (.tuple #[th0.val, .bool false, .int .i64 (B m).fin]) ∧ OV w' gm (B m).fin ∧ FSt w' n gf (nexts B (m + 1)) gm gs ∧ Tn w w' (All n gm gs gf)) ∨ ((∀ j, j < n → okF B j) ∧ Told w w' e gm gs n gf B pos0 0)
theorem next_first (gm gs n : Nat) (gf : Nat → Nat) (B : Nat → Fd) (w : World) (h : Newly w gm gs n gf B) :
    Calls Try.prog 7 #[.pointer (some ⟨gm, 0, none⟩)] w fun e w' => Begun w w' e gm gs n gf B := by
  obtain ⟨pl, hm⟩ := h.ms
  have hf := h.fr
  refine (next_by gm gs n gf B (fun fd' er => (∃ m, m < n ∧ (B m).ts.length = 0 ∧ (B m).fin ≠ 0 ∧ (∀ j, j < m → okF B j) ∧ er = (B m).fin ∧ fd' = nexts B (m + 1)) ∨ ((∀ j, j < n → okF B j) ∧ (∀ j, j < n → fd' j = fdP B pos0 j) ∧ er = 0 ∧ ∀ j, j < n → pos0 j = (B j).ts.length)) (fun fd' pl' F' => (∀ j, j < n → okF B j) ∧ (∀ j, j < n → fd' j = fdP B pos0 j) ∧ (∀ j, j < n → F' j = scP B gf pos0 j) ∧ T n (ah (scP B gf pos0)) pl' 1 (pl' 0) ∧ (scP B gf pos0 (pl' 0)).some = true) w h.fs hm.m.lt hm.s.lt hm.m.cells.2.2.2.1 (fun W hb => ?_)).mono ?_
  · refine (advance_first gm gs n gf B (sc1 gf) pl W (hm.below hb) (h.fs.turned (Tn.of_below _ hb)) (fun j hj => rfl) (fun j hj => by rw [(hf j hj).2.1]; omega)).mono ?_
    rintro e W' ⟨rfl, m, hmn, hs, htn, ho⟩
    refine ⟨rfl, htn, nexts B m, hs, fun j hj => ?_, ?_⟩
    · unfold nexts
      by_cases q : j < m
      · rw [if_pos q]; exact ⟨(next_ts _).2, (next_ts _).1⟩
      · rw [if_neg q]; exact ⟨rfl, rfl⟩
    · rcases ho with ⟨hm0, hc, hz, hov⟩ | ⟨rfl, hz, hl⟩
      · obtain ⟨b1, b2, b3⟩ := bad_cod hf (m - 1) (by omega) hc
        rw [b3] at hov
        refine .inl ⟨_, hov, .inl ⟨m - 1, by omega, b1, b2, fun j hj => (ok_cod hf j (by omega)).1 (hz j hj), rfl, ?_⟩⟩
        rw [Nat.sub_add_cancel hm0]
      · have hok : ∀ j, j < m → okF B j := fun j hj => (ok_cod hf j hj).1 (hz j hj)
        have hfd : ∀ j, j < m → nexts B m j = fdP B pos0 j := fun j hj => by unfold nexts; rw [if_pos hj]; exact first_fd hf j hj
        have hsc : ∀ j, j < m → scP B gf pos0 j = ups (sc1 gf) B m j := fun j hj => by unfold ups; rw [if_pos hj]; exact (first_sc hf j hj (hz j hj)).symm
        rcases hl with ⟨hn0, hov⟩ | ⟨hn0, pl', ht', hl⟩
        · exact .inl ⟨0, hov, .inr ⟨hok, hfd, rfl, fun j hj => absurd hj (by omega)⟩⟩
        · have ht2 : T m (ah (scP B gf pos0)) pl' 1 (pl' 0) := ht'.frame (fun _ _ => rfl) (fun a b _ _ ha hb => ah_congr hsc a b ha hb)
          rw [← hsc (pl' 0) ht'.sub.2] at hl
          rcases hl with ⟨q1, q2⟩ | ⟨q1, q2⟩
          · exact .inr ⟨pl', _, q2, ht'.sub.2, hok, hfd, fun j hj => (hsc j hj).symm, ht2, q1⟩
          · exact .inl ⟨0, q2, .inr ⟨hok, hfd, rfl, fun j hj => by have h1 := ended_of ht2 q1 j hj; unfold pos0 at h1 ⊢; omega⟩⟩
  · rintro e w' ⟨fd', hs, htn, ⟨er, rfl, hov, ha⟩ | ⟨pl', F', rfl, hms, hvl, hok, hfd, hsc, ht', hsm⟩⟩
    · rcases ha with ⟨m, h1, h2, h3, h4, rfl, rfl⟩ | ⟨hok, hfd, rfl, hend⟩
      · exact .inl ⟨m, h1, h2, h3, h4, rfl, hov, hs, htn⟩
      · exact .inr ⟨hok, htn, hs.congr (fun j hj => (hfd j hj).symm), .inr ⟨rfl, .inr ⟨hend, rfl, hov⟩⟩⟩
    · have hb := best_of ht' hsm
      have hs2 := hs.congr (fun j hj => (hfd j hj).symm)
      refine .inr ⟨hok, htn, hs2, .inr ⟨rfl, .inl ⟨pl' 0, hb, ?_, ⟨hs2, ⟨pl', hms.congr (fun j hj => (hsc j hj).symm), ht', rfl⟩, hb.2.1, fun j hj => Nat.zero_le _⟩⟩⟩⟩
      have e1 : (F' (pl' 0)).th = (B (pl' 0)).ts.getD (pos0 (pl' 0)) th0 := by rw [hsc _ hvl]; unfold scP; rw [if_pos hb.2.1]
      rw [e1]
end Go.Proofs.Ytcnfkgmefikcjaa.Me
