/-
  One source answers an error: what is told ahead of it.
-/
import Derived.Test.YtiepinhkmcjmkaaMeHead
import Derived.Test.YtiepinhkmcjmkaaMeSort
namespace Go.Proofs.Ytiepinhkmcjmkaa.Me
open Go.Proofs.Ytiepinhkmcjmkaa.Base
set_option linter.unusedVariables false
/-- The source wh is cut behind c things, and ends with the error 77. -/
structure Brk (B B' : Nat → Fd) (n wh c : Nat) : Prop where
  lo : wh < n
  oth : ∀ j, j < n → j ≠ wh → (B' j).ts = (B j).ts ∧ (B' j).fin = (B j).fin
  ts : (B' wh).ts = (B wh).ts.take c
  fin : (B' wh).fin = 77
  le : c ≤ (B wh).ts.length
theorem Brk.len {B B' : Nat → Fd} {n wh c : Nat} (h : Brk B B' n wh c) : (B' wh).ts.length = c := by rw [h.ts, List.length_take, Nat.min_eq_left h.le]
theorem Brk.at {B B' : Nat → Fd} {n wh c : Nat} (h : Brk B B' n wh c) (j i : Nat) (hj : j < n) (hi : i < (B' j).ts.length) : (B' j).ts.getD i th0 = (B j).ts.getD i th0 := by
  by_cases e : j = wh
  · subst e
    rw [h.len] at hi
    rw [h.ts, List.getD_eq_getElem?_getD, List.getElem?_take_of_lt hi, List.getD_eq_getElem?_getD]
  · rw [(h.oth j hj e).1]
theorem Brk.lt {B B' : Nat → Fd} {n wh c : Nat} (h : Brk B B' n wh c) (j i : Nat) (hj : j < n) (hi : i < (B' j).ts.length) : i < (B j).ts.length := by
  by_cases e : j = wh
  · subst e
    rw [h.len] at hi
    exact Nat.lt_of_lt_of_le hi h.le
  · rw [(h.oth j hj e).1] at hi; exact hi
theorem Brk.best {B B' : Nat → Fd} {n wh c : Nat} (h : Brk B B' n wh c) {pos : Nat → Nat} {v : Nat} (hp : pos wh < c) (hb : Best B' n pos v) : Best B n pos v := by
  have hv : keyP B' pos v = keyP B pos v := by unfold keyP; rw [h.at v _ hb.1 hb.2.1]
  refine ⟨hb.1, h.lt v _ hb.1 hb.2.1, fun j hj hl => ?_⟩
  have hl' : pos j < (B' j).ts.length := by
    by_cases e : j = wh
    · subst e; rw [h.len]; exact hp
    · rw [(h.oth j hj e).1]; exact hl
  have q := hb.2.2 j hj hl'
  have hk : keyP B' pos j = keyP B pos j := by unfold keyP; rw [h.at j _ hj hl']
  rw [hv, hk] at q
  exact q
theorem Brk.cod {B B' : Nat → Fd} {n wh c : Nat} (h : Brk B B' n wh c) (ht : Tidy B n) {pos : Nat → Nat} {v : Nat} (hv : v < n) (hp : pos v < (B' v).ts.length) : (codP B' pos v = 0 ∧ (v = wh → pos v + 1 < c)) ∨ (codP B' pos v = 77 ∧ v = wh ∧ pos v + 1 = c) := by
  unfold codP
  by_cases q : pos v + 1 < (B' v).ts.length
  · left
    have hs := ht.srt v hv (pos v) (pos v + 1) (by omega) (h.lt v _ hv q)
    unfold thAt at hs
    refine ⟨?_, fun e => by subst e; rw [h.len] at q; exact q⟩
    rw [if_pos q]
    unfold keyP
    rw [h.at v _ hv q, h.at v _ hv hp, if_neg (by omega)]
  · rw [if_neg q]
    by_cases e : v = wh
    · subst e
      right
      rw [h.len] at q hp
      exact ⟨h.fin, rfl, by omega⟩
    · left
      rw [(h.oth v hv e).2]
      exact ⟨ht.fin v hv, fun e2 => absurd e2 e⟩
/-- From places ahead of the error on. -/
theorem Brk.run {B B' : Nat → Fd} {n wh c : Nat} (h : Brk B B' n wh c) (ht : Tidy B n) {pos : Nat → Nat} {L : List Th} {e : Int} (r : Run B' n pos L e) : pos wh < c → ∀ W x, Run B n pos W x → e = 77 ∧ 0 < L.length ∧ L.length ≤ W.length ∧ (∀ i, i < L.length → L.getD i th0 = W.getD i th0) ∧ L.getD (L.length - 1) th0 = (B wh).ts.getD (c - 1) th0 := by
  induction r using Run.ind with
  | stop pos hs =>
    intro hp
    have := hs wh h.lo
    rw [h.len] at this
    omega
  | err pos v hb hc =>
    intro hp W x hW
    have hbb := h.best hp hb
    rcases h.cod ht hb.1 hb.2.1 with ⟨q, _⟩ | ⟨q, rfl, q2⟩
    · exact absurd q hc
    · rw [q]
      rcases hW.inv with ⟨_, _, hs⟩ | ⟨u, hb', hc', _⟩ | ⟨u, W1, hb', hc', _, rfl⟩
      · have := hs v hbb.1; have := hbb.2.1; omega
      · exact absurd (ht.cod hb'.1 hb'.2.1) hc'
      · obtain rfl := hbb.uniq hb'
        refine ⟨rfl, by simp, by simp, fun i hi => ?_, ?_⟩
        · obtain rfl : i = 0 := by simpa using hi
          exact h.at v _ hb.1 hb.2.1
        · show (B' v).ts.getD (pos v) th0 = _
          rw [h.at v _ hb.1 hb.2.1, ← q2]
          rfl
  | more pos v L e hb hc _ ih =>
    intro hp W x hW
    have hbb := h.best hp hb
    have hup : upP pos v wh < c := by
      unfold upP
      by_cases q : wh = v
      · rw [if_pos q]
        rcases h.cod ht hb.1 hb.2.1 with ⟨_, q2⟩ | ⟨q2, _⟩
        · rw [q]; exact q2 q.symm
        · rw [hc] at q2; cases q2
      · rw [if_neg q]; exact hp
    rcases hW.inv with ⟨_, _, hs⟩ | ⟨u, hb', hc', _⟩ | ⟨u, W1, hb', hc', hW1, rfl⟩
    · have := hs v hbb.1; have := hbb.2.1; omega
    · exact absurd (ht.cod hb'.1 hb'.2.1) hc'
    · obtain rfl := hbb.uniq hb'
      obtain ⟨h1, h2, h3, h4, h5⟩ := ih hup W1 x hW1
      refine ⟨h1, by simp, by simp; omega, fun i hi => ?_, ?_⟩
      · match i, hi with
        | 0, _ => exact h.at v _ hb.1 hb.2.1
        | i + 1, hi => exact h4 i (by simpa using hi)
      · rw [← h5, List.length_cons, Nat.add_sub_cancel]
        obtain ⟨m, hm⟩ : ∃ m, L.length = m + 1 := ⟨L.length - 1, by omega⟩
        rw [hm, Nat.add_sub_cancel]
        rfl
/-- All of it. -/
theorem Brk.runs {B B' : Nat → Fd} {n wh c : Nat} (h : Brk B B' n wh c) (ht : Tidy B n) {L W : List Th} {e x : Int} (r : Runs B' n L e) (k : Runs B n W x) : e = 77 ∧ (c = 0 → L.length = 0) ∧ (0 < c → 0 < L.length ∧ L.length ≤ W.length ∧ (∀ i, i < L.length → L.getD i th0 = W.getD i th0) ∧ L.getD (L.length - 1) th0 = (B wh).ts.getD (c - 1) th0) := by
  rcases r with ⟨m, h1, h2, h3, _, rfl, rfl⟩ | ⟨hok, r⟩
  · by_cases e : m = wh
    · subst e
      rw [h.len] at h2
      exact ⟨h.fin, fun _ => rfl, fun q => by omega⟩
    · rw [(h.oth m h1 e).2] at h3
      exact absurd (ht.fin m h1) h3
  · have hc : 0 < c := by
      rcases hok wh h.lo with q | q
      · rw [h.len] at q; exact q
      · rw [h.fin] at q; cases q
    rcases k with ⟨m, h1, h2, h3, _⟩ | ⟨_, k⟩
    · exact absurd (ht.fin m h1) h3
    · obtain ⟨q1, q2, q3, q4, q5⟩ := h.run ht r hc W x k
      exact ⟨q1, fun q => by omega, fun _ => ⟨q2, q3, q4, q5⟩⟩
end Go.Proofs.Ytiepinhkmcjmkaa.Me
