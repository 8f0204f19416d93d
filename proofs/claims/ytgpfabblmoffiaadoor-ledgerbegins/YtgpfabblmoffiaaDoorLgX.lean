/-
  What the laws' walks share: a book turned round, lengths of what is answered, carrying.
-/
import Derived.Test.YtgpfabblmoffiaaDoorLgT
import Derived.Test.YtgpfabblmoffiaaDoorLgQ2
import Derived.Test.YtgpfabblmoffiaaDoorLgO
namespace Go.Proofs.YtgpfabblmoffiaaDoor.Lg
open Go.ChangeShapes Go.WideShapes Go.ChangeAt Go.RowKit
open Go.Proofs.YtgpfabblmoffiaaDoor.Base Go.Proofs.YtgpfabblmoffiaaDoor.Rf
set_option linter.unusedVariables false
def revB (b : Bk) : Bk := ⟨b.t, b.m.reverse, b.r.reverse, b.f⟩
theorem put_len (b : Bk) (K i : Int) (x : TS) (f : Bool) : (put b K i x f).m.length = b.m.length ∧ (put b K i x f).r.length = b.r.length := by
  unfold put
  by_cases h : K = 0 <;> simp [h]
def Short (b : Bk) : Prop := b.m.length ≤ 1000000000 ∧ b.r.length ≤ 1000000000
theorem short_nob : Short nob := ⟨by simp [nob], by simp [nob]⟩
theorem short_put {b : Bk} (h : chk b = true) (K i : Int) (x : TS) (f : Bool) : Short (put b K i x f) := by
  have hok := chk_ok h
  obtain ⟨h1, h2⟩ := put_len b K i x f
  have := hok.m
  have := hok.r2
  exact ⟨by omega, by omega⟩
theorem chk_ref {b : Bk} {K i : Int} (h : refE b K i = 0) : chk b = true := by
  rcases Bool.eq_false_or_eq_true (chk b) with h2 | h2
  · exact h2
  · rw [refE_bad h2] at h; omega
theorem chk_end {b : Bk} {K i : Int} (h : endE b K i = 0) : chk b = true := by
  by_cases h2 : refE b K i = 0
  · exact chk_ref h2
  · rw [endE_ref h2] at h; exact absurd h h2
theorem short_dne (b : Bk) (K i : Int) : Short (dneB b K i) := by
  unfold dneB
  by_cases h : endE b K i = 0
  · rw [if_pos h]; exact short_put (chk_end h) _ _ _ _
  · rw [if_neg h]; exact short_nob
theorem short_die (b : Bk) (K i : Int) : Short (dieB b K i) := by
  unfold dieB chg
  by_cases h : endE b K i = 0
  · rw [if_pos h]; exact short_put (chk_end h) _ _ _ _
  · rw [if_neg h]; exact short_nob
theorem Rv.below {w w' : World} {base g : Nat} {L : List TS} (h : Rv w base g L) (hb : Below w.heap.size w w') : Rv w' base g L := TF.below h hb
theorem Rv.kp {w w' : World} {base g : Nat} {L : List TS} {S : Nat → Prop} (h : Rv w base g L) (k : Kp S w w') (hS : ¬ S g) : Rv w' base g L := TF.kp h k hS
theorem Rv.lt {w : World} {base g : Nat} {L : List TS} (h : Rv w base g L) : base ≤ g ∧ g < w.heap.size := TF.lt h
theorem Rm.lt {w : World} {base g : Nat} {L : List TS} (h : Rm w base g L) : base ≤ g ∧ g < w.heap.size := TF.lt h
/-- A roomy book as it is handed in. -/
theorem Rm.inn {w : World} {b : Bk} {B1 B2 g1 g2 n1 n2 : Nat} (h1 : Rm w B1 g1 b.m) (h2 : Rm w B2 g2 b.r) (l1 : b.m.length = n1) (l2 : b.r.length = n2) (s1 : n1 ≤ 5864062014634) (s2 : n2 ≤ 5864062014634) : Inn w b (some ⟨g1, 0, none⟩) n1 (n1 + 64) (some ⟨g2, 0, none⟩) n2 (n2 + 64) :=
  ⟨h1.rdt l1 (by omega), h2.rdt l2 (by omega), (fun e => nomatch e), (fun e => nomatch e)⟩
theorem Rv.inn {w : World} {b : Bk} {B1 B2 g1 g2 n1 n2 : Nat} (h1 : Rv w B1 g1 b.m) (h2 : Rv w B2 g2 b.r) (l1 : b.m.length = n1) (l2 : b.r.length = n2) (s1 : n1 ≤ 5864062014634) (s2 : n2 ≤ 5864062014634) : Inn w (revB b) (some ⟨g1, 0, none⟩) n1 (n1 + 64) (some ⟨g2, 0, none⟩) n2 (n2 + 64) :=
  ⟨h1.rdt l1 s1, h2.rdt l2 s2, (fun e => nomatch e), (fun e => nomatch e)⟩
theorem Tab.ge {w w' : World} (h : Tab w) (hb : Below w.heap.size w w') : Tab w' := h.below hb
end Go.Proofs.YtgpfabblmoffiaaDoor.Lg
