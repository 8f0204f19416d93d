/-
  One cell of one element written over.
-/
import Derived.Test.YtgpfabblmoffiaaDoorRowF
namespace Go.Proofs.YtgpfabblmoffiaaDoor.Rf
open Go.ChangeShapes Go.WideShapes Go.ChangeAt Go.RowKit
open Go.Proofs.YtgpfabblmoffiaaDoor.Base
set_option linter.unusedVariables false
theorem setF_len {f : Nat → List Value} {z : Nat} (hf : ∀ k, (f k).length = z) (k : Nat) (x : List Value) (hx : x.length = z) : ∀ j, (setF f k x j).length = z := fun j => by unfold setF; by_cases e : j = k <;> simp [e, hf, hx]
theorem fcells_set {f : Nat → List Value} {z : Nat} (hf : ∀ k, (f k).length = z) (n k j : Nat) (v : Value) (hk : k < n) (hj : j < z) : (fcells f n).set (k * z + j) v = fcells (setF f k ((f k).set j v)) n := by
  have hs := setF_len hf k ((f k).set j v) (by rw [List.length_set, hf])
  have hkz : k * z + j < n * z := by
    have : (k + 1) * z ≤ n * z := Nat.mul_le_mul_right z (by omega)
    rw [Nat.succ_mul] at this
    omega
  apply List.ext_getElem?
  intro i
  by_cases hi : i < n * z
  · have hz : 0 < z := by omega
    have e : i = i / z * z + i % z := by rw [Nat.mul_comm]; exact (Nat.div_add_mod i z).symm
    have h1 : i / z < n := Nat.div_lt_of_lt_mul (by rw [Nat.mul_comm]; exact hi)
    have h2 : i % z < z := Nat.mod_lt _ hz
    obtain ⟨q, hq⟩ : ∃ q, i / z = q := ⟨_, rfl⟩
    obtain ⟨r, hr⟩ : ∃ r, i % z = r := ⟨_, rfl⟩
    rw [hq] at e h1
    rw [hr] at e h2
    subst e
    rw [fcells_get hs n q r h1 h2, List.getElem?_set]
    unfold setF
    by_cases e1 : q = k
    · subst e1
      rw [if_pos rfl, List.getElem?_set]
      by_cases e2 : j = r
      · subst e2
        rw [if_pos rfl, if_pos rfl, if_pos (by rw [fcells_len hf]; exact hkz), if_pos (by rw [hf]; exact hj)]
      · rw [if_neg (by omega), if_neg e2, fcells_get hf n q r h1 h2]
    · have e3 : ¬ k * z + j = q * z + r := by
        intro e4
        apply e1
        have a1 : (k * z + j) / z = k := by rw [Nat.mul_comm, Nat.mul_add_div hz, Nat.div_eq_of_lt hj, Nat.add_zero]
        have a2 : (q * z + r) / z = q := by rw [Nat.mul_comm, Nat.mul_add_div hz, Nat.div_eq_of_lt h2, Nat.add_zero]
        rw [← a1, ← a2, e4]
      rw [if_neg e3, if_neg e1, fcells_get hf n q r h1 h2]
  · rw [List.getElem?_eq_none (by rw [List.length_set, fcells_len hf]; omega), List.getElem?_eq_none (by rw [fcells_len hs]; omega)]
theorem OwnF.store {w : World} {base t z g n c : Nat} {m : Nat} {f : Nat → List Value} (h : OwnF w base t z (.slice (some ⟨g, 0, none⟩) m c) n f) (hf : ∀ k, (f k).length = z) (k j : Nat) (v : Value) (hk : k < n) (hj : j < z) :
    OwnF (w.setCell ⟨g, k * z + j, none⟩ v) base t z (.slice (some ⟨g, 0, none⟩) m c) n (setF f k ((f k).set j v)) ∧ w.grownBy (w.setCell ⟨g, k * z + j, none⟩ v) (some g) := by
  have hn : m = n := by
    rcases h.2 with ⟨h1, _⟩ | ⟨_, _, _, h1, _⟩
    · simp at h1
    · simp at h1; exact h1.2.1
  subst hn
  have h1 := World.ownsRow.stored h (k * z + j) v
  exact ⟨ownf_of h1.1 rfl (fcells_set hf m k j v hk hj), h1.2⟩
/-- An element of two cells written over. -/
theorem OwnF.store2 {w : World} {base t g n c : Nat} {m : Nat} {f : Nat → List Value} (h : OwnF w base t 2 (.slice (some ⟨g, 0, none⟩) m c) n f) (hf : ∀ k, (f k).length = 2) (k : Nat) (x y : Value) (hk : k < n) :
    OwnF ((w.setCell ⟨g, k * 2, none⟩ x).setCell ⟨g, k * 2 + 1, none⟩ y) base t 2 (.slice (some ⟨g, 0, none⟩) m c) n (setF f k [x, y]) ∧ w.grownBy ((w.setCell ⟨g, k * 2, none⟩ x).setCell ⟨g, k * 2 + 1, none⟩ y) (some g) := by
  obtain ⟨h1, g1⟩ := h.store hf k 0 x hk (by omega)
  rw [Nat.add_zero] at h1 g1
  obtain ⟨h2, g2⟩ := h1.store (setF_len hf k _ (by rw [List.length_set, hf])) k 1 y hk (by omega)
  refine ⟨h2.congr (fun i hi => ?_), grown_trans g1 g2⟩
  have hl := hf k
  unfold setF
  by_cases e : i = k
  · rw [if_pos e, if_pos e, if_pos rfl]
    match hx : f k, hl with
    | [p, q], _ => rfl
  · rw [if_neg e, if_neg e, if_neg e]
end Go.Proofs.YtgpfabblmoffiaaDoor.Rf
