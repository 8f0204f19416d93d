/-
  Texts that are handed in: how long each is.
-/
import Derived.Test.YtmndjgmlndpgaaaDoorFiTexts
import Derived.Test.YtmndjgmlndpgaaaDoorFiOpen
namespace Go.Proofs.YtmndjgmlndpgaaaDoor.Filt
open Go.ChangeShapes Go.WideShapes Go.ChangeAt Go.RowKit
set_option linter.unusedVariables false
theorem weightsAll_mem {H : Type} {P : Program} {e : TypeId} {d : DataW H} {l : List (DataW H)} (hd : d ∈ l) : ∀ n ∈ d.weights P e, n ∈ DataW.weightsAll P e l := by
  induction l with
  | nil => cases hd
  | cons x r ih =>
    intro n hn
    rw [DataW.weightsAll, List.mem_append]
    rcases List.mem_cons.1 hd with rfl | h
    · exact .inl hn
    · exact .inr (ih h n hn)
theorem sized_strs {H : Type} {P : Program} {ts : List TypeId} {ds : List (DataW H)} (h : (DataW.weightsEach P ts ds).all (· ≤ reachBytes) = true) {j : Nat} {t e : TypeId} {elems spare : List (DataW H)} (ht : ts[j]? = some t) (hd : ds[j]? = some (.slice elems spare)) (hu : P.underlying t = some (.slice e)) {bytes : List UInt8} (hm : DataW.lit (.string bytes) ∈ elems) : bytes.length ≤ reachBytes := by
  have h1 : bytes.length ∈ DataW.weightsAll P e elems := weightsAll_mem hm bytes.length (by simp [DataW.weights])
  have := List.all_eq_true.1 h _ (DataW.weights_mem_each ht hd bytes.length (by
    rw [DataW.weights, hu]
    exact List.mem_cons_of_mem _ (List.mem_append.2 (.inl h1))))
  simpa using this
theorem fb_ne_owns {w : World} {base p : Nat} {v : Value} {ss : List ByteArray} {A : Bool} {H : Int} {u : Value} (hf : FB w p A H u) (h : OwnS w base v ss) : v.ownBlock ≠ some p := by
  intro e
  rcases h.2 with ⟨h1, _⟩ | ⟨g', c', cur, h1, _, h3, _⟩
  · rw [h1] at e; cases e
  · rw [h1] at e
    have e4 : g' = p := Option.some.inj e
    rw [e4, hf] at h3
    simp only [Option.some.injEq, Obj.cells.injEq] at h3
    exact absurd h3.2.1 (by decide)
theorem keepS {w w' : World} {base : Nat} {v : Value} {ss : List ByteArray} {q : Option Nat} (h : OwnS w base v ss) (hg : w.grownBy w' q) (hne : ∀ i j, v.ownBlock = some i → q = some j → i ≠ j) : OwnS w' base v ss := by
  refine World.ownsRow.kept (row := q) h hg ?_
  cases hv : v.ownBlock with
  | none => exact .inl rfl
  | some i => exact .inr (fun e => hne i i hv e.symm rfl)
theorem OwnS.lt' {w : World} {base g n cap : Nat} {ss : List ByteArray} (h : OwnS w base (.slice (some ⟨g, 0, none⟩) n cap) ss) : base ≤ g ∧ g < w.heap.size := World.ownsRow.lt h g rfl
/-- The texts ahead of the marks. -/
theorem texts_rds {w : World} {base g len : Nat} {ss : List ByteArray} (h : OwnS w base (.slice (some ⟨g, 0, none⟩) (len + 64) (len + 64)) (ss ++ marksS)) (hl : ss.length = len) (hm : len ≤ 8796093021952) (hs : ∀ s ∈ ss, s.size ≤ 9223372036854775807) : RdS w (some ⟨g, 0, none⟩) len ss := by
  have hall : ∀ s ∈ ss ++ marksS, s.size ≤ 9223372036854775807 := by
    intro s hs2
    rcases List.mem_append.1 hs2 with h1 | h1
    · exact hs s h1
    · have : s = markS := by unfold marksS at h1; exact List.eq_of_mem_replicate h1
      rw [this]; decide
  have h1 := (h.rds (by rw [List.length_append, hl]; unfold marksS; rw [List.length_replicate]; omega) hall).cut len (by omega)
  rw [← hl, List.take_left] at h1
  rw [← hl]; exact h1
theorem texts_all {w : World} {base g len : Nat} {ss : List ByteArray} (h : OwnS w base (.slice (some ⟨g, 0, none⟩) (len + 64) (len + 64)) (ss ++ marksS)) (hl : ss.length = len) (hm : len ≤ 8796093021952) (hs : ∀ s ∈ ss, s.size ≤ 9223372036854775807) : RdS w (some ⟨g, 0, none⟩) (len + 64) (ss ++ marksS) := by
  refine h.rds (by rw [List.length_append, hl]; unfold marksS; rw [List.length_replicate]; omega) ?_
  intro s hs2
  rcases List.mem_append.1 hs2 with h1 | h1
  · exact hs s h1
  · have : s = markS := by unfold marksS at h1; exact List.eq_of_mem_replicate h1
    rw [this]; decide
theorem addz_size (s : ByteArray) : (addz s).size = s.size + 1 := by unfold addz; simp; rfl
end Go.Proofs.YtmndjgmlndpgaaaDoor.Filt
