/-
  A list of records that is handed in: its size, where sizes are within reach.
-/
import Derived.Test.YtlbplicafcoifaaSoOpenL
import Derived.ProofKit
namespace Go.Proofs.Ytlbplicafcoifaa.So
open Go.ChangeShapes Go.WideShapes Go.ChangeAt Go.RowKit Go.ChangeMaps Go.Deep
open Go.Proofs.Ytlbplicafcoifaa.Base
set_option linter.unusedVariables false
theorem weights_all {H : Type} {P : Program} {e : TypeId} {d : DataW H} {n : Nat} (hn : n ∈ d.weights P e) : ∀ {l : List (DataW H)}, d ∈ l → n ∈ DataW.weightsAll P e l
  | [], h => by cases h
  | x :: r, h => by
    unfold DataW.weightsAll
    rcases List.mem_cons.1 h with rfl | h
    · exact List.mem_append_left _ hn
    · exact List.mem_append_right _ (weights_all hn h)
theorem sized_recs {H : Type} {d : DataW H} {rs : List Rec} {len cap : Nat} (hw : ∀ z ∈ d.weights Try.prog 38, z ≤ reachBytes) (hl : len ≤ cap) (h : (d = .nil ∧ len = 0 ∧ cap = 0) ∨ ∃ elems spare, d = .slice elems spare ∧ elems.length + spare.length = cap ∧ ∀ r ∈ rs, recD H r ∈ elems) (hn : rs.length = len) :
    cap * 40 ≤ 140737488351232 ∧ Fine rs := by
  have hr : reachBytes = 140737488351232 := by decide
  rw [hr] at hw
  rcases h with ⟨_, h1, h2⟩ | ⟨elems, spare, h1, h2, h3⟩
  · refine ⟨by omega, fun r hr => ?_⟩
    have : rs = [] := List.length_eq_zero_iff.1 (by omega)
    subst this
    cases hr
  · subst h1
    unfold DataW.weights at hw
    rw [Try.underlying38] at hw
    refine ⟨?_, fun r hr => ?_⟩
    · have h4 := hw _ (List.mem_cons_self ..)
      rw [bytes_rec] at h4
      omega
    · have hin := h3 r hr
      have hk := hw r.k.data.toList.length (List.mem_cons_of_mem _ (List.mem_append_left _ (weights_all (by
        unfold recD DataW.weights
        rw [Try.underlying34]
        exact DataW.weights_mem_each (j := 1) (t := 9) (d := .lit (.string r.k.data.toList)) rfl rfl _ (by simp [DataW.weights])) hin)))
      have hv := hw r.v.data.toList.length (List.mem_cons_of_mem _ (List.mem_append_left _ (weights_all (by
        unfold recD DataW.weights
        rw [Try.underlying34]
        exact DataW.weights_mem_each (j := 2) (t := 9) (d := .lit (.string r.v.data.toList)) rfl rfl _ (by simp [DataW.weights])) hin)))
      rw [Array.length_toList] at hk hv
      have e1 : r.k.data.size = r.k.size := rfl
      have e2 : r.v.data.size = r.v.size := rfl
      rw [e1] at hk
      rw [e2] at hv
      exact ⟨by omega, by omega⟩
end Go.Proofs.Ytlbplicafcoifaa.So
