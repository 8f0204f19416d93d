/-
  Which entries have been told: by their places in the script.
-/
import Derived.Test.YtbmbhcjocgbbpaaFaComesM
namespace Go.Proofs.Ytbmbhcjocgbbpaa.Fa
set_option linter.unusedVariables false
/-- The places below n at which p holds. -/
def sel (p : Nat → Bool) (n : Nat) : List Nat := (List.range n).filter p
theorem sel_succ (p : Nat → Bool) (n : Nat) : sel p (n + 1) = sel p n ++ if p n = true then [n] else [] := by
  unfold sel
  rw [List.range_succ, List.filter_append]
  by_cases h : p n = true
  · rw [if_pos h]; simp [h]
  · rw [if_neg h]; simp [h]
theorem sel_congr {p q : Nat → Bool} {n : Nat} (h : ∀ i, i < n → p i = q i) : sel p n = sel q n := by
  unfold sel
  exact List.filter_congr (fun i hi => h i (List.mem_range.1 hi))
theorem sel_mem {p : Nat → Bool} {n i : Nat} : i ∈ sel p n ↔ i < n ∧ p i = true := by
  unfold sel
  rw [List.mem_filter, List.mem_range]
theorem sel_get (p : Nat → Bool) : ∀ n j, j < n → p j = true → (sel p n)[(sel p j).length]? = some j
  | 0, j, h, _ => by omega
  | n + 1, j, h, hp => by
    rw [sel_succ]
    by_cases e : j = n
    · subst e
      rw [if_pos hp, List.getElem?_append_right (Nat.le_refl _), Nat.sub_self]
      rfl
    · have ih := sel_get p n j (by omega) hp
      rw [List.getElem?_append_left (List.getElem?_eq_some_iff.1 ih).1]
      exact ih
theorem sel_rises (p : Nat → Bool) (n : Nat) : (sel p n).Pairwise (· < ·) := List.Pairwise.filter _ List.pairwise_lt_range
theorem sel_single (p : Nat → Bool) (k : Nat) : ∀ n, k < n → (∀ i, i < n → p i = decide (i = k)) → sel p n = [k]
  | 0, h, _ => by omega
  | n + 1, h, hp => by
    rw [sel_succ]
    by_cases e : k = n
    · subst e
      have h1 : sel p k = [] := by
        rw [List.eq_nil_iff_forall_not_mem]
        intro i hi
        obtain ⟨h2, h3⟩ := sel_mem.1 hi
        rw [hp i (by omega), decide_eq_false (by omega)] at h3
        cases h3
      rw [h1, if_pos (by rw [hp k (by omega)]; simp)]
      rfl
    · rw [sel_single p k n (by omega) (fun i hi => hp i (by omega)), if_neg (by rw [hp n (by omega), decide_eq_false (by omega)]; simp)]
      rfl
/-- The entries that have not been told. -/
def unt (fs : List Flt) (T : List Bool) : List Flt := (sel (fun i => !T.getD i true) fs.length).map (fun i => fs.getD i f0)
theorem unt_filter (fs : List Flt) (T : List Bool) (P : Flt → Bool) : (unt fs T).filter P = (sel (fun i => !T.getD i true && P (fs.getD i f0)) fs.length).map (fun i => fs.getD i f0) := by
  unfold unt
  rw [List.filter_map]
  congr 1
  unfold sel
  rw [List.filter_filter]
  apply List.filter_congr
  intro i _
  show (P (fs.getD i f0) && !T.getD i true) = _
  rw [Bool.and_comm]
theorem map_range_getD (fs : List Flt) : (List.range fs.length).map (fun i => fs.getD i f0) = fs := by
  apply List.ext_getElem?
  intro i
  by_cases h : i < fs.length
  · rw [List.getElem?_map, List.getElem?_range h, List.getElem?_eq_getElem h]
    simp [List.getD_eq_getElem?_getD, List.getElem?_eq_getElem h]
  · rw [List.getElem?_eq_none (by simp; omega), List.getElem?_eq_none (by omega)]
theorem unt_start (fs : List Flt) : unt fs (List.replicate fs.length false) = fs := by
  have h : sel (fun i => !(List.replicate fs.length false).getD i true) fs.length = List.range fs.length := by
    unfold sel
    rw [List.filter_eq_self]
    intro i hi
    have := List.mem_range.1 hi
    simp [List.getD_eq_getElem?_getD, this]
  unfold unt
  rw [h, map_range_getD]
theorem unt_len (fs : List Flt) (T : List Bool) : (unt fs T).length ≤ fs.length := by
  unfold unt sel
  rw [List.length_map]
  exact Nat.le_trans (List.length_filter_le _ _) (by simp)
theorem getD_set_true (T : List Bool) (k i : Nat) : (T.set k true).getD i true = (T.getD i true || decide (i = k)) := by
  simp only [List.getD_eq_getElem?_getD, List.getElem?_set]
  by_cases h : k = i
  · subst h
    by_cases h2 : k < T.length
    · simp [h2]
    · rw [if_pos rfl, if_neg h2]; simp
  · rw [if_neg h, decide_eq_false (fun e => h e.symm), Bool.or_false]
/-- All of these are told. -/
def setAll (T : List Bool) (I : List Nat) : List Bool := I.foldl (fun T i => T.set i true) T
theorem setAll_snoc (T : List Bool) (I : List Nat) (j : Nat) : setAll T (I ++ [j]) = (setAll T I).set j true := by unfold setAll; rw [List.foldl_append]; rfl
theorem setAll_get (I : List Nat) : ∀ (T : List Bool) (i : Nat), (setAll T I).getD i true = (T.getD i true || decide (i ∈ I)) := by
  induction I with
  | nil => intro T i; show T.getD i true = _; simp
  | cons j r ih =>
    intro T i
    show (setAll (T.set j true) r).getD i true = _
    rw [ih, getD_set_true, Bool.or_assoc]
    congr 1
    by_cases h : i = j
    · simp [h]
    · simp [h]
theorem setAll_len (I : List Nat) : ∀ T : List Bool, (setAll T I).length = T.length := by
  induction I with
  | nil => intro T; rfl
  | cons j r ih => intro T; show (setAll (T.set j true) r).length = _; rw [ih, List.length_set]
theorem not_nodupM {fs : List Flt} {i j : Nat} (hi : i < fs.length) (hj : j < i) (e : plc (fs.getD i f0) = plc (fs.getD j f0)) : ¬ (fs.map plc).Nodup := by
  intro h
  rw [List.Nodup, List.pairwise_iff_getElem] at h
  have hj' : j < fs.length := by omega
  apply h j i (by simpa using hj') (by simpa using hi) hj
  rw [List.getElem_map, List.getElem_map]
  rw [List.getD_eq_getElem?_getD, List.getElem?_eq_getElem hi, List.getD_eq_getElem?_getD, List.getElem?_eq_getElem hj'] at e
  exact e.symm
theorem apart_of {fs : List Flt} (hd : (fs.map plc).Nodup) {i j : Nat} (hi : i < fs.length) (hj : j < fs.length) (hne : i ≠ j) : plc (fs.getD i f0) ≠ plc (fs.getD j f0) := by
  intro e
  rcases Nat.lt_or_ge i j with h | h
  · have hh := not_nodupM hj h e.symm
    exact hh hd
  · have hh := not_nodupM hi (show j < i by omega) e
    exact hh hd
/-- What a stop that is told leaves. -/
theorem stop_found {fs : List Flt} {T : List Bool} (hd : (fs.map plc).Nodup) {x : P4} {f : Flt} {r : List Flt} (h : (unt fs T).filter (isStop x) = f :: r) :
    ∃ k, k < fs.length ∧ fs.getD k f0 = f ∧ T.getD k true = false ∧ plc f = x ∧ (∀ i, i < k → plc (fs.getD i f0) ≠ x) ∧ (unt fs T).filter (fun g => !isStop x g) = unt fs (T.set k true) ∧ r = [] := by
  rw [unt_filter] at h
  have hm : f ∈ (sel (fun i => !T.getD i true && isStop x (fs.getD i f0)) fs.length).map (fun i => fs.getD i f0) := by rw [h]; exact List.mem_cons_self ..
  obtain ⟨k, hk, hf⟩ := List.mem_map.1 hm
  obtain ⟨hk1, hk2⟩ := sel_mem.1 hk
  rw [Bool.and_eq_true] at hk2
  have hT : T.getD k true = false := by simpa using hk2.1
  have hpx : plc (fs.getD k f0) = x := isStop_true hk2.2
  have huniq : ∀ i, i < fs.length → i ≠ k → plc (fs.getD i f0) ≠ x := fun i hi hne e => apart_of hd hi hk1 hne (e.trans hpx.symm)
  have hsel : sel (fun i => !T.getD i true && isStop x (fs.getD i f0)) fs.length = [k] := sel_single _ k _ hk1 (fun i hi => by
    by_cases e : i = k
    · subst e; rw [hT, hk2.2]; simp
    · have : isStop x (fs.getD i f0) = false := decide_eq_false (huniq i hi e)
      rw [this, decide_eq_false e, Bool.and_false])
  rw [hsel] at h
  refine ⟨k, hk1, hf, hT, hf ▸ hpx, fun i hi => huniq i (by omega) (by omega), ?_, ?_⟩
  · rw [unt_filter]
    unfold unt
    congr 1
    apply sel_congr
    intro i hi
    rw [getD_set_true]
    by_cases e : i = k
    · subst e; rw [hk2.2]; simp
    · have : isStop x (fs.getD i f0) = false := decide_eq_false (huniq i hi e)
      rw [this, decide_eq_false e]
      simp
  · exact (List.cons.inj h).2.symm
theorem filter_none {P : Flt → Bool} {L : List Flt} (h : L.filter P = []) : L.filter (fun g => !P g) = L := by
  rw [List.filter_eq_self]
  intro g hg
  have := List.filter_eq_nil_iff.1 h g hg
  simpa using this
/-- The places of what is due. -/
def dueI (fs : List Flt) (T : List Bool) (x : P4) : List Nat := sel (fun i => !T.getD i true && isDue x (fs.getD i f0)) fs.length
theorem due_list (fs : List Flt) (T : List Bool) (x : P4) : (unt fs T).filter (isDue x) = (dueI fs T x).map (fun i => fs.getD i f0) := unt_filter fs T _
theorem due_left (fs : List Flt) (T : List Bool) (x : P4) : (unt fs T).filter (fun g => !isDue x g) = unt fs (setAll T (dueI fs T x)) := by
  rw [unt_filter]
  unfold unt
  congr 1
  apply sel_congr
  intro i hi
  rw [setAll_get]
  have hm : i ∈ dueI fs T x ↔ (!T.getD i true && isDue x (fs.getD i f0)) = true := by
    unfold dueI
    rw [sel_mem]
    exact ⟨fun h => h.2, fun h => ⟨hi, h⟩⟩
  by_cases h : i ∈ dueI fs T x
  · rw [decide_eq_true h]
    have := hm.1 h
    rw [Bool.and_eq_true] at this
    rw [this.2]
    simp
  · rw [decide_eq_false h]
    have h2 : ¬ (!T.getD i true && isDue x (fs.getD i f0)) = true := fun e => h (hm.2 e)
    cases h3 : T.getD i true
    · rw [h3] at h2
      have h4 : isDue x (fs.getD i f0) = false := by simpa using h2
      rw [h4]
      rfl
    · rfl
end Go.Proofs.Ytbmbhcjocgbbpaa.Fa
