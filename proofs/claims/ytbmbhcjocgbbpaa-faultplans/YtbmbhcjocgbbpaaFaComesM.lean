/-
  Whoever asks for each entry by its own fields is told all of them.
-/
import Derived.Test.YtbmbhcjocgbbpaaFaPlanC
namespace Go.Proofs.Ytbmbhcjocgbbpaa.Fa
set_option linter.unusedVariables false
/-- Does the question that f's own fields make tell g? -/
def tells (f g : Flt) : Bool := if f.k = 0 then isStop ((0, f.j, f.t, f.a) : P4) g else isDue (f.t, f.a, f.m, rdr f.m f.r) g
/-- What is left behind the first i questions. -/
def leftL (fs : List Flt) (i : Nat) : List Flt := fs.filter (fun g => !(fs.take i).any (fun f => tells f g))
theorem leftL_zero (fs : List Flt) : leftL fs 0 = fs := by
  unfold leftL
  rw [List.take_zero]
  simp
theorem leftL_succ (fs : List Flt) (i : Nat) (f : Flt) (hi : i < fs.length) (hf : fs.getD i f0 = f) : leftL fs (i + 1) = (leftL fs i).filter (fun g => !tells f g) := by
  unfold leftL
  rw [take_all fs i f hi hf, List.filter_filter]
  congr 1
  funext g
  rw [List.any_append]
  simp [Bool.and_comm]
theorem isStop_true {x : P4} {g : Flt} (h : isStop x g = true) : plc g = x := of_decide_eq_true h
theorem may_due {f : Flt} (h : may f = true) (hk : f.k ≠ 0) : rdr f.m f.r = f.r := by
  unfold rdr
  by_cases h2 : f.m = 2
  · rw [if_pos h2]
  · rw [if_neg h2]
    simp [may, isMo] at h
    omega
theorem tells_self {f : Flt} (h : may f = true) : tells f f = true := by
  unfold tells
  by_cases hk : f.k = 0
  · rw [if_pos hk]
    unfold isStop plc
    rw [hk]
    simp
  · rw [if_neg hk, may_due h hk]
    unfold isDue
    simp [hk]
theorem leftL_end (fs : List Flt) (h : fs.all may = true) : leftL fs fs.length = [] := by
  unfold leftL
  rw [List.take_of_length_le (Nat.le_refl _), List.filter_eq_nil_iff]
  intro g hg
  have : fs.any (fun f => tells f g) = true := List.any_eq_true.2 ⟨g, hg, tells_self (List.all_eq_true.1 h g hg)⟩
  simp [this]
theorem getD_mem {fs : List Flt} {i : Nat} (hi : i < fs.length) : fs.getD i f0 ∈ fs := by
  rw [List.getD_eq_getElem?_getD, List.getElem?_eq_getElem hi]; exact List.getElem_mem hi
/-- A stop that is asked for at its own turn is there, and no other. -/
theorem stop_there (fs : List Flt) (hd : (fs.map plc).Nodup) (i : Nat) (f : Flt) (hi : i < fs.length) (hf : fs.getD i f0 = f) (hk : f.k = 0) : (leftL fs i).filter (isStop ((0, f.j, f.t, f.a) : P4)) = [f] := by
  have hpf : plc f = ((0, f.j, f.t, f.a) : P4) := by unfold plc; rw [hk]
  rw [← hpf]
  unfold leftL
  rw [List.filter_filter]
  have hsplit : fs = fs.take i ++ f :: fs.drop (i + 1) := by
    rw [← hf, List.getD_eq_getElem?_getD, List.getElem?_eq_getElem hi]; simp
  have hd' := hd
  rw [hsplit, List.map_append, List.map_cons] at hd'
  have hn1 : ∀ g ∈ fs.take i, plc g ≠ plc f := fun g hg e => by
    have := (List.nodup_append.1 hd').2.2 (plc g) (List.mem_map_of_mem hg) (plc f) (List.mem_cons_self ..)
    exact this e
  have hn2 : ∀ g ∈ fs.drop (i + 1), plc g ≠ plc f := fun g hg e => by
    have h2 := (List.nodup_cons.1 (List.nodup_append.1 hd').2.1).1
    exact h2 (by rw [← e]; exact List.mem_map_of_mem hg)
  have hfl : ∀ L : List Flt, (∀ g ∈ L, plc g ≠ plc f) → ∀ P : Flt → Bool, L.filter (fun g => isStop (plc f) g && P g) = [] := fun L hL P => by
    rw [List.filter_eq_nil_iff]
    intro g hg
    have : isStop (plc f) g = false := decide_eq_false (hL g hg)
    simp [this]
  have hnt : (fs.take i).any (fun f' => tells f' f) = false := by
    rw [List.any_eq_false]
    intro g hg
    unfold tells
    by_cases hgk : g.k = 0
    · rw [if_pos hgk]
      have : ¬ plc f = ((0, g.j, g.t, g.a) : P4) := fun e => hn1 g hg (by rw [e]; unfold plc; rw [hgk])
      simp [isStop, this]
    · rw [if_neg hgk]
      simp [isDue, hk]
  have hself : isStop (plc f) f = true := decide_eq_true rfl
  have hgen : ∀ PP : Flt → Bool, PP f = true → fs.filter (fun g => isStop (plc f) g && PP g) = [f] := fun PP hPf => by
    rw [hsplit, List.filter_append, hfl _ hn1, List.nil_append, List.filter_cons_of_pos (by simp [hself, hPf]), hfl _ hn2]
  exact hgen (fun g => !(fs.take i).any (fun f' => tells f' g)) (by rw [hnt]; rfl)
theorem chk_ok {fs : List Flt} (h : chk fs = 0) : fs.all may = true ∧ (fs.map plc).Nodup ∧ fs.length ≤ 256 := by
  unfold chk at h
  split at h
  · omega
  · split at h
    · rename_i h1 h2
      exact ⟨h2.1, h2.2, by omega⟩
    · omega
theorem filter_split (P : Flt → Bool) (L : List Flt) : (L.filter P).length + (L.filter (fun g => !P g)).length = L.length := by
  induction L with
  | nil => rfl
  | cons g r ih =>
    by_cases h : P g = true
    · rw [List.filter_cons_of_pos h, List.filter_cons_of_neg (by simp [h])]
      simp only [List.length_cons]; omega
    · rw [List.filter_cons_of_neg h, List.filter_cons_of_pos (by simp [h])]
      simp only [List.length_cons]; omega
theorem leftL_len (fs : List Flt) (i : Nat) : (leftL fs i).length ≤ fs.length := List.length_filter_le _ _
end Go.Proofs.Ytbmbhcjocgbbpaa.Fa
