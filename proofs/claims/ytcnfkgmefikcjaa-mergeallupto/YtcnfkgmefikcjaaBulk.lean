/-
  What the bound on bulk gives: a slice that came in has few places.
-/
import Derived.Test.YtcnfkgmefikcjaaRows
namespace Go.Proofs.Ytcnfkgmefikcjaa.Bulk
theorem some_bulk {H : Type} (d : DataW H) : 0 < Rows.uptoBulk d := by
  cases d with
  | lit l => cases l <;> simp [Rows.uptoBulk]
  | _ => simp [Rows.uptoBulk]
theorem count {H : Type} : ∀ l : List (DataW H), l.length ≤ Rows.uptoBulkAll l
  | [] => by simp [Rows.uptoBulkAll]
  | x :: r => by
    have h1 := some_bulk x
    have h2 := count r
    simp only [Rows.uptoBulkAll, List.length_cons]; omega
theorem member {H : Type} {d : DataW H} : ∀ {l : List (DataW H)}, d ∈ l → Rows.uptoBulk d ≤ Rows.uptoBulkAll l
  | [], h => by cases h
  | x :: r, h => by
    simp only [Rows.uptoBulkAll]
    rcases List.mem_cons.1 h with e | e
    · subst e; omega
    · have := member e; omega
theorem places {H : Type} {d : DataW H} {elems spare : List (DataW H)} {l : List (DataW H)} (e : d = DataW.slice elems spare) (h : d ∈ l) (hk : Rows.uptoSmall H l = true) : elems.length + spare.length ≤ 1048576 := by
  have hb : Rows.uptoBulkAll l ≤ 1048576 := of_decide_eq_true hk
  have h1 := member h
  subst e
  have h2 := count elems
  have h3 := count spare
  simp only [Rows.uptoBulk] at h1
  omega
end Go.Proofs.Ytcnfkgmefikcjaa.Bulk
