/-
  A list of sources that is handed in: its sizes, where the bulk is small.
-/
import Derived.Test.YtcnfkgmefikcjaaMeOpen
import Derived.Test.YtcnfkgmefikcjaaMeFedU
import Derived.Test.YtcnfkgmefikcjaaBulk
namespace Go.Proofs.Ytcnfkgmefikcjaa.Me
open Go.Proofs.Ytcnfkgmefikcjaa.Base
set_option linter.unusedVariables false
theorem small_srcs {H : Type} {d : DataW H} {l : List (DataW H)} {ss : List Src} {len cap : Nat} (hd : d ∈ l) (hk : Rows.uptoSmall H l = true) (hl : len ≤ cap) (hn : ss.length = len) (h : (d = .nil ∧ len = 0 ∧ cap = 0) ∨ ∃ elems spare, d = .slice elems spare ∧ elems.length + spare.length = cap ∧ ∀ s ∈ ss, ∃ d ∈ elems, SrcD d s) :
    cap ≤ 1048576 ∧ ∀ s ∈ ss, s.ts.length ≤ 1048576 := by
  rcases h with ⟨_, h1, h2⟩ | ⟨elems, spare, h1, h2, h3⟩
  · refine ⟨by omega, fun s hs => ?_⟩
    have : ss = [] := List.length_eq_zero_iff.1 (by omega)
    subst this
    cases hs
  · have hp := Bulk.places h1 hd hk
    refine ⟨by omega, fun s hs => ?_⟩
    obtain ⟨d', hd', d0, d1, he, hz⟩ := h3 s hs
    have hm := Bulk.member hd'
    have hb : Rows.uptoBulkAll l ≤ 1048576 := of_decide_eq_true hk
    have h4 := Bulk.member hd
    subst h1
    simp only [Rows.uptoBulk] at h4
    subst he
    simp only [Rows.uptoBulk, Rows.uptoBulkAll] at hm
    rcases hz with ⟨_, h5, _⟩ | ⟨el, sp, h5, h6, _⟩
    · omega
    · subst h5
      simp only [Rows.uptoBulk] at hm
      have := Bulk.count el
      omega
theorem open_small {H : Type} {enc : TypeId × Value → H} {W : World} {held : Bool} {fuel : Nat} {a : Option Addr} {len cap : Nat} {d : DataW H} {p : List MemPlace} {l : List (DataW H)} (hd : d ∈ l) (hk : Rows.uptoSmall H l = true)
    (hf : DataW.trod enc Try.prog W 0 (fun _ => true) held fuel 22 [.slice a len cap] = some (d, p)) :
    ∃ ss : List Src, ss.length = len ∧ Rdy W a ss ∧ (∀ j, j < ss.length → (ss.getD j src0).ts.length ≤ 1048576) ∧ ss.length ≤ 1048576 ∧ ss.length ≤ cap := by
  obtain ⟨ss, q1, q2, q3, q4, q5⟩ := open_srcs hf
  obtain ⟨q6, q7⟩ := small_srcs hd hk q4 q1 q5
  exact ⟨ss, q1, ⟨q2, fun j hj => q3 _ (getD_srcmem hj)⟩, fun j hj => q7 _ (getD_srcmem hj), by omega, by omega⟩
end Go.Proofs.Ytcnfkgmefikcjaa.Me
