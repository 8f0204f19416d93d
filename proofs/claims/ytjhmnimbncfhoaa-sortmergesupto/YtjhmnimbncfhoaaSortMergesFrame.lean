/-
  For every input of small bulk the Go function SortMerges returns true, and each argument reads behind the call as it read before.
-/
import Derived.Test.YtjhmnimbncfhoaaSortMergesWalk
import Derived.Test.YtjhmnimbncfhoaaSoOpenL
import Derived.Test.YtjhmnimbncfhoaaBase
import Derived.Test.YtjhmnimbncfhoaaRows
import Derived.ChangeMaps5
import Derived.ShutString
import Derived.JoinedCond
import Derived.Test.YtjhmnimbncfhoaaBulk
import Derived.ChangeOld
import Derived.Below
namespace Go.Proofs.Ytjhmnimbncfhoaa.sortMerges
open Go.ChangeShapes Go.WideShapes Go.ChangeAt Go.RowKit Go.ChangeMaps
open Go.Proofs.Ytjhmnimbncfhoaa.Base Go.Proofs.Ytjhmnimbncfhoaa.So
set_option linter.unusedVariables false
set_option maxRecDepth 100000 in
theorem lifted (os : Os) (started : os.Started) (H : Type) (enc : TypeId × Value → H) (Fs : Stop.Interp) :
    ReturnsInHanded {} Try.checked os 4 .any ((Rows.OpenSpec.upto Rows.sortMergesSpec).pre6 enc Try.prog Try.f4 Rows.sortMergesUptoRow.domain false) (((Rows.OpenSpec.upto Rows.sortMergesSpec).at Fs).post enc Try.prog Try.f4 false true false false) := by
  refine returnsInHanded_of_cond (C := Try.checked) (s := Rows.OpenSpec.upto Rows.sortMergesSpec) (k := Rows.uptoSmall) rfl own started (by kernel_rfl) Try.func4
    (OpenSpec.witness (enc := enc) (C := Try.checked) (s := Rows.OpenSpec.upto Rows.sortMergesSpec) (k := Rows.uptoSmall) rfl false ⟨#[], #[.slice none 0 0, .slice none 0 0], []⟩ 8 (by kernel_rfl) (by kernel_rfl) (by kernel_rfl)
      (x := ([.nil, .nil], [], [])) (by kernel_rfl) rfl (by kernel_rfl)) ?_
  intro W base args ds gs before hval0 hW _ hk0 _
  have hval : ∀ (j : Nat) t v, Try.f4.params[j]? = some t → args[j]? = some v → Value.okWide Try.prog W .any base t v := hval0
  have hk : Rows.uptoSmall H (ds ++ gs) = true := hk0
  have hW' := hW
  obtain ⟨p, q, hA0, hV, rfl, hfz, hnd⟩ := hW
  have hA : DataW.TrodAll enc Try.prog W 0 (fun _ => true) true Try.f4.params.toList args.toList ds p := hA0
  rw [Try.params4] at hA hval
  obtain ⟨v0, vs0, d0, ds0, p0, q0, hargs, rfl, rfl, h0, r0⟩ := trodAll_cons hA
  obtain ⟨v1, vs1, d1, ds1, p1, q1, rfl, rfl, rfl, h1, r1⟩ := trodAll_cons r0
  obtain ⟨rfl, rfl, rfl⟩ := trodAll_nil r1
  obtain rfl : args = #[v0, v1] := by cases args; simp_all
  obtain ⟨rfl, rfl⟩ := trodVars_none hV
  obtain ⟨a0, len0, cap0, rfl⟩ := okWide_slice Try.underlying27 (hval 0 27 v0 rfl rfl)
  have k0 := h0
  have lt0 : ∀ x ∈ p0, x.block < W.heap.size := by obtain ⟨m, hm⟩ := k0; exact DataW.trod_lt m _ _ _ hm
  obtain ⟨s0, rd0, z0, m0, f0⟩ : ∃ rs, RdR W a0 len0 rs ∧ (a0 = none → len0 = 0 ∧ cap0 = 0) ∧ len0 ≤ 1048576 ∧ Fine rs := by
    obtain ⟨fuel, hf⟩ := h0
    obtain ⟨rs, q1, q2, q3, q4⟩ := open_recs hf
    obtain ⟨q5, q6⟩ := small_recs (d := d0) (by simp) hk q2 q4 q1.1
    exact ⟨rs, q1, q3, by omega, q6⟩
  obtain ⟨a1, len1, cap1, rfl⟩ := okWide_slice Try.underlying27 (hval 1 27 v1 rfl rfl)
  have k1 := h1
  have lt1 : ∀ x ∈ p1, x.block < W.heap.size := by obtain ⟨m, hm⟩ := k1; exact DataW.trod_lt m _ _ _ hm
  obtain ⟨s1, rd1, z1, m1, f1⟩ : ∃ rs, RdR W a1 len1 rs ∧ (a1 = none → len1 = 0 ∧ cap1 = 0) ∧ len1 ≤ 1048576 ∧ Fine rs := by
    obtain ⟨fuel, hf⟩ := h1
    obtain ⟨rs, q1, q2, q3, q4⟩ := open_recs hf
    obtain ⟨q5, q6⟩ := small_recs (d := d1) (by simp) hk q2 q4 q1.1
    exact ⟨rs, q1, q3, by omega, q6⟩
  clear hA0 hval0
  refine (So.mwalk a0 a1 len0 cap0 len1 cap1 s0 s1 W rd0 rd1 z0 z1 f0 f1 m0 m1).mono fun e W' ⟨he, bel⟩ => ?_
  subst he
  exact ⟨_, rfl, _, _, _, [], _, [], hW', trodAll_mk1 (shut_bool Try.underlying4 _), (trodAll_cons_mk (Below.trod laidOut (by kernel_rfl) (of_decide_eq_true (by kernel_rfl)) k0 bel lt0) (trodAll_cons_mk (Below.trod laidOut (by kernel_rfl) (of_decide_eq_true (by kernel_rfl)) k1 bel lt1) trodAll_mk0)), rfl, bel.frame _, fun h => by cases h⟩

/-- THE STATEMENT. -/
theorem proved : Rows.SortMergesUptoSaid :=
  OpenClaim.holds_of_cond 4 Try.f4 rfl rfl rfl rfl rfl rfl rfl ⟨rfl, rfl, rfl, rfl, rfl⟩ rfl rfl rfl rfl rfl (by kernel_rfl) Try.func4 (by kernel_rfl)
    (of_decide_eq_true (by kernel_rfl)) (by unfold Func.isWrapper; first | (rw [if_pos (by decide +kernel)]; kernel_rfl) | (rw [if_neg (by decide +kernel)]; exact ⟨rfl, rfl⟩))
    (fun os started H enc _ Fs => lifted os started H enc Fs)
end Go.Proofs.Ytjhmnimbncfhoaa.sortMerges
