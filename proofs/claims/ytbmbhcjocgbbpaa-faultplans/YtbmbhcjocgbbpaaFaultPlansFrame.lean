/-
  For every input the Go function FaultPlans returns true, and each argument reads behind the call as it read before.
-/
import Derived.Test.YtbmbhcjocgbbpaaFaultPlansWalk
import Derived.Test.YtbmbhcjocgbbpaaBase
import Derived.Test.YtbmbhcjocgbbpaaRows
import Derived.ChangeMaps5
import Derived.ShutString
import Derived.ProofKit
import Derived.Test.YtbmbhcjocgbbpaaFaOpen
import Derived.ChangeOld
import Derived.Below
namespace Go.Proofs.Ytbmbhcjocgbbpaa.faultPlans
open Go.ChangeShapes Go.WideShapes Go.ChangeAt Go.RowKit Go.ChangeMaps
open Go.Proofs.Ytbmbhcjocgbbpaa.Base Go.Proofs.Ytbmbhcjocgbbpaa.Fa
set_option linter.unusedVariables false

set_option maxRecDepth 100000 in
theorem lifted (os : Os) (started : os.Started) (H : Type) (enc : TypeId × Value → H) :
    ReturnsInHanded {} Try.checked os 7 .any (Rows.faultPlansSpec.pre6 enc Try.prog Try.f7 Rows.faultPlansRow.domain false) (Rows.faultPlansSpec.post enc Try.prog Try.f7 false true false false) := by
  refine returnsInHanded_of_change_sized (C := Try.checked) own started (by kernel_rfl) Try.func7
    (ChangeSpec.witness6 (enc := enc) (C := Try.checked) false ⟨#[], #[.slice none 0 0, .slice none 0 0], []⟩ 8 (by kernel_rfl) (by kernel_rfl) (by kernel_rfl) (by kernel_rfl)) ?_
  intro W base args ds gs before hval0 hW hcnd hsz0 _
  have hval : ∀ (j : Nat) t v, Try.f7.params[j]? = some t → args[j]? = some v → Value.okWide Try.prog W .any base t v := hval0
  have hsz : (DataW.weightsEach Try.prog (Try.f7.params.toList ++ Rows.faultPlansSpec.plain.varTypes Try.prog) (ds ++ gs)).all (· ≤ reachBytes) = true := hsz0
  have hW' := hW
  obtain ⟨p, q, hA0, hV, rfl, hfz, hnd⟩ := hW
  have hA : DataW.TrodAll enc Try.prog W 0 (fun _ => true) true Try.f7.params.toList args.toList ds p := hA0
  rw [Try.params7] at hA hval hsz
  obtain ⟨v0, vs0, d0, ds0, p0, q0, hargs, rfl, rfl, h0, r0⟩ := trodAll_cons hA
  obtain ⟨v1, vs1, d1, ds1, p1, q1, rfl, rfl, rfl, h1, r1⟩ := trodAll_cons r0
  obtain ⟨rfl, rfl, rfl⟩ := trodAll_nil r1
  obtain rfl : args = #[v0, v1] := by cases args; simp_all
  obtain ⟨rfl, rfl⟩ := trodVars_none hV
  obtain ⟨a0, len0, cap0, rfl⟩ := okWide_slice Try.underlying32 (hval 0 32 v0 rfl rfl)
  have k0 := h0
  have lt0 : ∀ x ∈ p0, x.block < W.heap.size := by obtain ⟨m, hm⟩ := k0; exact DataW.trod_lt m _ _ _ hm
  obtain ⟨b0, rd0, wf0, l0, z0, m0⟩ : ∃ fs, RdL W a0 len0 fs ∧ (∀ f ∈ fs, Wf f) ∧ len0 ≤ cap0 ∧ (a0 = none → len0 = 0 ∧ cap0 = 0) ∧ cap0 ≤ 2199023255488 := by
    obtain ⟨fuel, hf⟩ := h0
    obtain ⟨fs, r1, r2, r3, r4, r5⟩ := open_faults (by simpa [Value.cells] using hf)
    refine ⟨fs, r1, r2, r3, r4, ?_⟩
    rcases r5 with r5 | ⟨es, sp, r5, r6⟩
    · omega
    · have hw := sized_slice hsz (j := 0) (t := 32) (e := 25) rfl (by rw [← r5]; rfl) Try.underlying32
      rw [obytes_fault] at hw
      simp only [reachBytes] at hw
      omega
  obtain ⟨a1, len1, cap1, rfl⟩ := okWide_slice Try.underlying43 (hval 1 43 v1 rfl rfl)
  have k1 := h1
  have lt1 : ∀ x ∈ p1, x.block < W.heap.size := by obtain ⟨m, hm⟩ := k1; exact DataW.trod_lt m _ _ _ hm
  obtain ⟨b1, rd1, wf1, l1, z1, m1⟩ : ∃ fs, RdK W a1 len1 fs ∧ (∀ f ∈ fs, WfK f) ∧ len1 ≤ cap1 ∧ (a1 = none → len1 = 0 ∧ cap1 = 0) ∧ cap1 ≤ 3518437208783 := by
    obtain ⟨fuel, hf⟩ := h1
    obtain ⟨fs, r1, r2, r3, r4, r5⟩ := open_asks (by simpa [Value.cells] using hf)
    refine ⟨fs, r1, r2, r3, r4, ?_⟩
    rcases r5 with r5 | ⟨es, sp, r5, r6⟩
    · omega
    · have hw := sized_slice hsz (j := 1) (t := 43) (e := 46) rfl (by rw [← r5]; rfl) Try.underlying43
      rw [obytes_ask] at hw
      simp only [reachBytes] at hw
      omega
  clear hA0 hval0
  refine (walk a0 len0 cap0 b0 a1 len1 cap1 b1 W rd0 l0 m0 z0 wf0 rd1 l1 m1 z1 wf1).mono fun e W' ⟨he, bel⟩ => ?_
  subst he
  exact ⟨_, rfl, _, _, _, [], _, [], hW', trodAll_mk1 (shut_bool Try.underlying4 _), (trodAll_cons_mk (Below.trod laidOut (by kernel_rfl) (of_decide_eq_true (by kernel_rfl)) k0 bel lt0) (trodAll_cons_mk (Below.trod laidOut (by kernel_rfl) (of_decide_eq_true (by kernel_rfl)) k1 bel lt1) trodAll_mk0)), rfl, bel.frame _, fun h => by cases h⟩

theorem over : Rows.faultPlansRow.holds Try.pinned (OpenSpec.ofChange Rows.faultPlansSpec) :=
  OpenClaim.holds_of_wide 7 Try.f7 rfl rfl rfl rfl rfl rfl rfl ⟨rfl, rfl, rfl, rfl, rfl⟩ rfl rfl rfl rfl rfl (by kernel_rfl) Try.func7 (by kernel_rfl)
    (of_decide_eq_true (by kernel_rfl)) (by unfold Func.isWrapper; first | (rw [if_pos (by decide +kernel)]; kernel_rfl) | (rw [if_neg (by decide +kernel)]; exact ⟨rfl, rfl⟩))
    (fun os started H enc _ => lifted os started H enc)
/-- THE STATEMENT. -/
theorem proved : Rows.FaultPlansSaid := over
end Go.Proofs.Ytbmbhcjocgbbpaa.faultPlans
