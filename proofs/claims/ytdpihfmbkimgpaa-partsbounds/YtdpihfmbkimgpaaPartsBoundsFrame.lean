/-
  For every input the Go function PartsBounds returns true, and each argument reads behind the call as it read before.
-/
import Derived.Test.YtdpihfmbkimgpaaPartsBoundsWalk
import Derived.Test.YtdpihfmbkimgpaaBase
import Derived.Test.YtdpihfmbkimgpaaRows
import Derived.ChangeMaps5
import Derived.ShutString
import Derived.Deep.Strs
import Derived.ProofKit
import Derived.ChangeOld
import Derived.Below
namespace Go.Proofs.Ytdpihfmbkimgpaa.partsBounds
open Go.ChangeShapes Go.WideShapes Go.ChangeAt Go.RowKit Go.ChangeMaps
open Go.Proofs.Ytdpihfmbkimgpaa.Base Go.Proofs.Ytdpihfmbkimgpaa.Pa
set_option linter.unusedVariables false

set_option maxRecDepth 100000 in
theorem lifted (os : Os) (started : os.Started) (H : Type) (enc : TypeId × Value → H) :
    ReturnsInHanded {} Try.checked os 6 .any (Rows.partsBoundsSpec.pre6 enc Try.prog Try.f6 Rows.partsBoundsRow.domain false) (Rows.partsBoundsSpec.post enc Try.prog Try.f6 false true false false) := by
  refine returnsInHanded_of_change_sized (C := Try.checked) own started (by kernel_rfl) Try.func6
    (ChangeSpec.witness6 (enc := enc) (C := Try.checked) false ⟨#[], #[.slice none 0 0, .int .i64 0], []⟩ 8 (by kernel_rfl) (by kernel_rfl) (by kernel_rfl) (by kernel_rfl)) ?_
  intro W base args ds gs before hval0 hW hcnd hsz0 _
  have hval : ∀ (j : Nat) t v, Try.f6.params[j]? = some t → args[j]? = some v → Value.okWide Try.prog W .any base t v := hval0
  have hsz : (DataW.weightsEach Try.prog (Try.f6.params.toList ++ Rows.partsBoundsSpec.plain.varTypes Try.prog) (ds ++ gs)).all (· ≤ reachBytes) = true := hsz0
  have hW' := hW
  obtain ⟨p, q, hA0, hV, rfl, hfz, hnd⟩ := hW
  have hA : DataW.TrodAll enc Try.prog W 0 (fun _ => true) true Try.f6.params.toList args.toList ds p := hA0
  rw [Try.params6] at hA hval hsz
  obtain ⟨v0, vs0, d0, ds0, p0, q0, hargs, rfl, rfl, h0, r0⟩ := trodAll_cons hA
  obtain ⟨v1, vs1, d1, ds1, p1, q1, rfl, rfl, rfl, h1, r1⟩ := trodAll_cons r0
  obtain ⟨rfl, rfl, rfl⟩ := trodAll_nil r1
  obtain rfl : args = #[v0, v1] := by cases args; simp_all
  obtain ⟨rfl, rfl⟩ := trodVars_none hV
  obtain ⟨a0, len0, cap0, rfl⟩ := okWide_slice Try.underlying24 (hval 0 24 v0 rfl rfl)
  have k0 := h0
  have lt0 : ∀ x ∈ p0, x.block < W.heap.size := by obtain ⟨m, hm⟩ := k0; exact DataW.trod_lt m _ _ _ hm
  obtain ⟨b0, rd0, l0, m0, z0, y0⟩ : ∃ ss, RdS W a0 len0 ss ∧ len0 ≤ cap0 ∧ cap0 ≤ 8796093021952 ∧ (a0 = none → len0 = 0 ∧ cap0 = 0) ∧ ∀ s ∈ ss, s.size ≤ 140737488351232 := by
    obtain ⟨fuel, hf⟩ := h0
    rcases Deep.open_strs Try.underlying24 Try.underlying9 (by kernel_rfl) hf with ⟨hcs, _⟩ | ⟨x, l, c, m, Sx, hcs, _, hl, hm, hmm, hx, hcell⟩
    · simp [Value.cells] at hcs
      obtain ⟨rfl, rfl, rfl⟩ := hcs
      exact ⟨[], rds_nil _, by omega, by omega, (fun _ => ⟨rfl, rfl⟩), (fun s hs => absurd hs List.not_mem_nil)⟩
    · simp [Value.cells] at hcs
      obtain ⟨rfl, rfl, rfl⟩ := hcs
      simp only [Prod.mk.injEq] at hx
      have hmc : m = cap0 := by simpa using hmm
      subst hmc
      have hw := sized_slice hsz (j := 0) (t := 24) (e := 9) rfl (by rw [hx.1]; rfl) Try.underlying24
      have hws := fun bytes hb => sized_strs hsz (j := 0) (t := 24) (e := 9) rfl (by rw [hx.1]; rfl) Try.underlying24 (bytes := bytes) hb
      rw [show Try.prog.bytesOf 9 = 16 by kernel_rfl] at hw
      simp only [List.length_map, List.length_range, reachBytes] at hw
      refine ⟨_, rds_row hl (by omega) hcell, hl, by omega, (fun h => by cases h), ?_⟩
      intro s hs
      obtain ⟨i, hi, rfl⟩ := List.mem_map.1 hs
      have h1 := hws (Sx i).data.toList (List.mem_map.2 ⟨i, hi, rfl⟩)
      simp only [reachBytes] at h1
      rw [Array.length_toList] at h1
      exact h1
  obtain ⟨n1, rfl, rfl, rfl, w1⟩ := open_int Try.underlying3 (hval 1 3 v1 rfl rfl) h1
  clear hA0 hval0
  refine (walk a0 len0 cap0 b0 n1 W rd0 l0 m0 z0 y0 w1).mono fun e W' ⟨he, bel⟩ => ?_
  subst he
  exact ⟨_, rfl, _, _, _, [], _, [], hW', trodAll_mk1 (shut_bool Try.underlying4 _), (trodAll_cons_mk (Below.trod laidOut (by kernel_rfl) (of_decide_eq_true (by kernel_rfl)) k0 bel lt0) (trodAll_cons_mk (shut_int Try.underlying3 w1) trodAll_mk0)), rfl, bel.frame _, fun h => by cases h⟩

theorem over : Rows.partsBoundsRow.holds Try.pinned (OpenSpec.ofChange Rows.partsBoundsSpec) :=
  OpenClaim.holds_of_wide 6 Try.f6 rfl rfl rfl rfl rfl rfl rfl ⟨rfl, rfl, rfl, rfl, rfl⟩ rfl rfl rfl rfl rfl (by kernel_rfl) Try.func6 (by kernel_rfl)
    (of_decide_eq_true (by kernel_rfl)) (by unfold Func.isWrapper; first | (rw [if_pos (by decide +kernel)]; kernel_rfl) | (rw [if_neg (by decide +kernel)]; exact ⟨rfl, rfl⟩))
    (fun os started H enc _ => lifted os started H enc)
/-- THE STATEMENT. -/
theorem proved : Rows.PartsBoundsSaid := over
end Go.Proofs.Ytdpihfmbkimgpaa.partsBounds
