/-
  For every input the Go function BlockBack returns true, and each argument reads behind the call as it read before.
-/
import Derived.Test.YtlicghkggpmofaaGreatBlockBackFitJ
import Derived.Test.YtlicghkggpmofaaGreatBlCmpQJ
import Derived.Test.YtlicghkggpmofaaGreatRows
import Derived.ChangeMaps5
import Derived.ShutString
import Derived.Deep.Strs
import Derived.Test.YtlicghkggpmofaaGreatBlPairs
import Derived.Test.YtlicghkggpmofaaGreatPaStrsJ
import Derived.ProofKit
import Derived.ChangeOld
import Derived.Below
namespace Go.Proofs.YtlicghkggpmofaaGreat.blockBack
open Go.ChangeShapes Go.WideShapes Go.ChangeAt Go.RowKit Go.ChangeMaps
open Go.Proofs.YtlicghkggpmofaaGreat.Base Go.Proofs.YtlicghkggpmofaaGreat.Bl Go.Proofs.YtlicghkggpmofaaGreat.Jb Go.Proofs.YtlicghkggpmofaaGreat.Pa
set_option linter.unusedVariables false

set_option maxRecDepth 100000 in
theorem lifted (os : Os) (started : os.Started) (H : Type) (enc : TypeId × Value → H) :
    ReturnsInHanded {} Tryz.checked os 3 .any (Rows.blockBackSpec.pre6 enc Tryz.prog Tryz.f3 Rows.blockBackRow.domain false) (Rows.blockBackSpec.post enc Tryz.prog Tryz.f3 false true false false) := by
  refine returnsInHanded_of_change_sized (C := Tryz.checked) own started (by kernel_rfl) Tryz.func3
    (ChangeSpec.witness6 (enc := enc) (C := Tryz.checked) false ⟨#[], #[.int .i64 0, .int .i64 0, .slice none 0 0, .slice none 0 0], []⟩ 8 (by kernel_rfl) (by kernel_rfl) (by kernel_rfl) (by kernel_rfl)) ?_
  intro W base args ds gs before hval0 hW hcnd hsz0 _
  have hval : ∀ (j : Nat) t v, Tryz.f3.params[j]? = some t → args[j]? = some v → Value.okWide Tryz.prog W .any base t v := hval0
  have hsz : (DataW.weightsEach Tryz.prog (Tryz.f3.params.toList ++ Rows.blockBackSpec.plain.varTypes Tryz.prog) (ds ++ gs)).all (· ≤ reachBytes) = true := hsz0
  have hW' := hW
  obtain ⟨p, q, hA0, hV, rfl, hfz, hnd⟩ := hW
  have hA : DataW.TrodAll enc Tryz.prog W 0 (fun _ => true) true Tryz.f3.params.toList args.toList ds p := hA0
  rw [Tryz.params3] at hA hval hsz
  obtain ⟨v0, vs0, d0, ds0, p0, q0, hargs, rfl, rfl, h0, r0⟩ := trodAll_cons hA
  obtain ⟨v1, vs1, d1, ds1, p1, q1, rfl, rfl, rfl, h1, r1⟩ := trodAll_cons r0
  obtain ⟨v2, vs2, d2, ds2, p2, q2, rfl, rfl, rfl, h2, r2⟩ := trodAll_cons r1
  obtain ⟨v3, vs3, d3, ds3, p3, q3, rfl, rfl, rfl, h3, r3⟩ := trodAll_cons r2
  obtain ⟨rfl, rfl, rfl⟩ := trodAll_nil r3
  obtain rfl : args = #[v0, v1, v2, v3] := by cases args; simp_all
  obtain ⟨rfl, rfl⟩ := trodVars_none hV
  obtain ⟨n0, rfl, rfl, rfl, w0⟩ := open_int Tryz.underlying3 (hval 0 3 v0 rfl rfl) h0
  obtain ⟨n1, rfl, rfl, rfl, w1⟩ := open_int Tryz.underlying3 (hval 1 3 v1 rfl rfl) h1
  obtain ⟨a2, len2, cap2, rfl⟩ := okWide_slice Tryz.underlying22 (hval 2 22 v2 rfl rfl)
  have k2 := h2
  have lt2 : ∀ x ∈ p2, x.block < W.heap.size := by obtain ⟨m, hm⟩ := k2; exact DataW.trod_lt m _ _ _ hm
  obtain ⟨b2, rd2, l2, m2, y2⟩ : ∃ ps, RdP W a2 len2 ps ∧ len2 ≤ cap2 ∧ cap2 ≤ 4398046510976 ∧ ∀ p ∈ ps, p.1.size ≤ 140737488351232 ∧ p.2.size ≤ 140737488351232 := by
    obtain ⟨fuel, hf⟩ := h2
    obtain ⟨ps, q1, q2, q3, q4⟩ := open_pairs hf
    obtain ⟨q5, q6⟩ := sized_pairs (d := d2) (fun z hz => by simpa using List.all_eq_true.1 hsz z (DataW.weights_mem_each (j := 2) rfl rfl z hz)) q2 q4 q1.1
    exact ⟨ps, q1, q2, by omega, q6⟩
  obtain ⟨a3, len3, cap3, rfl⟩ := okWide_slice Tryz.underlying23 (hval 3 23 v3 rfl rfl)
  have k3 := h3
  have lt3 : ∀ x ∈ p3, x.block < W.heap.size := by obtain ⟨m, hm⟩ := k3; exact DataW.trod_lt m _ _ _ hm
  obtain ⟨b3, rd3, l3, m3, z3, y3⟩ : ∃ ss, RdS W a3 len3 ss ∧ len3 ≤ cap3 ∧ cap3 ≤ 8796093021952 ∧ (a3 = none → len3 = 0 ∧ cap3 = 0) ∧ ∀ s ∈ ss, s.size ≤ 140737488351232 := by
    obtain ⟨fuel, hf⟩ := h3
    rcases Deep.open_strs Tryz.underlying23 Tryz.underlying9 (by kernel_rfl) hf with ⟨hcs, _⟩ | ⟨x, l, c, m, Sx, hcs, _, hl, hm, hmm, hx, hcell⟩
    · simp [Value.cells] at hcs
      obtain ⟨rfl, rfl, rfl⟩ := hcs
      exact ⟨[], rds_nil _, by omega, by omega, (fun _ => ⟨rfl, rfl⟩), (fun s hs => absurd hs List.not_mem_nil)⟩
    · simp [Value.cells] at hcs
      obtain ⟨rfl, rfl, rfl⟩ := hcs
      simp only [Prod.mk.injEq] at hx
      have hmc : m = cap3 := by simpa using hmm
      subst hmc
      have hw := sized_slice hsz (j := 3) (t := 23) (e := 9) rfl (by rw [hx.1]; rfl) Tryz.underlying23
      have hws := fun bytes hb => sized_strs hsz (j := 3) (t := 23) (e := 9) rfl (by rw [hx.1]; rfl) Tryz.underlying23 (bytes := bytes) hb
      rw [show Tryz.prog.bytesOf 9 = 16 by kernel_rfl] at hw
      simp only [List.length_map, List.length_range, reachBytes] at hw
      refine ⟨_, rds_row hl (by omega) hcell, hl, by omega, (fun h => by cases h), ?_⟩
      intro s hs
      obtain ⟨i, hi, rfl⟩ := List.mem_map.1 hs
      have h1 := hws (Sx i).data.toList (List.mem_map.2 ⟨i, hi, rfl⟩)
      simp only [reachBytes] at h1
      rw [Array.length_toList] at h1
      exact h1
  clear hA0 hval0
  refine (fitwalk n0 n1 a2 len2 cap2 b2 a3 len3 cap3 b3 W w0 w1 rd2 l2 m2 y2 rd3 l3 m3 z3 y3).mono fun e W' ⟨he, bel⟩ => ?_
  subst he
  exact ⟨_, rfl, _, _, _, [], _, [], hW', trodAll_mk1 (shut_bool Tryz.underlying4 _), (trodAll_cons_mk (shut_int Tryz.underlying3 w0) (trodAll_cons_mk (shut_int Tryz.underlying3 w1) (trodAll_cons_mk (Below.trod laidOut (by kernel_rfl) (of_decide_eq_true (by kernel_rfl)) k2 bel lt2) (trodAll_cons_mk (Below.trod laidOut (by kernel_rfl) (of_decide_eq_true (by kernel_rfl)) k3 bel lt3) trodAll_mk0)))), rfl, bel.frame _, fun h => by cases h⟩

theorem over : Rows.blockBackRow.holds Tryz.pinned (OpenSpec.ofChange Rows.blockBackSpec) :=
  OpenClaim.holds_of_wide 3 Tryz.f3 rfl rfl rfl rfl rfl rfl rfl ⟨rfl, rfl, rfl, rfl, rfl⟩ rfl rfl rfl rfl rfl (by kernel_rfl) Tryz.func3 (by kernel_rfl)
    (of_decide_eq_true (by kernel_rfl)) (by unfold Func.isWrapper; first | (rw [if_pos (by decide +kernel)]; kernel_rfl) | (rw [if_neg (by decide +kernel)]; exact ⟨rfl, rfl⟩))
    (fun os started H enc _ => lifted os started H enc)
/-- THE STATEMENT. -/
theorem proved : Rows.BlockBackSaid := over
end Go.Proofs.YtlicghkggpmofaaGreat.blockBack
