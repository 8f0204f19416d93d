/-
  For every input the Go function PartsRange returns true, and each argument reads behind the call as it read before.
-/
import Derived.Test.YtdpihfmbkimgpaaPartsRangeWalk
import Derived.Test.YtdpihfmbkimgpaaBase
import Derived.Test.YtdpihfmbkimgpaaRows
import Derived.ChangeMaps5
import Derived.ShutString
import Derived.Deep.Strs
import Derived.Test.YtdpihfmbkimgpaaPaOpen
import Derived.ProofKit
import Derived.ChangeOld
import Derived.Below
namespace Go.Proofs.Ytdpihfmbkimgpaa.partsRange
open Go.ChangeShapes Go.WideShapes Go.ChangeAt Go.RowKit Go.ChangeMaps
open Go.Proofs.Ytdpihfmbkimgpaa.Base Go.Proofs.Ytdpihfmbkimgpaa.Pa
set_option linter.unusedVariables false

set_option maxRecDepth 100000 in
theorem lifted (os : Os) (started : os.Started) (H : Type) (enc : TypeId × Value → H) :
    ReturnsInHanded {} Try.checked os 4 .any (Rows.partsRangeSpec.pre6 enc Try.prog Try.f4 Rows.partsRangeRow.domain false) (Rows.partsRangeSpec.post enc Try.prog Try.f4 false true false false) := by
  refine returnsInHanded_of_change_sized (C := Try.checked) own started (by kernel_rfl) Try.func4
    (ChangeSpec.witness6 (enc := enc) (C := Try.checked) false ⟨#[], #[.agg #[.int .i64 0, .int .i64 0, .slice none 0 0, .bool false, .int .i64 0, .int .i64 0, .int .i64 0, .int .i64 0, .int .i64 0, .int .i64 0], .slice none 0 0, .slice none 0 0], []⟩ 8 (by kernel_rfl) (by kernel_rfl) (by kernel_rfl) (by kernel_rfl)) ?_
  intro W base args ds gs before hval0 hW hcnd hsz0 _
  have hval : ∀ (j : Nat) t v, Try.f4.params[j]? = some t → args[j]? = some v → Value.okWide Try.prog W .any base t v := hval0
  have hsz : (DataW.weightsEach Try.prog (Try.f4.params.toList ++ Rows.partsRangeSpec.plain.varTypes Try.prog) (ds ++ gs)).all (· ≤ reachBytes) = true := hsz0
  have hW' := hW
  obtain ⟨p, q, hA0, hV, rfl, hfz, hnd⟩ := hW
  have hA : DataW.TrodAll enc Try.prog W 0 (fun _ => true) true Try.f4.params.toList args.toList ds p := hA0
  rw [Try.params4] at hA hval hsz
  obtain ⟨v0, vs0, d0, ds0, p0, q0, hargs, rfl, rfl, h0, r0⟩ := trodAll_cons hA
  obtain ⟨v1, vs1, d1, ds1, p1, q1, rfl, rfl, rfl, h1, r1⟩ := trodAll_cons r0
  obtain ⟨v2, vs2, d2, ds2, p2, q2, rfl, rfl, rfl, h2, r2⟩ := trodAll_cons r1
  obtain ⟨rfl, rfl, rfl⟩ := trodAll_nil r2
  obtain rfl : args = #[v0, v1, v2] := by cases args; simp_all
  obtain ⟨rfl, rfl⟩ := trodVars_none hV
  have k0 := h0
  have lt0 : ∀ x ∈ p0, x.block < W.heap.size := by obtain ⟨m, hm⟩ := k0; exact DataW.trod_lt m _ _ _ hm
  obtain ⟨cs0, rfl, hcs0⟩ := okWide_struct Try.underlying28 (hval 0 28 v0 rfl rfl)
  obtain ⟨j0, n0, a0, l0, c0, e0⟩ := open_job hcs0 h0
  rw [e0] at k0 hW' ⊢
  obtain ⟨a1, len1, cap1, rfl⟩ := okWide_slice Try.underlying24 (hval 1 24 v1 rfl rfl)
  have k1 := h1
  have lt1 : ∀ x ∈ p1, x.block < W.heap.size := by obtain ⟨m, hm⟩ := k1; exact DataW.trod_lt m _ _ _ hm
  obtain ⟨b1, rd1, l1, m1, z1, y1⟩ : ∃ ss, RdS W a1 len1 ss ∧ len1 ≤ cap1 ∧ cap1 ≤ 8796093021952 ∧ (a1 = none → len1 = 0 ∧ cap1 = 0) ∧ ∀ s ∈ ss, s.size ≤ 140737488351232 := by
    obtain ⟨fuel, hf⟩ := h1
    rcases Deep.open_strs Try.underlying24 Try.underlying9 (by kernel_rfl) hf with ⟨hcs, _⟩ | ⟨x, l, c, m, Sx, hcs, _, hl, hm, hmm, hx, hcell⟩
    · simp [Value.cells] at hcs
      obtain ⟨rfl, rfl, rfl⟩ := hcs
      exact ⟨[], rds_nil _, by omega, by omega, (fun _ => ⟨rfl, rfl⟩), (fun s hs => absurd hs List.not_mem_nil)⟩
    · simp [Value.cells] at hcs
      obtain ⟨rfl, rfl, rfl⟩ := hcs
      simp only [Prod.mk.injEq] at hx
      have hmc : m = cap1 := by simpa using hmm
      subst hmc
      have hw := sized_slice hsz (j := 1) (t := 24) (e := 9) rfl (by rw [hx.1]; rfl) Try.underlying24
      have hws := fun bytes hb => sized_strs hsz (j := 1) (t := 24) (e := 9) rfl (by rw [hx.1]; rfl) Try.underlying24 (bytes := bytes) hb
      rw [show Try.prog.bytesOf 9 = 16 by kernel_rfl] at hw
      simp only [List.length_map, List.length_range, reachBytes] at hw
      refine ⟨_, rds_row hl (by omega) hcell, hl, by omega, (fun h => by cases h), ?_⟩
      intro s hs
      obtain ⟨i, hi, rfl⟩ := List.mem_map.1 hs
      have h1 := hws (Sx i).data.toList (List.mem_map.2 ⟨i, hi, rfl⟩)
      simp only [reachBytes] at h1
      rw [Array.length_toList] at h1
      exact h1
  obtain ⟨a2, len2, cap2, rfl⟩ := okWide_slice Try.underlying24 (hval 2 24 v2 rfl rfl)
  have k2 := h2
  have lt2 : ∀ x ∈ p2, x.block < W.heap.size := by obtain ⟨m, hm⟩ := k2; exact DataW.trod_lt m _ _ _ hm
  obtain ⟨b2, rd2, l2, m2, z2, y2⟩ : ∃ ss, RdS W a2 len2 ss ∧ len2 ≤ cap2 ∧ cap2 ≤ 8796093021952 ∧ (a2 = none → len2 = 0 ∧ cap2 = 0) ∧ ∀ s ∈ ss, s.size ≤ 140737488351232 := by
    obtain ⟨fuel, hf⟩ := h2
    rcases Deep.open_strs Try.underlying24 Try.underlying9 (by kernel_rfl) hf with ⟨hcs, _⟩ | ⟨x, l, c, m, Sx, hcs, _, hl, hm, hmm, hx, hcell⟩
    · simp [Value.cells] at hcs
      obtain ⟨rfl, rfl, rfl⟩ := hcs
      exact ⟨[], rds_nil _, by omega, by omega, (fun _ => ⟨rfl, rfl⟩), (fun s hs => absurd hs List.not_mem_nil)⟩
    · simp [Value.cells] at hcs
      obtain ⟨rfl, rfl, rfl⟩ := hcs
      simp only [Prod.mk.injEq] at hx
      have hmc : m = cap2 := by simpa using hmm
      subst hmc
      have hw := sized_slice hsz (j := 2) (t := 24) (e := 9) rfl (by rw [hx.1]; rfl) Try.underlying24
      have hws := fun bytes hb => sized_strs hsz (j := 2) (t := 24) (e := 9) rfl (by rw [hx.1]; rfl) Try.underlying24 (bytes := bytes) hb
      rw [show Try.prog.bytesOf 9 = 16 by kernel_rfl] at hw
      simp only [List.length_map, List.length_range, reachBytes] at hw
      refine ⟨_, rds_row hl (by omega) hcell, hl, by omega, (fun h => by cases h), ?_⟩
      intro s hs
      obtain ⟨i, hi, rfl⟩ := List.mem_map.1 hs
      have h1 := hws (Sx i).data.toList (List.mem_map.2 ⟨i, hi, rfl⟩)
      simp only [reachBytes] at h1
      rw [Array.length_toList] at h1
      exact h1
  clear hA0 hval0
  refine (walk j0 n0 a0 l0 c0 a1 len1 cap1 b1 a2 len2 cap2 b2 W rd1 l1 m1 z1 y1 rd2 l2 m2 z2 y2).mono fun e W' ⟨he, bel⟩ => ?_
  subst he
  exact ⟨_, rfl, _, _, _, [], _, [], hW', trodAll_mk1 (shut_bool Try.underlying4 _), (trodAll_cons_mk (Below.trod laidOut (by kernel_rfl) (of_decide_eq_true (by kernel_rfl)) k0 bel lt0) (trodAll_cons_mk (Below.trod laidOut (by kernel_rfl) (of_decide_eq_true (by kernel_rfl)) k1 bel lt1) (trodAll_cons_mk (Below.trod laidOut (by kernel_rfl) (of_decide_eq_true (by kernel_rfl)) k2 bel lt2) trodAll_mk0))), rfl, bel.frame _, fun h => by cases h⟩

theorem over : Rows.partsRangeRow.holds Try.pinned (OpenSpec.ofChange Rows.partsRangeSpec) :=
  OpenClaim.holds_of_wide 4 Try.f4 rfl rfl rfl rfl rfl rfl rfl ⟨rfl, rfl, rfl, rfl, rfl⟩ rfl rfl rfl rfl rfl (by kernel_rfl) Try.func4 (by kernel_rfl)
    (of_decide_eq_true (by kernel_rfl)) (by unfold Func.isWrapper; first | (rw [if_pos (by decide +kernel)]; kernel_rfl) | (rw [if_neg (by decide +kernel)]; exact ⟨rfl, rfl⟩))
    (fun os started H enc _ => lifted os started H enc)
/-- THE STATEMENT. -/
theorem proved : Rows.PartsRangeSaid := over
end Go.Proofs.Ytdpihfmbkimgpaa.partsRange
