/-
  For every input the Go function FilterBuilds returns true, and each argument reads behind the call as it read before; the tables of package filter that the row lists hold what the program's text lays.
-/
import Derived.Test.YtpdlpahpefojbaaDoorFilterBuildsWalk
import Derived.Test.YtpdlpahpefojbaaDoorFiOpen
import Derived.Test.YtpdlpahpefojbaaDoorFiOpenS
import Derived.Test.YtpdlpahpefojbaaDoorCards
import Derived.Test.YtpdlpahpefojbaaDoorTie
namespace Go.Proofs.YtpdlpahpefojbaaDoor.filterBuilds
open Go.ChangeShapes Go.WideShapes Go.ChangeAt Go.RowKit Go.ChangeMaps
open Go.Proofs.YtpdlpahpefojbaaDoor.Base hiding hide unhide lt8
open Go.Proofs.YtpdlpahpefojbaaDoor.Filt
set_option linter.unusedVariables false
def laidL : List (String × DataW Unit) := [("winnow/filter.kinds", Rows.laid_winnow_filter_kinds)]
theorem door_met (os : Os) (args : Array Value) : laidMetH Tryd.prog laidL ((World.doorLaid Tryd.prog 400 os).forCall (fun _ _ => 0) ⟨#[], args, []⟩).memory :=
  laidMetH_of_parts3 (fuel := 8) (laidMet_of_run' 8 (by kernel_rfl) (by kernel_rfl)) (by kernel_rfl) (by kernel_rfl)
theorem of_laid1 {W : World} (h : laidMetH Tryd.prog laidL W) : KAt W := by
  unfold laidL at h
  rw [MakeChecks.laidMetH_plain _ _ _ (by kernel_rfl)] at h
  obtain ⟨ps, ⟨g0, t0, cs0, f0, p0, q0, hg0, ht0, hv0, hd0, _, _⟩, _, _⟩ := h
  obtain rfl := Option.some.inj (gKinds.symm.trans hg0)
  obtain rfl := Option.some.inj (tKinds.symm.trans ht0)
  have k := kinds_cells hd0
  have k2 : ∀ i, i < 15 → W.cell? ⟨1, i, none⟩ = kcells[i]? := fun i hi => by
    rw [World.var?_cell hg0 hv0 i, ← k i hi]; simp
  exact ⟨block_lt_of_cell (k2 0 (by omega)), k2⟩
set_option maxRecDepth 100000 in
theorem lifted (os : Os) (started : os.Started) (H : Type) (enc : TypeId × Value → H) :
    ReturnsInHanded {} Tryd.checked os 5 .any (fun w args => (Rows.filterBuildsSpec.pre enc Tryd.prog Tryd.f5 [] false w args ∧ laidMetH Tryd.prog laidL w) ∧ sizedMet enc Tryd.prog Tryd.f5 (OpenSpec.ofChange Rows.filterBuildsSpec) false w args)
      (Rows.filterBuildsSpec.post enc Tryd.prog Tryd.f5 false true false false) := by
  refine returnsInHanded_of_change_and (C := Tryd.checked) (X := fun w _ => laidMetH Tryd.prog laidL w) (fun _ _ _ hh h => h.of_heap hh) own started (by kernel_rfl) Tryd.func5
    (ChangeSpec.witness_shaped (enc := enc) (C := Tryd.checked) (os := os) (X := fun w _ => laidMetH Tryd.prog laidL w) false (World.doorLaid Tryd.prog 400 os) #[.slice none 0 0, .int .i64 0, .slice none 0 0] 8 rfl (World.shaped_of_RefB (by kernel_rfl) (by kernel_rfl)) (by kernel_rfl) (by kernel_rfl) (by kernel_rfl) (door_met os _)) ?_
  intro W base args ds gs before hval0 hW hcnd hsz0 hL _
  have hval : ∀ (j : Nat) t v, Tryd.f5.params[j]? = some t → args[j]? = some v → Value.okWide Tryd.prog W .any base t v := hval0
  have hsz : (DataW.weightsEach Tryd.prog (Tryd.f5.params.toList ++ Rows.filterBuildsSpec.plain.varTypes Tryd.prog) (ds ++ gs)).all (· ≤ reachBytes) = true := hsz0
  have hW' := hW
  obtain ⟨p, q, hA0, hV, rfl, hfz, hnd⟩ := hW
  have hA : DataW.TrodAll enc Tryd.prog W 0 (fun _ => true) true Tryd.f5.params.toList args.toList ds p := hA0
  rw [Tryd.params5] at hA hval hsz
  obtain ⟨v0, vs0, d0, ds0, p0, q0, hargs, rfl, rfl, h0, r0⟩ := trodAll_cons hA
  obtain ⟨v1, vs1, d1, ds1, p1, q1, rfl, rfl, rfl, h1, r1⟩ := trodAll_cons r0
  obtain ⟨v2, vs2, d2, ds2, p2, q2, rfl, rfl, rfl, h2, r2⟩ := trodAll_cons r1
  obtain ⟨rfl, rfl, rfl⟩ := trodAll_nil r2
  obtain rfl : args = #[v0, v1, v2] := by cases args; simp_all
  obtain ⟨rfl, rfl⟩ := trodVars_none hV
  have hr : reachBytes = 140737488351232 := by decide
  have k0 := h0
  have lt0 : ∀ x ∈ p0, x.block < W.heap.size := by obtain ⟨m, hm⟩ := k0; exact DataW.trod_lt m _ _ _ hm
  obtain ⟨a0, len0, cap0, rfl⟩ := okWide_slice Tryd.underlying32 (hval 0 32 v0 rfl rfl)
  obtain ⟨b0, rd0, l0, m0, z0, y0⟩ : ∃ ss, RdS W a0 len0 ss ∧ len0 ≤ cap0 ∧ cap0 ≤ 8796093021952 ∧ (a0 = none → len0 = 0 ∧ cap0 = 0) ∧ ∀ s ∈ ss, s.size ≤ 140737488351232 := by
    obtain ⟨fuel, hf⟩ := h0
    rcases Deep.open_strs Tryd.underlying32 Tryd.underlying9 (by kernel_rfl) hf with ⟨hcs, _⟩ | ⟨x, l, c, m, Sx, hcs, _, hl, hm, hmm, hx, hcell⟩
    · simp [Value.cells] at hcs
      obtain ⟨rfl, rfl, rfl⟩ := hcs
      exact ⟨[], rds_nil _, by omega, by omega, (fun _ => ⟨rfl, rfl⟩), (fun s hs => absurd hs List.not_mem_nil)⟩
    · simp [Value.cells] at hcs
      obtain ⟨rfl, rfl, rfl⟩ := hcs
      simp only [Prod.mk.injEq] at hx
      have hmc : m = cap0 := by simpa using hmm
      subst hmc
      have hw := sized_slice hsz (j := 0) (t := 32) (e := 9) rfl (by rw [hx.1]; rfl) Tryd.underlying32
      have hws := fun bytes hb => sized_strs hsz (j := 0) (t := 32) (e := 9) rfl (by rw [hx.1]; rfl) Tryd.underlying32 (bytes := bytes) hb
      rw [show Tryd.prog.bytesOf 9 = 16 by kernel_rfl] at hw
      simp only [List.length_map, List.length_range, reachBytes] at hw
      refine ⟨_, rds_row hl (by omega) hcell, hl, by omega, (fun h => by cases h), ?_⟩
      intro s hs
      obtain ⟨i, hi, rfl⟩ := List.mem_map.1 hs
      have h1 := hws (Sx i).data.toList (List.mem_map.2 ⟨i, hi, rfl⟩)
      rw [hr] at h1
      rw [Array.length_toList] at h1
      exact h1
  obtain ⟨n1, rfl, rfl, rfl, w1⟩ := open_int Tryd.underlying3 (hval 1 3 v1 rfl rfl) h1
  have k2 := h2
  have lt2 : ∀ x ∈ p2, x.block < W.heap.size := by obtain ⟨m, hm⟩ := k2; exact DataW.trod_lt m _ _ _ hm
  obtain ⟨a2, len2, cap2, rfl⟩ := okWide_slice Tryd.underlying32 (hval 2 32 v2 rfl rfl)
  obtain ⟨b2, rd2, l2, m2, z2, y2⟩ : ∃ ss, RdS W a2 len2 ss ∧ len2 ≤ cap2 ∧ cap2 ≤ 8796093021952 ∧ (a2 = none → len2 = 0 ∧ cap2 = 0) ∧ ∀ s ∈ ss, s.size ≤ 140737488351232 := by
    obtain ⟨fuel, hf⟩ := h2
    rcases Deep.open_strs Tryd.underlying32 Tryd.underlying9 (by kernel_rfl) hf with ⟨hcs, _⟩ | ⟨x, l, c, m, Sx, hcs, _, hl, hm, hmm, hx, hcell⟩
    · simp [Value.cells] at hcs
      obtain ⟨rfl, rfl, rfl⟩ := hcs
      exact ⟨[], rds_nil _, by omega, by omega, (fun _ => ⟨rfl, rfl⟩), (fun s hs => absurd hs List.not_mem_nil)⟩
    · simp [Value.cells] at hcs
      obtain ⟨rfl, rfl, rfl⟩ := hcs
      simp only [Prod.mk.injEq] at hx
      have hmc : m = cap2 := by simpa using hmm
      subst hmc
      have hw := sized_slice hsz (j := 2) (t := 32) (e := 9) rfl (by rw [hx.1]; rfl) Tryd.underlying32
      have hws := fun bytes hb => sized_strs hsz (j := 2) (t := 32) (e := 9) rfl (by rw [hx.1]; rfl) Tryd.underlying32 (bytes := bytes) hb
      rw [show Tryd.prog.bytesOf 9 = 16 by kernel_rfl] at hw
      simp only [List.length_map, List.length_range, reachBytes] at hw
      refine ⟨_, rds_row hl (by omega) hcell, hl, by omega, (fun h => by cases h), ?_⟩
      intro s hs
      obtain ⟨i, hi, rfl⟩ := List.mem_map.1 hs
      have h1 := hws (Sx i).data.toList (List.mem_map.2 ⟨i, hi, rfl⟩)
      rw [hr] at h1
      rw [Array.length_toList] at h1
      exact h1
  have hK := of_laid1 hL
  clear hA0 hval0
  refine (walk a0 len0 cap0 b0 n1 a2 len2 cap2 b2 W hK rd0 l0 m0 z0 y0 w1 rd2 l2 m2 z2 y2).mono fun e W' ⟨he, bel⟩ => ?_
  subst he
  exact ⟨_, rfl, _, _, _, [], _, [], hW', trodAll_mk1 (shut_bool Tryd.underlying4 _), (trodAll_cons_mk (Below.trod laidOut (by kernel_rfl) (of_decide_eq_true (by kernel_rfl)) k0 bel lt0) (trodAll_cons_mk (shut_int Tryd.underlying3 w1) (trodAll_cons_mk (Below.trod laidOut (by kernel_rfl) (of_decide_eq_true (by kernel_rfl)) k2 bel lt2) trodAll_mk0))), rfl, bel.frame _, fun h => by cases h⟩
theorem over : Rows.filterBuildsRow.holds Tryd.pinned (OpenSpec.ofChange Rows.filterBuildsSpec) :=
  OpenClaim.holds_of_wide 5 Tryd.f5 rfl rfl rfl rfl rfl rfl rfl ⟨rfl, rfl, rfl, rfl, rfl⟩ rfl rfl rfl rfl rfl (by kernel_rfl) Tryd.func5 (by kernel_rfl)
    (of_decide_eq_true (by kernel_rfl)) (by unfold Func.isWrapper; first | (rw [if_pos (by decide +kernel)]; kernel_rfl) | (rw [if_neg (by decide +kernel)]; exact ⟨rfl, rfl⟩))
    (fun os started H enc _ => lifted os started H enc)
/-- THE STATEMENT. -/
theorem proved : Rows.FilterBuildsCardSaid :=
  Claim7.holds_tied_plain_at .later [] [.data] true (true, "e4f4a52f550f95bb7892b17d587d5a4f224a620b63548398dcfc02fa8fb08dba") false
    over (fun _ h => by cases h) (by kernel_rfl) (fun _ h => by cases h) filterBuilds_row_tie rfl ⟨rfl, rfl⟩ (by kernel_rfl) rfl
    (fun f fn hf hfn => by
      obtain rfl : f = 5 := Option.some.inj ((show Tryd.prog.funcNamed "winnow/winnowlaw7.FilterBuilds" = some 5 by kernel_rfl).symm.trans hf) |>.symm
      obtain rfl : fn = Tryd.f5 := (Option.some.inj (Tryd.func5.symm.trans hfn)).symm
      exact ⟨by kernel_rfl, fun j t ht => by
        rw [Tryd.params5] at ht
        have hm : t ∈ [32, 3, 32] := by simpa using Array.mem_of_getElem? ht
        have hall : ([32, 3, 32].all fun u => !Tryd.prog.wantsStandIn u) = true := by kernel_rfl
        exact (show Tryd.prog.wantsStandIn t = false by simpa using List.all_eq_true.1 hall t hm)⟩)
    (by kernel_rfl)
end Go.Proofs.YtpdlpahpefojbaaDoor.filterBuilds
