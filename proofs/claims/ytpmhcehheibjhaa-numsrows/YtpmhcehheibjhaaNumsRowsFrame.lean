/-
  For every input the Go function NumsRows returns true, and each argument reads behind the call as it read before.
-/
import Derived.Test.YtpmhcehheibjhaaNumsRowsWalk
import Derived.Test.YtpmhcehheibjhaaBase
import Derived.Test.YtpmhcehheibjhaaRows
import Derived.Deep.Slices
import Derived.Deep.Strs
import Derived.ShutString
import Derived.ProofKit
import Derived.ChangeOld
import Derived.Below
namespace Go.Proofs.Ytpmhcehheibjhaa.numsRows
open Go.ChangeShapes Go.WideShapes Go.ChangeAt Go.RowKit Go.Deep
open Go.Proofs.Ytpmhcehheibjhaa.Base Go.Proofs.Ytpmhcehheibjhaa.Curs
set_option linter.unusedVariables false
theorem weights_all {H : Type} {P : Program} {e : TypeId} {d : DataW H} {n : Nat} (hn : n ∈ d.weights P e) : ∀ {l : List (DataW H)}, d ∈ l → n ∈ DataW.weightsAll P e l
  | [], h => by cases h
  | x :: r, h => by
    unfold DataW.weightsAll
    rcases List.mem_cons.1 h with rfl | h
    · exact List.mem_append_left _ hn
    · exact List.mem_append_right _ (weights_all hn h)
/-- One item, as it lies in memory. -/
def One (W : World) (b off i : Nat) (t : Int × Int × Int × ByteArray) : Prop :=
  W.cell? ⟨b, off + i * 4, none⟩ = some (.int .i64 t.1) ∧ W.cell? ⟨b, off + i * 4 + 1, none⟩ = some (.int .i64 t.2.1) ∧ W.cell? ⟨b, off + i * 4 + 2, none⟩ = some (.int .i64 t.2.2.1) ∧ W.cell? ⟨b, off + i * 4 + 3, none⟩ = some (.string t.2.2.2) ∧
    t.2.1 ≤ 9223372036854775807 ∧ t.2.2.2.size ≤ 140737488351232
theorem cells_int : Try.prog.cellsOf 3 = 1 := by kernel_rfl
theorem cells_int64 : Try.prog.cellsOf 2 = 1 := by kernel_rfl
theorem cells_str : Try.prog.cellsOf 9 = 1 := by kernel_rfl
theorem cells_item : Try.prog.cellsOf 39 = 4 := by kernel_rfl
theorem bytes_item : Try.prog.bytesOf 39 = 40 := by kernel_rfl
theorem four {cs : List Value} (h : cs.length = 4) : ∃ c0 c1 c2 c3, cs = [c0, c1, c2, c3] := by
  match cs, h with
  | [c0, c1, c2, c3], _ => exact ⟨c0, c1, c2, c3, rfl⟩
theorem trod_struct4 {H : Type} {enc : TypeId × Value → H} {P : Program} {w : World} {base : Nat} {spare : Nat → Bool} {held : Bool} {t : TypeId} {f0 f1 f2 f3 : Field} {fuel : Nat} {cs : List Value} {x : DataW H × List MemPlace} (ht : P.underlying t = some (.struct #[f0, f1, f2, f3])) (h : DataW.trod enc P w base spare held fuel t cs = some x) :
    ∃ y0 y1 y2 y3 n, x.1 = .agg [y0.1, y1.1, y2.1, y3.1] ∧ cs.length = P.cellsOf t ∧ DataW.trod enc P w base spare held n f0.type ((cs.drop f0.offset).take (P.cellsOf f0.type)) = some y0 ∧
      DataW.trod enc P w base spare held n f1.type ((cs.drop f1.offset).take (P.cellsOf f1.type)) = some y1 ∧ DataW.trod enc P w base spare held n f2.type ((cs.drop f2.offset).take (P.cellsOf f2.type)) = some y2 ∧ DataW.trod enc P w base spare held n f3.type ((cs.drop f3.offset).take (P.cellsOf f3.type)) = some y3 := by
  obtain ⟨xs, n, _, rfl, hl, hlen, hf⟩ := DataW.trod_struct ht h
  match xs, hlen with
  | [y0, y1, y2, y3], _ => exact ⟨y0, y1, y2, y3, n, by simp, hl, by simpa using hf 0 f0 rfl, by simpa using hf 1 f1 rfl, by simpa using hf 2 f2 rfl, by simpa using hf 3 f3 rfl⟩
theorem add_eq {x : Addr} (h : x.spot = none) (n : Nat) : x.add n = ⟨x.block, x.off + n, none⟩ := by
  obtain ⟨b, off, sp⟩ := x
  simp only at h
  subst h
  unfold Addr.add
  split
  · rename_i h; have h0 : n = 0 := by simpa using h
    subst h0; rfl
  · rfl
theorem spot_of {W : World} {x : Addr} {cs : List Value} (hcs : W.cells? 0 (x.add (0 * 4)) 4 = some cs) : x.spot = none ∧ x.block < W.heap.size := by
  obtain ⟨_, hl, hcell⟩ := World.cells?_some hcs
  obtain ⟨c0, c1, c2, c3, rfl⟩ := four hl
  have k0 : W.cell? x = some c0 := by simpa [Addr.add] using hcell 0 (by omega)
  exact ⟨World.cell?_spot k0, block_lt_of_cell k0⟩
theorem read_one {H : Type} {enc : TypeId × Value → H} {W : World} {held : Bool} {x : Addr} {i n : Nat} {cs : List Value} {D : DataW H} {Pl : List MemPlace}
    (hs : x.spot = none) (hcs : W.cells? 0 (x.add (i * 4)) 4 = some cs) (ht : DataW.trod enc Try.prog W 0 (fun _ => true) held n 39 cs = some (D, Pl))
    (hw : ∀ z ∈ D.weights Try.prog 39, z ≤ reachBytes) : ∃ t, One W x.block x.off i t := by
  rw [add_eq hs] at hcs
  obtain ⟨_, hl, hcell⟩ := World.cells?_some hcs
  obtain ⟨c0, c1, c2, c3, rfl⟩ := four hl
  obtain ⟨y0, y1, y2, y3, n', hx, _, t0, t1, t2, t3⟩ := trod_struct4 Try.underlying39 ht
  simp only [cells_int, cells_int64, cells_str] at t0 t1 t2 t3
  simp only at hx
  subst hx
  obtain ⟨o, h0, _, _⟩ := DataW.trod_int Try.underlying3 t0
  obtain ⟨u, h1, _, wf1⟩ := DataW.trod_int Try.underlying2 t1
  obtain ⟨v, h2, _, _⟩ := DataW.trod_int Try.underlying3 t2
  obtain ⟨s, h3, hy3, _⟩ := DataW.trod_string Try.underlying9 t3
  simp at h0 h1 h2 h3
  subst h0 h1 h2 h3
  have k0 := hcell 0 (by omega)
  have k1 := hcell 1 (by omega)
  have k2 := hcell 2 (by omega)
  have k3 := hcell 3 (by omega)
  rw [add_eq rfl] at k0 k1 k2 k3
  simp at k0 k1 k2 k3
  have hb := hw s.data.toList.length (by
    unfold DataW.weights
    rw [Try.underlying39]
    refine DataW.weights_mem_each (j := 3) (t := 9) (d := y3.1) rfl rfl _ ?_
    rw [hy3]
    simp [DataW.weights])
  have hr : reachBytes = 140737488351232 := by decide
  rw [hr] at hb
  exact ⟨(o, u, v, s), k0, k1, k2, k3, (bounds_i64 wf1).2, hb⟩
set_option maxRecDepth 100000 in
theorem lifted (os : Os) (started : os.Started) (H : Type) (enc : TypeId × Value → H) :
    ReturnsInHanded {} Try.checked os 4 .any (Rows.numsRowsSpec.pre6 enc Try.prog Try.f4 Rows.numsRowsRow.domain false) (Rows.numsRowsSpec.post enc Try.prog Try.f4 false true false false) := by
  refine returnsInHanded_of_change_sized (C := Try.checked) own started (by kernel_rfl) Try.func4
    (ChangeSpec.witness6 (enc := enc) (C := Try.checked) false ⟨#[], #[.slice none 0 0], []⟩ 8 (by kernel_rfl) (by kernel_rfl) (by kernel_rfl) (by kernel_rfl)) ?_
  intro W base args ds gs before hval0 hW hcnd hsz0 _
  have hval : ∀ (j : Nat) t v, Try.f4.params[j]? = some t → args[j]? = some v → Value.okWide Try.prog W .any base t v := hval0
  have hsz : (DataW.weightsEach Try.prog (Try.f4.params.toList ++ Rows.numsRowsSpec.plain.varTypes Try.prog) (ds ++ gs)).all (· ≤ reachBytes) = true := hsz0
  have hW' := hW
  obtain ⟨p, q, hA0, hV, rfl, hfz, hnd⟩ := hW
  have hA : DataW.TrodAll enc Try.prog W 0 (fun _ => true) true Try.f4.params.toList args.toList ds p := hA0
  rw [Try.params4] at hA hval hsz
  obtain ⟨v0, vs0, d0, ds0, p0, q0, hargs, rfl, rfl, h0, r0⟩ := trodAll_cons hA
  obtain ⟨rfl, rfl, rfl⟩ := trodAll_nil r0
  obtain rfl : args = #[v0] := by cases args; simp_all
  obtain ⟨rfl, rfl⟩ := trodVars_none hV
  obtain ⟨a0, len0, cap0, rfl⟩ := okWide_slice Try.underlying35 (hval 0 35 v0 rfl rfl)
  have k0 := h0
  have lt0 : ∀ x ∈ p0, x.block < W.heap.size := by obtain ⟨m, hm⟩ := k0; exact DataW.trod_lt m _ _ _ hm
  obtain ⟨kd, vv, nn, ss, hacts, hlen, hone⟩ : ∃ (kd vv nn : Nat → Int) (ss : Nat → ByteArray), ItemsAt W a0 len0 kd vv nn ss ∧ len0 ≤ 140737488351232 ∧
      (∀ i, i < len0 → vv i ≤ 9223372036854775807 ∧ (ss i).size ≤ 140737488351232) := by
    obtain ⟨fuel, hf⟩ := h0
    rcases open_slice Try.underlying35 hf with ⟨hcs, _⟩ | ⟨x, l, c, m, n, D, Pl, hcs, _, hl, hmx, hm, hx, hel⟩
    · simp [Value.cells] at hcs
      obtain ⟨rfl, rfl, rfl⟩ := hcs
      exact ⟨fun _ => 0, fun _ => 0, fun _ => 0, fun _ => ⟨#[]⟩, fun h => by omega, by omega, fun i h => by omega⟩
    · simp [Value.cells] at hcs
      obtain ⟨rfl, rfl, rfl⟩ := hcs
      simp only [Prod.mk.injEq] at hx
      simp only [if_true] at hm
      subst hm
      rw [cells_item] at hel
      have hr : reachBytes = 140737488351232 := by decide
      have hw := sized_slice hsz (j := 0) (t := 35) (e := 39) rfl (by rw [hx.1]; rfl) Try.underlying35
      rw [bytes_item, hr] at hw
      simp only [List.length_map, List.length_range] at hw
      by_cases hz : len0 = 0
      · subst hz
        exact ⟨fun _ => 0, fun _ => 0, fun _ => 0, fun _ => ⟨#[]⟩, fun h => by omega, by omega, fun i h => by omega⟩
      · obtain ⟨cs0, hc0, _⟩ := hel 0 (by omega)
        obtain ⟨hs, hb⟩ := spot_of hc0
        have hex : ∀ i, ∃ t, i < len0 → One W x.block x.off i t := by
          intro i
          by_cases hi : i < len0
          · obtain ⟨cs', hcs', ht'⟩ := hel i (by omega)
            obtain ⟨t, ht⟩ := read_one hs hcs' ht' (fun z hz => by
              have hmem : D i ∈ (List.range len0).map D := List.mem_map.2 ⟨i, List.mem_range.2 hi, rfl⟩
              have h1 : z ∈ d0.weights Try.prog 35 := by
                rw [hx.1]
                unfold DataW.weights
                rw [Try.underlying35]
                exact List.mem_cons_of_mem _ (List.mem_append_left _ (weights_all hz hmem))
              have h2 := List.all_eq_true.1 hsz z (DataW.weights_mem_each (j := 0) rfl rfl z h1)
              simpa using h2)
            exact ⟨t, fun _ => ht⟩
          · exact ⟨(0, 0, 0, ⟨#[]⟩), fun h => absurd h hi⟩
        obtain ⟨f, hf'⟩ := Classical.axiomOfChoice hex
        refine ⟨fun i => (f i).1, fun i => (f i).2.1, fun i => (f i).2.2.1, fun i => (f i).2.2.2, fun _ => ⟨x.block, x.off, ?_, hb, fun i hi => ?_⟩, by omega, fun i hi => ?_⟩
        · rw [← hs]
        · obtain ⟨c0, c1, c2, c3, _⟩ := hf' i hi; exact ⟨c0, c1, c2, c3⟩
        · obtain ⟨_, _, _, _, h1⟩ := hf' i hi; exact h1
  clear hA0 hval0
  refine (walk a0 len0 cap0 kd vv nn ss W hacts hlen hone).mono fun e W' ⟨he, bel⟩ => ?_
  subst he
  exact ⟨_, rfl, _, _, _, [], _, [], hW', trodAll_mk1 (shut_bool Try.underlying4 _), (trodAll_cons_mk (Below.trod laidOut (by kernel_rfl) (of_decide_eq_true (by kernel_rfl)) k0 bel lt0) trodAll_mk0), rfl, bel.frame _, fun h => by cases h⟩
theorem over : Rows.numsRowsRow.holds Try.pinned (OpenSpec.ofChange Rows.numsRowsSpec) :=
  OpenClaim.holds_of_wide 4 Try.f4 rfl rfl rfl rfl rfl rfl rfl ⟨rfl, rfl, rfl, rfl, rfl⟩ rfl rfl rfl rfl rfl (by kernel_rfl) Try.func4 (by kernel_rfl)
    (of_decide_eq_true (by kernel_rfl)) (by unfold Func.isWrapper; first | (rw [if_pos (by decide +kernel)]; kernel_rfl) | (rw [if_neg (by decide +kernel)]; exact ⟨rfl, rfl⟩))
    (fun os started H enc _ => lifted os started H enc)
/-- THE STATEMENT. -/
theorem proved : Rows.NumsRowsSaid := over
end Go.Proofs.Ytpmhcehheibjhaa.numsRows
