/-
  For every input the Go function NumsCursor returns true, and each argument reads behind the call as it read before. (Where the arguments are of bulk at most 1048576.)
-/
import Derived.Test.YtcchknpgkcmneaaNumsCursorWalk
import Derived.Test.YtcchknpgkcmneaaBase
import Derived.Test.YtcchknpgkcmneaaRows
import Derived.ChangeMaps5
import Derived.ShutString
import Derived.JoinedCond
import Derived.Test.YtcchknpgkcmneaaBulk
import Derived.Deep.Slices
import Derived.ChangeOld
import Derived.Below
namespace Go.Proofs.Ytcchknpgkcmneaa.numsCursor
open Go.ChangeShapes Go.WideShapes Go.ChangeAt Go.RowKit Go.ChangeMaps
open Go.Proofs.Ytcchknpgkcmneaa.Base Go.Proofs.Ytcchknpgkcmneaa.Curs
set_option linter.unusedVariables false
theorem cells_int : Try.prog.cellsOf 3 = 1 := by kernel_rfl
theorem cells_int64 : Try.prog.cellsOf 2 = 1 := by kernel_rfl
theorem cells_step : Try.prog.cellsOf 45 = 2 := by kernel_rfl
theorem two {cs : List Value} (h : cs.length = 2) : ∃ c0 c1, cs = [c0, c1] := by
  match cs, h with
  | [c0, c1], _ => exact ⟨c0, c1, rfl⟩
theorem trod_two {H : Type} {enc : TypeId × Value → H} {P : Program} {w : World} {base : Nat} {spare : Nat → Bool} {held : Bool} {t : TypeId} {f0 f1 : Field} {fuel : Nat} {cs : List Value} {x : DataW H × List MemPlace} (ht : P.underlying t = some (.struct #[f0, f1])) (h : DataW.trod enc P w base spare held fuel t cs = some x) :
    ∃ y0 y1 n, x.1 = .agg [y0.1, y1.1] ∧ DataW.trod enc P w base spare held n f0.type ((cs.drop f0.offset).take (P.cellsOf f0.type)) = some y0 ∧ DataW.trod enc P w base spare held n f1.type ((cs.drop f1.offset).take (P.cellsOf f1.type)) = some y1 := by
  obtain ⟨xs, n, _, rfl, hl, hlen, hf⟩ := DataW.trod_struct ht h
  match xs, hlen with
  | [y0, y1], _ => exact ⟨y0, y1, n, by simp, by simpa using hf 0 f0 rfl, by simpa using hf 1 f1 rfl⟩
theorem add_eq {x : Addr} (h : x.spot = none) (n : Nat) : x.add n = ⟨x.block, x.off + n, none⟩ := by
  obtain ⟨b, off, sp⟩ := x
  simp only at h
  subst h
  unfold Addr.add
  split
  · rename_i h; have h0 : n = 0 := by simpa using h
    subst h0; rfl
  · rfl
theorem spot_of {W : World} {x : Addr} {cs : List Value} (hcs : W.cells? 0 (x.add (0 * 2)) 2 = some cs) : x.spot = none ∧ x.block < W.heap.size := by
  obtain ⟨_, hl, hcell⟩ := World.cells?_some hcs
  obtain ⟨c0, c1, rfl⟩ := two hl
  have k0 : W.cell? x = some c0 := by simpa [Addr.add] using hcell 0 (by omega)
  exact ⟨World.cell?_spot k0, block_lt_of_cell k0⟩
theorem read_one {H : Type} {enc : TypeId × Value → H} {W : World} {held : Bool} {x : Addr} {i n : Nat} {cs : List Value} {D : DataW H} {Pl : List MemPlace}
    (hs : x.spot = none) (hcs : W.cells? 0 (x.add (i * 2)) 2 = some cs) (ht : DataW.trod enc Try.prog W 0 (fun _ => true) held n 45 cs = some (D, Pl)) :
    ∃ t : Int × Int, W.cell? ⟨x.block, x.off + i * 2, none⟩ = some (.int .i64 t.1) ∧ W.cell? ⟨x.block, x.off + i * 2 + 1, none⟩ = some (.int .i64 t.2) := by
  rw [add_eq hs] at hcs
  obtain ⟨_, hl, hcell⟩ := World.cells?_some hcs
  obtain ⟨c0, c1, rfl⟩ := two hl
  obtain ⟨y0, y1, n', hx, t0, t1⟩ := trod_two Try.underlying45 ht
  simp only [cells_int, cells_int64] at t0 t1
  obtain ⟨o, h0, _, _⟩ := DataW.trod_int Try.underlying3 t0
  obtain ⟨u, h1, _, _⟩ := DataW.trod_int Try.underlying2 t1
  simp at h0 h1
  subst h0 h1
  have k0 := hcell 0 (by omega)
  have k1 := hcell 1 (by omega)
  rw [add_eq rfl] at k0 k1
  simp at k0 k1
  exact ⟨(o, u), k0, k1⟩

set_option maxRecDepth 100000 in
theorem lifted (os : Os) (started : os.Started) (H : Type) (enc : TypeId × Value → H) (Fs : Stop.Interp) :
    ReturnsInHanded {} Try.checked os 3 .any ((Rows.OpenSpec.upto Rows.numsCursorSpec).pre6 enc Try.prog Try.f3 Rows.numsCursorUptoRow.domain false) (((Rows.OpenSpec.upto Rows.numsCursorSpec).at Fs).post enc Try.prog Try.f3 false true false false) := by
  refine returnsInHanded_of_cond (C := Try.checked) (s := Rows.OpenSpec.upto Rows.numsCursorSpec) (k := Rows.uptoSmall) rfl own started (by kernel_rfl) Try.func3
    (OpenSpec.witness (enc := enc) (C := Try.checked) (s := Rows.OpenSpec.upto Rows.numsCursorSpec) (k := Rows.uptoSmall) rfl false ⟨#[], #[.slice none 0 0, .slice none 0 0], []⟩ 8 (by kernel_rfl) (by kernel_rfl) (by kernel_rfl)
      (x := ([.nil, .nil], [], [])) (by kernel_rfl) rfl (by kernel_rfl)) ?_
  intro W base args ds gs before hval0 hW _ hk0 _
  have hval : ∀ (j : Nat) t v, Try.f3.params[j]? = some t → args[j]? = some v → Value.okWide Try.prog W .any base t v := hval0
  have hk : Rows.uptoSmall H (ds ++ gs) = true := hk0
  have hW' := hW
  obtain ⟨p, q, hA0, hV, rfl, hfz, hnd⟩ := hW
  have hA : DataW.TrodAll enc Try.prog W 0 (fun _ => true) true Try.f3.params.toList args.toList ds p := hA0
  rw [Try.params3] at hA hval
  obtain ⟨v0, vs0, d0, ds0, p0, q0, hargs, rfl, rfl, h0, r0⟩ := trodAll_cons hA
  obtain ⟨v1, vs1, d1, ds1, p1, q1, rfl, rfl, rfl, h1, r1⟩ := trodAll_cons r0
  obtain ⟨rfl, rfl, rfl⟩ := trodAll_nil r1
  obtain rfl : args = #[v0, v1] := by cases args; simp_all
  obtain ⟨rfl, rfl⟩ := trodVars_none hV
  obtain ⟨a0, len0, cap0, rfl⟩ := okWide_slice Try.underlying22 (hval 0 22 v0 rfl rfl)
  have k0 := h0
  have lt0 : ∀ x ∈ p0, x.block < W.heap.size := by obtain ⟨m, hm⟩ := k0; exact DataW.trod_lt m _ _ _ hm
  obtain ⟨b0, rd0, l0, m0, z0⟩ : ∃ bs, Rd W a0 len0 bs ∧ len0 ≤ cap0 ∧ cap0 ≤ 1048576 ∧ (a0 = none → len0 = 0 ∧ cap0 = 0) := by
    obtain ⟨fuel, hf⟩ := h0
    rcases open_ints Try.underlying22 Try.underlying5 (by kernel_rfl) hf with ⟨hcs, _⟩ | ⟨x, l, c, zs, hcs, _, hl, hm, hz, hx, hcell, hwz⟩
    · simp [Value.cells] at hcs
      obtain ⟨rfl, rfl, rfl⟩ := hcs
      exact ⟨[], rd_nil _, by omega, by omega, fun _ => ⟨rfl, rfl⟩⟩
    · simp [Value.cells] at hcs
      obtain ⟨rfl, rfl, rfl⟩ := hcs
      simp only [Prod.mk.injEq] at hx
      have hz' : zs.length = cap0 := by simpa using hz
      have hw := Bulk.places hx.1 (by simp) hk
      simp only [lits, List.length_map, List.length_take, List.length_drop] at hw
      obtain ⟨bs, hbs⟩ := rd_row hl hz' hcell hwz (by omega)
      exact ⟨bs, hbs, hl, by omega, fun h => by cases h⟩
  obtain ⟨a1, len1, cap1, rfl⟩ := okWide_slice Try.underlying23 (hval 1 23 v1 rfl rfl)
  have k1 := h1
  have lt1 : ∀ x ∈ p1, x.block < W.heap.size := by obtain ⟨m, hm⟩ := k1; exact DataW.trod_lt m _ _ _ hm
  obtain ⟨ps, rp, l1, m1⟩ : ∃ ps, RdP W a1 len1 ps ∧ len1 ≤ cap1 ∧ cap1 ≤ 1048576 := by
    obtain ⟨fuel, hf⟩ := h1
    rcases Deep.open_slice Try.underlying23 hf with ⟨hcs, _⟩ | ⟨x, l, c, m, n, D, Pl, hcs, _, hl, hmx, hm, hx, hel⟩
    · simp [Value.cells] at hcs
      obtain ⟨rfl, rfl, rfl⟩ := hcs
      exact ⟨[], ⟨rfl, fun h => absurd h (by omega)⟩, by omega, by omega⟩
    · simp [Value.cells] at hcs
      obtain ⟨rfl, rfl, rfl⟩ := hcs
      simp only [Prod.mk.injEq] at hx
      simp only [if_true] at hm
      have hm' := hm.symm
      subst hm'
      rw [cells_step] at hel
      have hw := Bulk.places hx.1 (by simp) hk
      simp only [List.length_map, List.length_range] at hw
      have hcap : cap1 ≤ 1048576 := by omega
      by_cases hz : len1 = 0
      · subst hz
        exact ⟨[], ⟨rfl, fun h => absurd h (by omega)⟩, hl, hcap⟩
      · obtain ⟨cs0, hc0, _⟩ := hel 0 (by omega)
        obtain ⟨hs, hb⟩ := spot_of hc0
        have hex : ∀ i, ∃ t : Int × Int, i < len1 → W.cell? ⟨x.block, x.off + i * 2, none⟩ = some (.int .i64 t.1) ∧ W.cell? ⟨x.block, x.off + i * 2 + 1, none⟩ = some (.int .i64 t.2) := by
          intro i
          by_cases hi : i < len1
          · obtain ⟨cs', hcs', ht'⟩ := hel i (by omega)
            obtain ⟨t, ht⟩ := read_one hs hcs' ht'
            exact ⟨t, fun _ => ht⟩
          · exact ⟨(0, 0), fun h => absurd h hi⟩
        obtain ⟨f, hf'⟩ := Classical.axiomOfChoice hex
        refine ⟨(List.range len1).map f, ⟨by simp, fun _ => ⟨x.block, x.off, by obtain ⟨b, o, sp⟩ := x; simp only at hs; subst hs; rfl, hb, fun i hi => ?_⟩⟩, hl, hcap⟩
        have hg : ((List.range len1).map f).getD i (0, 0) = f i := by
          rw [List.getD_eq_getElem?_getD, List.getElem?_map, List.getElem?_range hi]; rfl
        rw [hg]
        exact hf' i hi
  clear hA0 hval0
  refine (walk a0 len0 cap0 b0 a1 len1 cap1 ps W rd0 l0 m0 z0 rp l1 m1).mono fun e W' ⟨he, bel⟩ => ?_
  subst he
  exact ⟨_, rfl, _, _, _, [], _, [], hW', trodAll_mk1 (shut_bool Try.underlying4 _), (trodAll_cons_mk (Below.trod laidOut (by kernel_rfl) (of_decide_eq_true (by kernel_rfl)) k0 bel lt0) (trodAll_cons_mk (Below.trod laidOut (by kernel_rfl) (of_decide_eq_true (by kernel_rfl)) k1 bel lt1) trodAll_mk0)), rfl, bel.frame _, fun h => by cases h⟩

/-- THE STATEMENT. -/
theorem proved : Rows.NumsCursorUptoSaid :=
  OpenClaim.holds_of_cond 3 Try.f3 rfl rfl rfl rfl rfl rfl rfl ⟨rfl, rfl, rfl, rfl, rfl⟩ rfl rfl rfl rfl rfl (by kernel_rfl) Try.func3 (by kernel_rfl)
    (of_decide_eq_true (by kernel_rfl)) (by unfold Func.isWrapper; first | (rw [if_pos (by decide +kernel)]; kernel_rfl) | (rw [if_neg (by decide +kernel)]; exact ⟨rfl, rfl⟩))
    (fun os started H enc _ Fs => lifted os started H enc Fs)
end Go.Proofs.Ytcchknpgkcmneaa.numsCursor
