/-
  For every input the Go function LzTokens returns true, and each argument reads behind the call as it read before.
-/
import Derived.Test.YtckfkilpoimikaaLzTokensWalk
import Derived.Test.YtckfkilpoimikaaBase
import Derived.Test.YtckfkilpoimikaaRows
import Derived.Deep.Slices
import Derived.Deep.Strs
import Derived.ShutString
import Derived.ProofKit
import Derived.ChangeOld
import Derived.Below
namespace Go.Proofs.Ytckfkilpoimikaa.lzTokens
open Go.ChangeShapes Go.WideShapes Go.ChangeAt Go.RowKit Go.Deep
open Go.Proofs.Ytckfkilpoimikaa.Base Go.Proofs.Ytckfkilpoimikaa.Lz
set_option linter.unusedVariables false
theorem weights_all {H : Type} {P : Program} {e : TypeId} {d : DataW H} {n : Nat} (hn : n ∈ d.weights P e) : ∀ {l : List (DataW H)}, d ∈ l → n ∈ DataW.weightsAll P e l
  | [], h => by cases h
  | x :: r, h => by
    unfold DataW.weightsAll
    rcases List.mem_cons.1 h with rfl | h
    · exact List.mem_append_left _ hn
    · exact List.mem_append_right _ (weights_all hn h)
theorem cells_int : Try.prog.cellsOf 3 = 1 := by kernel_rfl
theorem cells_bytes : Try.prog.cellsOf 23 = 1 := by kernel_rfl
theorem cells_act : Try.prog.cellsOf 32 = 3 := by kernel_rfl
theorem bytes_act : Try.prog.bytesOf 32 = 40 := by kernel_rfl
theorem three {cs : List Value} (h : cs.length = 3) : ∃ c0 c1 c2, cs = [c0, c1, c2] := by
  match cs, h with
  | [c0, c1, c2], _ => exact ⟨c0, c1, c2, rfl⟩
theorem add_eq {x : Addr} (h : x.spot = none) (n : Nat) : x.add n = ⟨x.block, x.off + n, none⟩ := by
  obtain ⟨b, off, sp⟩ := x
  simp only at h
  subst h
  unfold Addr.add
  split
  · rename_i h; have h0 : n = 0 := by simpa using h
    subst h0; rfl
  · rfl
theorem spot_of {W : World} {x : Addr} {cs : List Value} (hcs : W.cells? 0 (x.add (0 * 3)) 3 = some cs) : x.spot = none ∧ x.block < W.heap.size := by
  obtain ⟨_, hl, hcell⟩ := World.cells?_some hcs
  obtain ⟨c0, c1, c2, rfl⟩ := three hl
  have k0 : W.cell? x = some c0 := by simpa [Addr.add] using hcell 0 (by omega)
  exact ⟨World.cell?_spot k0, block_lt_of_cell k0⟩
theorem read_one {H : Type} {enc : TypeId × Value → H} {W : World} {held : Bool} {x : Addr} {i n : Nat} {cs : List Value} {D : DataW H} {Pl : List MemPlace}
    (hs : x.spot = none) (hcs : W.cells? 0 (x.add (i * 3)) 3 = some cs) (ht : DataW.trod enc Try.prog W 0 (fun _ => true) held n 32 cs = some (D, Pl))
    (hw : ∀ z ∈ D.weights Try.prog 32, z ≤ reachBytes) : ∃ t : Tok, TokIn W x.block x.off i t ∧ t.lit.length ≤ 140737488351232 := by
  rw [add_eq hs] at hcs
  obtain ⟨_, hl, hcell⟩ := World.cells?_some hcs
  obtain ⟨c0, c1, c2, rfl⟩ := three hl
  obtain ⟨y0, y1, y2, n', hx, _, t0, t1, t2⟩ := trod_struct3 Try.underlying32 ht
  simp only [cells_int, cells_bytes] at t0 t1 t2
  simp only [Prod.mk.injEq] at hx
  obtain ⟨rfl, _⟩ := hx
  obtain ⟨o, h0, _, _⟩ := DataW.trod_int Try.underlying3 t1
  obtain ⟨u, h1, _, _⟩ := DataW.trod_int Try.underlying3 t2
  simp at h0 h1
  subst h0 h1
  have k0 := hcell 0 (by omega)
  have k1 := hcell 1 (by omega)
  have k2 := hcell 2 (by omega)
  rw [add_eq rfl] at k0 k1 k2
  simp at k0 k1 k2
  rcases open_ints Try.underlying23 Try.underlying5 (by kernel_rfl) t0 with ⟨hc, _⟩ | ⟨xx, l, c, zs, hc, _, hl', hm, hz, hx', hcell', hwz⟩
  · simp at hc
    subst hc
    exact ⟨⟨[], o, u⟩, ⟨none, 0, 0, k0, k1, k2, rd_nil _, by omega, by omega, fun _ => ⟨rfl, rfl⟩⟩, by simp⟩
  · simp at hc
    subst hc
    have hx1 := congrArg Prod.fst hx'
    have hz' : zs.length = c := by simpa using hz
    have hb := hw ((zs.length) * 1) (by
      unfold DataW.weights
      rw [Try.underlying32]
      refine DataW.weights_mem_each (j := 0) (t := 23) (d := y0.1) rfl rfl _ ?_
      rw [hx1]
      unfold DataW.weights
      rw [Try.underlying23]
      simp [bytes8, lits]
      left; omega)
    have hr : reachBytes = 140737488351232 := by decide
    rw [Nat.mul_one, hz', hr] at hb
    obtain ⟨bs, hbs⟩ := rd_row hl' hz' hcell' hwz hb
    exact ⟨⟨bs, o, u⟩, ⟨some xx, l, c, k0, k1, k2, hbs, hl', by omega, fun h => by cases h⟩, by rw [hbs.1]; omega⟩
set_option maxRecDepth 100000 in
theorem lifted (os : Os) (started : os.Started) (H : Type) (enc : TypeId × Value → H) :
    ReturnsInHanded {} Try.checked os 6 .any (Rows.lzTokensSpec.pre6 enc Try.prog Try.f6 Rows.lzTokensRow.domain false) (Rows.lzTokensSpec.post enc Try.prog Try.f6 false true false false) := by
  refine returnsInHanded_of_change_sized (C := Try.checked) own started (by kernel_rfl) Try.func6
    (ChangeSpec.witness6 (enc := enc) (C := Try.checked) false ⟨#[], #[.slice none 0 0], []⟩ 8 (by kernel_rfl) (by kernel_rfl) (by kernel_rfl) (by kernel_rfl)) ?_
  intro W base args ds gs before hval0 hW hcnd hsz0 _
  have hval : ∀ (j : Nat) t v, Try.f6.params[j]? = some t → args[j]? = some v → Value.okWide Try.prog W .any base t v := hval0
  have hsz : (DataW.weightsEach Try.prog (Try.f6.params.toList ++ Rows.lzTokensSpec.plain.varTypes Try.prog) (ds ++ gs)).all (· ≤ reachBytes) = true := hsz0
  have hW' := hW
  obtain ⟨p, q, hA0, hV, rfl, hfz, hnd⟩ := hW
  have hA : DataW.TrodAll enc Try.prog W 0 (fun _ => true) true Try.f6.params.toList args.toList ds p := hA0
  rw [Try.params6] at hA hval hsz
  obtain ⟨v0, vs0, d0, ds0, p0, q0, hargs, rfl, rfl, h0, r0⟩ := trodAll_cons hA
  obtain ⟨rfl, rfl, rfl⟩ := trodAll_nil r0
  obtain rfl : args = #[v0] := by cases args; simp_all
  obtain ⟨rfl, rfl⟩ := trodVars_none hV
  obtain ⟨a0, len0, cap0, rfl⟩ := okWide_slice Try.underlying33 (hval 0 33 v0 rfl rfl)
  have k0 := h0
  have lt0 : ∀ x ∈ p0, x.block < W.heap.size := by obtain ⟨m, hm⟩ := k0; exact DataW.trod_lt m _ _ _ hm
  obtain ⟨ts, htr, hlen, hone⟩ : ∃ ts : List Tok, TRd W a0 len0 ts ∧ len0 ≤ 3518437208780 ∧ (∀ t, t ∈ ts → t.lit.length ≤ 140737488351232) := by
    obtain ⟨fuel, hf⟩ := h0
    rcases open_slice Try.underlying33 hf with ⟨hcs, _⟩ | ⟨x, l, c, m, n, D, Pl, hcs, _, hl, hmx, hm, hx, hel⟩
    · simp [Value.cells] at hcs
      obtain ⟨rfl, rfl, rfl⟩ := hcs
      exact ⟨[], ⟨rfl, by omega, fun h => absurd h (by omega)⟩, by omega, fun t h => by cases h⟩
    · simp [Value.cells] at hcs
      obtain ⟨rfl, rfl, rfl⟩ := hcs
      simp only [Prod.mk.injEq] at hx
      simp only [if_true] at hm
      subst hm
      rw [cells_act] at hel
      have hr : reachBytes = 140737488351232 := by decide
      have hw := sized_slice hsz (j := 0) (t := 33) (e := 32) rfl (by rw [hx.1]; rfl) Try.underlying33
      rw [bytes_act, hr] at hw
      simp only [List.length_map, List.length_range] at hw
      by_cases hz : len0 = 0
      · subst hz
        exact ⟨[], ⟨rfl, by omega, fun h => absurd h (by omega)⟩, by omega, fun t h => by cases h⟩
      · obtain ⟨cs0, hc0, _⟩ := hel 0 (by omega)
        obtain ⟨hs, hb⟩ := spot_of hc0
        have hex : ∀ i, ∃ t : Tok, i < len0 → TokIn W x.block x.off i t ∧ t.lit.length ≤ 140737488351232 := by
          intro i
          by_cases hi : i < len0
          · obtain ⟨cs', hcs', ht'⟩ := hel i (by omega)
            obtain ⟨t, ht⟩ := read_one hs hcs' ht' (fun z hz => by
              have hmem : D i ∈ (List.range len0).map D := List.mem_map.2 ⟨i, List.mem_range.2 hi, rfl⟩
              have h1 : z ∈ d0.weights Try.prog 33 := by
                rw [hx.1]
                unfold DataW.weights
                rw [Try.underlying33]
                exact List.mem_cons_of_mem _ (List.mem_append_left _ (weights_all hz hmem))
              have h2 := List.all_eq_true.1 hsz z (DataW.weights_mem_each (j := 0) rfl rfl z h1)
              simpa using h2)
            exact ⟨t, fun _ => ht⟩
          · exact ⟨⟨[], 0, 0⟩, fun h => absurd h hi⟩
        obtain ⟨f, hf'⟩ := Classical.axiomOfChoice hex
        refine ⟨(List.range len0).map f, ⟨by simp, by omega, fun _ => ⟨x.block, x.off, by rw [← hs], hb, fun i hi => ?_⟩⟩, by omega, fun t ht => ?_⟩
        · have e : tokAt ((List.range len0).map f) i = f i := by
            unfold tokAt
            rw [List.getD_eq_getElem?_getD, List.getElem?_map, List.getElem?_range hi]; rfl
          rw [e]
          exact (hf' i hi).1
        · obtain ⟨i, hi, rfl⟩ := List.mem_map.1 ht
          exact (hf' i (List.mem_range.1 hi)).2
  clear hA0 hval0
  refine (walk a0 len0 cap0 ts W htr hlen hone).mono fun e W' ⟨he, bel⟩ => ?_
  subst he
  exact ⟨_, rfl, _, _, _, [], _, [], hW', trodAll_mk1 (shut_bool Try.underlying4 _), (trodAll_cons_mk (Below.trod laidOut (by kernel_rfl) (of_decide_eq_true (by kernel_rfl)) k0 bel lt0) trodAll_mk0), rfl, bel.frame _, fun h => by cases h⟩
theorem over : Rows.lzTokensRow.holds Try.pinned (OpenSpec.ofChange Rows.lzTokensSpec) :=
  OpenClaim.holds_of_wide 6 Try.f6 rfl rfl rfl rfl rfl rfl rfl ⟨rfl, rfl, rfl, rfl, rfl⟩ rfl rfl rfl rfl rfl (by kernel_rfl) Try.func6 (by kernel_rfl)
    (of_decide_eq_true (by kernel_rfl)) (by unfold Func.isWrapper; first | (rw [if_pos (by decide +kernel)]; kernel_rfl) | (rw [if_neg (by decide +kernel)]; exact ⟨rfl, rfl⟩))
    (fun os started H enc _ => lifted os started H enc)
/-- THE STATEMENT. -/
theorem proved : Rows.LzTokensSaid := over
end Go.Proofs.Ytckfkilpoimikaa.lzTokens
