/-
  For every input the Go function StoreWhole returns true, and each argument reads behind the call as it read before.
-/
import Derived.Test.YtdcjhjpbkpiddaaStoreWholeWalk
import Derived.Test.YtdcjhjpbkpiddaaBase
import Derived.Test.YtdcjhjpbkpiddaaRows
import Derived.Deep.Slices
import Derived.Deep.Strs
import Derived.ShutString
import Derived.ProofKit
import Derived.ChangeOld
import Derived.Below
namespace Go.Proofs.Ytdcjhjpbkpiddaa.storeWhole
open Go.ChangeShapes Go.WideShapes Go.ChangeAt Go.RowKit Go.Deep
open Go.Proofs.Ytdcjhjpbkpiddaa.Base
set_option linter.unusedVariables false
theorem weights_all {H : Type} {P : Program} {e : TypeId} {d : DataW H} {n : Nat} (hn : n ∈ d.weights P e) : ∀ {l : List (DataW H)}, d ∈ l → n ∈ DataW.weightsAll P e l
  | [], h => by cases h
  | x :: r, h => by
    unfold DataW.weightsAll
    rcases List.mem_cons.1 h with rfl | h
    · exact List.mem_append_left _ hn
    · exact List.mem_append_right _ (weights_all hn h)
theorem cells_int : Try.prog.cellsOf 3 = 1 := by kernel_rfl
theorem cells_int64 : Try.prog.cellsOf 2 = 1 := by kernel_rfl
theorem cells_bool : Try.prog.cellsOf 4 = 1 := by kernel_rfl
theorem cells_bytes : Try.prog.cellsOf 25 = 1 := by kernel_rfl
theorem cells_item : Try.prog.cellsOf 33 = 5 := by kernel_rfl
theorem bytes_item : Try.prog.bytesOf 33 = 56 := by kernel_rfl
theorem five {cs : List Value} (h : cs.length = 5) : ∃ c0 c1 c2 c3 c4, cs = [c0, c1, c2, c3, c4] := by
  match cs, h with
  | [c0, c1, c2, c3, c4], _ => exact ⟨c0, c1, c2, c3, c4, rfl⟩
theorem trod_struct5 {H : Type} {enc : TypeId × Value → H} {P : Program} {w : World} {base : Nat} {spare : Nat → Bool} {held : Bool} {t : TypeId} {f0 f1 f2 f3 f4 : Field} {fuel : Nat} {cs : List Value} {x : DataW H × List MemPlace} (ht : P.underlying t = some (.struct #[f0, f1, f2, f3, f4])) (h : DataW.trod enc P w base spare held fuel t cs = some x) :
    ∃ y0 y1 y2 y3 y4 n, x.1 = .agg [y0.1, y1.1, y2.1, y3.1, y4.1] ∧ DataW.trod enc P w base spare held n f0.type ((cs.drop f0.offset).take (P.cellsOf f0.type)) = some y0 ∧
      DataW.trod enc P w base spare held n f1.type ((cs.drop f1.offset).take (P.cellsOf f1.type)) = some y1 ∧ DataW.trod enc P w base spare held n f2.type ((cs.drop f2.offset).take (P.cellsOf f2.type)) = some y2 ∧ DataW.trod enc P w base spare held n f3.type ((cs.drop f3.offset).take (P.cellsOf f3.type)) = some y3 ∧ DataW.trod enc P w base spare held n f4.type ((cs.drop f4.offset).take (P.cellsOf f4.type)) = some y4 := by
  obtain ⟨xs, n, _, rfl, hl, hlen, hf⟩ := DataW.trod_struct ht h
  match xs, hlen with
  | [y0, y1, y2, y3, y4], _ => exact ⟨y0, y1, y2, y3, y4, n, by simp, by simpa using hf 0 f0 rfl, by simpa using hf 1 f1 rfl, by simpa using hf 2 f2 rfl, by simpa using hf 3 f3 rfl, by simpa using hf 4 f4 rfl⟩
theorem add_eq {x : Addr} (h : x.spot = none) (n : Nat) : x.add n = ⟨x.block, x.off + n, none⟩ := by
  obtain ⟨b, off, sp⟩ := x
  simp only at h
  subst h
  unfold Addr.add
  split
  · rename_i h; have h0 : n = 0 := by simpa using h
    subst h0; rfl
  · rfl
theorem spot_of {W : World} {x : Addr} {cs : List Value} (hcs : W.cells? 0 (x.add (0 * 5)) 5 = some cs) : x.spot = none ∧ x.block < W.heap.size := by
  obtain ⟨_, hl, hcell⟩ := World.cells?_some hcs
  obtain ⟨c0, c1, c2, c3, c4, rfl⟩ := five hl
  have k0 : W.cell? x = some c0 := by simpa [Addr.add] using hcell 0 (by omega)
  exact ⟨World.cell?_spot k0, block_lt_of_cell k0⟩
theorem read_one {H : Type} {enc : TypeId × Value → H} {W : World} {held : Bool} {x : Addr} {i n : Nat} {cs : List Value} {D : DataW H} {Pl : List MemPlace}
    (hs : x.spot = none) (hcs : W.cells? 0 (x.add (i * 5)) 5 = some cs) (ht : DataW.trod enc Try.prog W 0 (fun _ => true) held n 33 cs = some (D, Pl))
    (hw : ∀ z ∈ D.weights Try.prog 33, z ≤ reachBytes) : ∃ t, St.PcAt W W.heap.size x.block x.off i t := by
  rw [add_eq hs] at hcs
  obtain ⟨_, hl, hcell⟩ := World.cells?_some hcs
  obtain ⟨c0, c1, c2, c3, c4, rfl⟩ := five hl
  obtain ⟨y0, y1, y2, y3, y4, n', hx, t0, t1, t2, t3, t4⟩ := trod_struct5 Try.underlying33 ht
  simp only [cells_int, cells_int64, cells_bool, cells_bytes] at t0 t1 t2 t3 t4
  simp only at hx
  obtain ⟨o, h0, _, wf0⟩ := DataW.trod_int Try.underlying3 t0
  obtain ⟨b2, h2, _⟩ := DataW.trod_bool Try.underlying4 t2
  obtain ⟨v, h3, _, wf3⟩ := DataW.trod_int Try.underlying2 t3
  obtain ⟨b4, h4, _⟩ := DataW.trod_bool Try.underlying4 t4
  simp at h0 h2 h3 h4 t1
  subst h0 h2 h3 h4
  have k0 := hcell 0 (by omega)
  have k1 := hcell 1 (by omega)
  have k2 := hcell 2 (by omega)
  have k3 := hcell 3 (by omega)
  have k4 := hcell 4 (by omega)
  rw [add_eq rfl] at k0 k1 k2 k3 k4
  simp at k0 k1 k2 k3 k4
  rcases open_ints Try.underlying25 Try.underlying5 (by kernel_rfl) t1 with ⟨hcs, _⟩ | ⟨y, l, c, zs, hcs, _, hlc, hm, hz, hx4, hcell2, hwz⟩
  · simp at hcs
    subst hcs
    exact ⟨⟨o, none, 0, 0, [], b2, v, b4⟩, k0, k1, k2, k3, k4, rd_nil _, fun h => by simp at h, fun _ => ⟨rfl, rfl⟩, ⟨Nat.le_refl _, by simp⟩, bounds_i64 wf0, bounds_i64 wf3⟩
  · simp at hcs
    subst hcs
    have hz' : zs.length = c := by simpa using hz
    have hwc : c ≤ 140737488351232 := by
      have h1 : (zs.length) * Try.prog.bytesOf 5 ∈ D.weights Try.prog 33 := by
        rw [hx]
        unfold DataW.weights
        rw [Try.underlying33]
        refine DataW.weights_mem_each (j := 1) (t := 25) (d := y1.1) rfl rfl _ ?_
        rw [hx4]
        simp [DataW.weights, Try.underlying25, lits]
        left
        congr 1
        omega
      have h2 := hw _ h1
      rw [bytes8] at h2
      have hr : reachBytes = 140737488351232 := by decide
      rw [hr] at h2
      omega
    obtain ⟨bs, hbs⟩ := rd_row hlc hz' hcell2 hwz (by omega)
    have hlo : 0 < l → ∀ ad, some y = some ad → ad.block < W.heap.size := fun h ad e => by
      have hy := hcell2 0 (by omega)
      have e2 := Option.some.inj e
      subst e2
      exact block_lt_of_cell (by simpa [Addr.add] using hy)
    have hnn : (some y : Option Addr) = none → l = 0 ∧ c = 0 := fun e => by cases e
    exact ⟨⟨o, some y, l, c, bs, b2, v, b4⟩, k0, k1, k2, k3, k4, hbs, hlo, hnn, ⟨hlc, hwc⟩, bounds_i64 wf0, bounds_i64 wf3⟩
set_option maxRecDepth 100000 in
theorem lifted (os : Os) (started : os.Started) (H : Type) (enc : TypeId × Value → H) :
    ReturnsInHanded {} Try.checked os 3 .any (Rows.storeWholeSpec.pre6 enc Try.prog Try.f3 Rows.storeWholeRow.domain false) (Rows.storeWholeSpec.post enc Try.prog Try.f3 false true false false) := by
  refine returnsInHanded_of_change_sized (C := Try.checked) own started (by kernel_rfl) Try.func3
    (ChangeSpec.witness6 (enc := enc) (C := Try.checked) false ⟨#[], #[.slice none 0 0], []⟩ 8 (by kernel_rfl) (by kernel_rfl) (by kernel_rfl) (by kernel_rfl)) ?_
  intro W base args ds gs before hval0 hW hcnd hsz0 _
  have hval : ∀ (j : Nat) t v, Try.f3.params[j]? = some t → args[j]? = some v → Value.okWide Try.prog W .any base t v := hval0
  have hsz : (DataW.weightsEach Try.prog (Try.f3.params.toList ++ Rows.storeWholeSpec.plain.varTypes Try.prog) (ds ++ gs)).all (· ≤ reachBytes) = true := hsz0
  have hW' := hW
  obtain ⟨p, q, hA0, hV, rfl, hfz, hnd⟩ := hW
  have hA : DataW.TrodAll enc Try.prog W 0 (fun _ => true) true Try.f3.params.toList args.toList ds p := hA0
  rw [Try.params3] at hA hval hsz
  obtain ⟨v0, vs0, d0, ds0, p0, q0, hargs, rfl, rfl, h0, r0⟩ := trodAll_cons hA
  obtain ⟨rfl, rfl, rfl⟩ := trodAll_nil r0
  obtain rfl : args = #[v0] := by cases args; simp_all
  obtain ⟨rfl, rfl⟩ := trodVars_none hV
  obtain ⟨a0, len0, cap0, rfl⟩ := okWide_slice Try.underlying22 (hval 0 22 v0 rfl rfl)
  have k0 := h0
  have lt0 : ∀ x ∈ p0, x.block < W.heap.size := by obtain ⟨m, hm⟩ := k0; exact DataW.trod_lt m _ _ _ hm
  obtain ⟨b, off, T, ha, hT, hlen⟩ : ∃ (b off : Nat) (T : Nat → St.Pc), (0 < len0 → a0 = some ⟨b, off, none⟩ ∧ b < W.heap.size) ∧ (∀ i, i < len0 → St.PcAt W W.heap.size b off i (T i)) ∧ len0 ≤ 140737488351232 := by
    obtain ⟨fuel, hf⟩ := h0
    rcases open_slice Try.underlying22 hf with ⟨hcs, _⟩ | ⟨x, l, c, m, n, D, Pl, hcs, _, hl, hmx, hm, hx, hel⟩
    · simp [Value.cells] at hcs
      obtain ⟨rfl, rfl, rfl⟩ := hcs
      exact ⟨0, 0, fun _ => ⟨0, none, 0, 0, [], false, 0, false⟩, fun h => by omega, fun i h => by omega, by omega⟩
    · simp [Value.cells] at hcs
      obtain ⟨rfl, rfl, rfl⟩ := hcs
      simp only [Prod.mk.injEq] at hx
      simp only [if_true] at hm
      subst hm
      rw [cells_item] at hel
      have hr : reachBytes = 140737488351232 := by decide
      have hw := sized_slice hsz (j := 0) (t := 22) (e := 33) rfl (by rw [hx.1]; rfl) Try.underlying22
      rw [bytes_item, hr] at hw
      simp only [List.length_map, List.length_range] at hw
      by_cases hz : len0 = 0
      · subst hz
        exact ⟨0, 0, fun _ => ⟨0, none, 0, 0, [], false, 0, false⟩, fun h => by omega, fun i h => by omega, by omega⟩
      · obtain ⟨cs0, hc0, _⟩ := hel 0 (by omega)
        obtain ⟨hs, hb⟩ := spot_of hc0
        have hex : ∀ i, ∃ t, i < len0 → St.PcAt W W.heap.size x.block x.off i t := by
          intro i
          by_cases hi : i < len0
          · obtain ⟨cs', hcs', ht'⟩ := hel i (by omega)
            obtain ⟨t, ht⟩ := read_one hs hcs' ht' (fun z hz => by
              have hmem : D i ∈ (List.range len0).map D := List.mem_map.2 ⟨i, List.mem_range.2 hi, rfl⟩
              have h1 : z ∈ d0.weights Try.prog 22 := by
                rw [hx.1]
                unfold DataW.weights
                rw [Try.underlying22]
                exact List.mem_cons_of_mem _ (List.mem_append_left _ (weights_all hz hmem))
              have h2 := List.all_eq_true.1 hsz z (DataW.weights_mem_each (j := 0) rfl rfl z h1)
              simpa using h2)
            exact ⟨t, fun _ => ht⟩
          · exact ⟨⟨0, none, 0, 0, [], false, 0, false⟩, fun h => absurd h hi⟩
        obtain ⟨f, hf'⟩ := Classical.axiomOfChoice hex
        exact ⟨x.block, x.off, f, fun _ => ⟨by rw [← hs], hb⟩, fun i hi => hf' i hi, by omega⟩
  clear hA0 hval0
  refine (St.walk b off len0 cap0 T a0 W ha hT hlen).mono fun e W' ⟨he, bel⟩ => ?_
  subst he
  exact ⟨_, rfl, _, _, _, [], _, [], hW', trodAll_mk1 (shut_bool Try.underlying4 _), (trodAll_cons_mk (Below.trod laidOut (by kernel_rfl) (of_decide_eq_true (by kernel_rfl)) k0 bel lt0) trodAll_mk0), rfl, bel.frame _, fun h => by cases h⟩
theorem over : Rows.storeWholeRow.holds Try.pinned (OpenSpec.ofChange Rows.storeWholeSpec) :=
  OpenClaim.holds_of_wide 3 Try.f3 rfl rfl rfl rfl rfl rfl rfl ⟨rfl, rfl, rfl, rfl, rfl⟩ rfl rfl rfl rfl rfl (by kernel_rfl) Try.func3 (by kernel_rfl)
    (of_decide_eq_true (by kernel_rfl)) (by unfold Func.isWrapper; first | (rw [if_pos (by decide +kernel)]; kernel_rfl) | (rw [if_neg (by decide +kernel)]; exact ⟨rfl, rfl⟩))
    (fun os started H enc _ => lifted os started H enc)
/-- THE STATEMENT. -/
theorem proved : Rows.StoreWholeSaid := over
end Go.Proofs.Ytdcjhjpbkpiddaa.storeWhole
