/-
  A list of acts, as it is handed in.
-/
import Derived.Test.YtlbplicafcoifaaSoState3
import Derived.Test.YtlbplicafcoifaaSoSized
namespace Go.Proofs.Ytlbplicafcoifaa.SortBuffers
open Go.ChangeShapes Go.WideShapes Go.ChangeAt Go.RowKit Go.ChangeMaps Go.Deep
open Go.Proofs.Ytlbplicafcoifaa.Base Go.Proofs.Ytlbplicafcoifaa.So
set_option linter.unusedVariables false
theorem six_l {cs : List Value} (h : cs.length = 6) : ∃ c0 c1 c2 c3 c4 c5, cs = [c0, c1, c2, c3, c4, c5] := by
  match cs, h with
  | [c0, c1, c2, c3, c4, c5], _ => exact ⟨c0, c1, c2, c3, c4, c5, rfl⟩
theorem trod_struct4 {H : Type} {enc : TypeId × Value → H} {P : Program} {w : World} {base : Nat} {spare : Nat → Bool} {held : Bool} {t : TypeId} {f0 f1 f2 f3 : Field} {fuel : Nat} {cs : List Value} {x : DataW H × List MemPlace} (ht : P.underlying t = some (.struct #[f0, f1, f2, f3])) (h : DataW.trod enc P w base spare held fuel t cs = some x) :
    ∃ y0 y1 y2 y3 n, x.1 = .agg [y0.1, y1.1, y2.1, y3.1] ∧ DataW.trod enc P w base spare held n f0.type ((cs.drop f0.offset).take (P.cellsOf f0.type)) = some y0 ∧
      DataW.trod enc P w base spare held n f1.type ((cs.drop f1.offset).take (P.cellsOf f1.type)) = some y1 ∧ DataW.trod enc P w base spare held n f2.type ((cs.drop f2.offset).take (P.cellsOf f2.type)) = some y2 ∧ DataW.trod enc P w base spare held n f3.type ((cs.drop f3.offset).take (P.cellsOf f3.type)) = some y3 := by
  obtain ⟨xs, n, _, rfl, hl, hlen, hf⟩ := DataW.trod_struct ht h
  match xs, hlen with
  | [y0, y1, y2, y3], _ => exact ⟨y0, y1, y2, y3, n, by simp, by simpa using hf 0 f0 rfl, by simpa using hf 1 f1 rfl, by simpa using hf 2 f2 rfl, by simpa using hf 3 f3 rfl⟩
theorem cells_act : Try.prog.cellsOf 36 = 6 := by kernel_rfl
theorem bytes_act : Try.prog.bytesOf 36 = 64 := by kernel_rfl
def Cell6 (W : World) (b o : Nat) (t : Ac) : Prop := (W.cell? ⟨b, o, none⟩ = some (.int .i64 t.op) ∧ W.cell? ⟨b, o + 1, none⟩ = some (.int .i64 t.who) ∧ W.cell? ⟨b, o + 2, none⟩ = some (.int .i64 t.bud)) ∧ W.cell? ⟨b, o + 3, none⟩ = some (.int .i64 t.r.p) ∧ W.cell? ⟨b, o + 4, none⟩ = some (.string t.r.k) ∧ W.cell? ⟨b, o + 5, none⟩ = some (.string t.r.v)
theorem read_act {H : Type} {enc : TypeId × Value → H} {W : World} {base : Nat} {spare : Nat → Bool} {held : Bool} {x : Addr} {i n : Nat} {cs : List Value} {D : DataW H} {Pl : List MemPlace}
    (hs : x.spot = none) (hcs : W.cells? base (x.add (i * 6)) 6 = some cs) (ht : DataW.trod enc Try.prog W base spare held n 36 cs = some (D, Pl)) (hw : ∀ z ∈ D.weights Try.prog 36, z ≤ reachBytes) :
    ∃ t : Ac, Cell6 W x.block (x.off + i * 6) t ∧ t.r.fits := by
  rw [addr_add x hs] at hcs
  obtain ⟨_, hl, hcell⟩ := World.cells?_some hcs
  obtain ⟨c0, c1, c2, c3, c4, c5, rfl⟩ := six_l hl
  obtain ⟨y0, y1, y2, y3, n', hx, t0, t1, t2, t3⟩ := trod_struct4 Try.underlying36 ht
  simp only [cells_int, cells_rec] at t0 t1 t2 t3
  simp only at hx
  obtain ⟨o, h0, hy0, _⟩ := DataW.trod_int Try.underlying3 t0
  obtain ⟨s, h1, hy1, _⟩ := DataW.trod_int Try.underlying3 t1
  obtain ⟨u, h2, hy2, _⟩ := DataW.trod_int Try.underlying3 t2
  simp at h0 h1 h2
  subst h0 h1 h2
  obtain ⟨r, e0, e1, e2, hr⟩ := open_rec (c0 := c3) (c1 := c4) (c2 := c5) (D := y3.1) (Pl := y3.2) (by simpa using t3) (fun z hz => hw z (by
    rw [hx]
    unfold DataW.weights
    rw [Try.underlying36]
    exact DataW.weights_mem_each (j := 3) (t := 34) (d := y3.1) rfl rfl _ hz))
  subst e0 e1 e2
  have k0 := hcell 0 (by omega)
  have k1 := hcell 1 (by omega)
  have k2 := hcell 2 (by omega)
  have k3 := hcell 3 (by omega)
  have k4 := hcell 4 (by omega)
  have k5 := hcell 5 (by omega)
  rw [addr_add _ rfl] at k0 k1 k2 k3 k4 k5
  simp at k0 k1 k2 k3 k4 k5
  exact ⟨⟨o, s, u, r⟩, ⟨⟨k0, k1, k2⟩, k3, k4, k5⟩, hr⟩
theorem open_acts {H : Type} {enc : TypeId × Value → H} {W : World} {held : Bool} {fuel : Nat} {a : Option Addr} {len cap : Nat} {x : DataW H × List MemPlace}
    (hf : DataW.trod enc Try.prog W 0 (fun _ => true) held fuel 22 [.slice a len cap] = some x) (hw : ∀ z ∈ x.1.weights Try.prog 22, z ≤ reachBytes) :
    ∃ ac : List Ac, RdA W a len ac ∧ (∀ t ∈ ac, t.r.fits) ∧ len * 64 ≤ 140737488351232 := by
  have hr : reachBytes = 140737488351232 := by decide
  rcases open_slice Try.underlying22 hf with ⟨hcs, hx⟩ | ⟨y, l, c, m, n, D, Pl, hcs, _, hl, hmx, hm, hx, hel⟩
  · simp at hcs
    obtain ⟨rfl, rfl, rfl⟩ := hcs
    exact ⟨[], ⟨rfl, fun h => absurd h (by omega)⟩, (fun t ht => by cases ht), by omega⟩
  · simp at hcs
    obtain ⟨rfl, rfl, rfl⟩ := hcs
    simp only [if_true] at hm
    have hm' := hm.symm
    subst hm'
    rw [cells_act] at hel
    have hx1 : x.1 = .slice ((List.range len).map D) ((List.range (cap - len)).map fun j => D (len + j)) := by rw [hx]
    rw [hx1] at hw
    unfold DataW.weights at hw
    rw [Try.underlying22] at hw
    have hlen : len * 64 ≤ 140737488351232 := by
      have h4 := hw _ (List.mem_cons_self ..)
      rw [bytes_act, hr] at h4
      simp at h4
      have h5 : len * 64 ≤ (len + (cap - len)) * 64 := Nat.mul_le_mul_right _ (by omega)
      omega
    by_cases hz : len = 0
    · subst hz
      exact ⟨[], ⟨rfl, fun h => absurd h (by omega)⟩, (fun t ht => by cases ht), hlen⟩
    · have hex : ∀ i, ∃ t : Ac, i < len → (y.spot = none ∧ y.block < W.heap.size) ∧ Cell6 W y.block (y.off + i * 6) t ∧ t.r.fits := by
        intro i
        by_cases hi : i < len
        · obtain ⟨cs0, hc0, _⟩ := hel 0 (by omega)
          have hs : y.spot = none ∧ y.block < W.heap.size := by
            obtain ⟨_, hl0, hcell0⟩ := World.cells?_some hc0
            obtain ⟨c0, c1, c2, c3, c4, c5, rfl⟩ := six_l hl0
            have k0 : W.cell? y = some c0 := by simpa [Addr.add] using hcell0 0 (by omega)
            exact ⟨World.cell?_spot k0, block_lt_of_cell k0⟩
          obtain ⟨cs', hcs', ht'⟩ := hel i (by omega)
          obtain ⟨r, h1, h2⟩ := read_act hs.1 hcs' ht' (fun z hz => hw z (List.mem_cons_of_mem _ (List.mem_append_left _ (weights_all hz (List.mem_map.2 ⟨i, List.mem_range.2 hi, rfl⟩)))))
          exact ⟨r, fun _ => ⟨hs, h1, h2⟩⟩
        · exact ⟨ac0, fun h => absurd h hi⟩
      obtain ⟨f, hf'⟩ := Classical.axiomOfChoice hex
      obtain ⟨⟨hs, hb⟩, _⟩ := hf' 0 (by omega)
      refine ⟨(List.range len).map f, ⟨by simp, fun _ => ⟨y.block, y.off, by obtain ⟨b, o, sp⟩ := y; simp only at hs; subst hs; rfl, hb, fun i hi => ?_⟩⟩, fun t ht => ?_, hlen⟩
      · have hg : ((List.range len).map f).getD i ac0 = f i := by
          rw [List.getD_eq_getElem?_getD, List.getElem?_map, List.getElem?_range hi]; rfl
        rw [hg]
        exact (hf' i hi).2.1
      · obtain ⟨i, hi, rfl⟩ := List.mem_map.1 ht
        exact (hf' i (List.mem_range.1 hi)).2.2
end Go.Proofs.Ytlbplicafcoifaa.SortBuffers
