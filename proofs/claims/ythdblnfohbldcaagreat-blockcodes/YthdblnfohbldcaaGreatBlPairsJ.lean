/-
  A list of pairs, as it is handed in; its size, where sizes are within reach.
-/
import Derived.Test.YthdblnfohbldcaaGreatJbPairJ
import Derived.ProofKit
import Derived.ChangeMaps5
import Derived.Deep.Slices
import Derived.Deep.Strs
namespace Go.Proofs.YthdblnfohbldcaaGreat.Bl
open Go.ChangeShapes Go.WideShapes Go.ChangeAt Go.RowKit Go.ChangeMaps Go.Deep
open Go.Proofs.YthdblnfohbldcaaGreat.Base
open Go.Proofs.YthdblnfohbldcaaGreat.Jb (RdP Pr pr0)
set_option linter.unusedVariables false
theorem two_l {cs : List Value} (h : cs.length = 2) : ∃ c0 c1, cs = [c0, c1] := by
  match cs, h with
  | [c0, c1], _ => exact ⟨c0, c1, rfl⟩
theorem trod_two {H : Type} {enc : TypeId × Value → H} {P : Program} {w : World} {base : Nat} {spare : Nat → Bool} {held : Bool} {t : TypeId} {f0 f1 : Field} {fuel : Nat} {cs : List Value} {x : DataW H × List MemPlace} (ht : P.underlying t = some (.struct #[f0, f1])) (h : DataW.trod enc P w base spare held fuel t cs = some x) :
    ∃ y0 y1 n, x.1 = .agg [y0.1, y1.1] ∧ DataW.trod enc P w base spare held n f0.type ((cs.drop f0.offset).take (P.cellsOf f0.type)) = some y0 ∧
      DataW.trod enc P w base spare held n f1.type ((cs.drop f1.offset).take (P.cellsOf f1.type)) = some y1 := by
  obtain ⟨xs, n, _, rfl, hl, hlen, hf⟩ := DataW.trod_struct ht h
  match xs, hlen with
  | [y0, y1], _ => exact ⟨y0, y1, n, by simp, by simpa using hf 0 f0 rfl, by simpa using hf 1 f1 rfl⟩
theorem pcells_str : Tryz.prog.cellsOf 9 = 1 := by kernel_rfl
theorem pcells_pair : Tryz.prog.cellsOf 61 = 2 := by kernel_rfl
theorem pbytes_pair : Tryz.prog.bytesOf 61 = 32 := by kernel_rfl
/-- What is read of a pair. -/
def pairD (H : Type) (r : Pr) : DataW H := .agg [.lit (.string r.1.data.toList), .lit (.string r.2.data.toList)]
theorem addr_plus (x : Addr) (hs : x.spot = none) (k : Nat) : x.add k = ⟨x.block, x.off + k, none⟩ := by
  obtain ⟨b, o, sp⟩ := x
  simp only at hs
  subst hs
  simp [Addr.add]
theorem read_pair {H : Type} {enc : TypeId × Value → H} {W : World} {base : Nat} {spare : Nat → Bool} {held : Bool} {x : Addr} {i n : Nat} {cs : List Value} {D : DataW H} {Pl : List MemPlace}
    (hs : x.spot = none) (hcs : W.cells? base (x.add (i * 2)) 2 = some cs) (ht : DataW.trod enc Tryz.prog W base spare held n 61 cs = some (D, Pl)) :
    ∃ r : Pr, (W.cell? ⟨x.block, x.off + i * 2, none⟩ = some (.string r.1) ∧ W.cell? ⟨x.block, x.off + i * 2 + 1, none⟩ = some (.string r.2)) ∧ D = pairD H r := by
  rw [addr_plus x hs] at hcs
  obtain ⟨_, hl, hcell⟩ := World.cells?_some hcs
  obtain ⟨c0, c1, rfl⟩ := two_l hl
  obtain ⟨y0, y1, n', hx, t0, t1⟩ := trod_two Tryz.underlying61 ht
  simp only [pcells_str] at t0 t1
  simp only at hx
  obtain ⟨s, h1, hy1, _⟩ := DataW.trod_string Tryz.underlying9 t0
  obtain ⟨u, h2, hy2, _⟩ := DataW.trod_string Tryz.underlying9 t1
  simp at h1 h2
  subst h1 h2
  have k0 := hcell 0 (by omega)
  have k1 := hcell 1 (by omega)
  rw [addr_plus _ rfl] at k0 k1
  simp at k0 k1
  exact ⟨(s, u), ⟨k0, k1⟩, by rw [hx, hy1, hy2]; rfl⟩
theorem open_pairs {H : Type} {enc : TypeId × Value → H} {W : World} {held : Bool} {fuel : Nat} {a : Option Addr} {len cap : Nat} {x : DataW H × List MemPlace}
    (hf : DataW.trod enc Tryz.prog W 0 (fun _ => true) held fuel 22 [.slice a len cap] = some x) :
    ∃ rs : List Pr, RdP W a len rs ∧ len ≤ cap ∧ (a = none → len = 0 ∧ cap = 0) ∧ ((x.1 = .nil ∧ len = 0 ∧ cap = 0) ∨ ∃ elems spare, x.1 = .slice elems spare ∧ elems.length + spare.length = cap ∧ ∀ r ∈ rs, pairD H r ∈ elems) := by
  rcases open_slice Tryz.underlying22 hf with ⟨hcs, hx⟩ | ⟨y, l, c, m, n, D, Pl, hcs, _, hl, hmx, hm, hx, hel⟩
  · simp at hcs
    obtain ⟨rfl, rfl, rfl⟩ := hcs
    exact ⟨[], ⟨rfl, fun h => absurd h (by omega)⟩, by omega, fun _ => ⟨rfl, rfl⟩, .inl ⟨by rw [hx], rfl, rfl⟩⟩
  · simp at hcs
    obtain ⟨rfl, rfl, rfl⟩ := hcs
    simp only [if_true] at hm
    have hm' := hm.symm
    subst hm'
    rw [pcells_pair] at hel
    have hlen : ((List.range len).map D).length + ((List.range (cap - len)).map fun j => D (len + j)).length = cap := by simp; omega
    by_cases hz : len = 0
    · subst hz
      exact ⟨[], ⟨rfl, fun h => absurd h (by omega)⟩, hl, (fun h => nomatch h), .inr ⟨_, _, by rw [hx], hlen, fun r hr => by cases hr⟩⟩
    · have hex : ∀ i, ∃ r : Pr, i < len → (y.spot = none ∧ y.block < W.heap.size) ∧ (W.cell? ⟨y.block, y.off + i * 2, none⟩ = some (.string r.1) ∧ W.cell? ⟨y.block, y.off + i * 2 + 1, none⟩ = some (.string r.2)) ∧ D i = pairD H r := by
        intro i
        by_cases hi : i < len
        · obtain ⟨cs0, hc0, _⟩ := hel 0 (by omega)
          have hs : y.spot = none ∧ y.block < W.heap.size := by
            obtain ⟨_, hl0, hcell0⟩ := World.cells?_some hc0
            obtain ⟨c0, c1, rfl⟩ := two_l hl0
            have k0 : W.cell? y = some c0 := by simpa [Addr.add] using hcell0 0 (by omega)
            exact ⟨World.cell?_spot k0, block_lt_of_cell k0⟩
          obtain ⟨cs', hcs', ht'⟩ := hel i (by omega)
          obtain ⟨r, h1, h2⟩ := read_pair hs.1 hcs' ht'
          exact ⟨r, fun _ => ⟨hs, h1, h2⟩⟩
        · exact ⟨pr0, fun h => absurd h hi⟩
      obtain ⟨f, hf'⟩ := Classical.axiomOfChoice hex
      obtain ⟨⟨hs, hb⟩, _⟩ := hf' 0 (by omega)
      refine ⟨(List.range len).map f, ⟨by simp, fun _ => ⟨y.block, y.off, by obtain ⟨b, o, sp⟩ := y; simp only at hs; subst hs; rfl, hb, fun i hi => ?_⟩⟩, hl, (fun h => nomatch h), .inr ⟨_, _, by rw [hx], hlen, fun r hr => ?_⟩⟩
      · have hg : ((List.range len).map f).getD i pr0 = f i := by
          rw [List.getD_eq_getElem?_getD, List.getElem?_map, List.getElem?_range hi]; rfl
        rw [hg]
        exact (hf' i hi).2.1
      · obtain ⟨i, hi, rfl⟩ := List.mem_map.1 hr
        have hi' := List.mem_range.1 hi
        rw [← (hf' i hi').2.2]
        exact List.mem_map.2 ⟨i, hi, rfl⟩
theorem pweights_all {H : Type} {P : Program} {e : TypeId} {d : DataW H} {n : Nat} (hn : n ∈ d.weights P e) : ∀ {l : List (DataW H)}, d ∈ l → n ∈ DataW.weightsAll P e l
  | [], h => by cases h
  | x :: r, h => by
    unfold DataW.weightsAll
    rcases List.mem_cons.1 h with rfl | h
    · exact List.mem_append_left _ hn
    · exact List.mem_append_right _ (pweights_all hn h)
/-- Pairs of texts that may be. -/
def FineP (rs : List Pr) : Prop := ∀ p ∈ rs, p.1.size ≤ 140737488351232 ∧ p.2.size ≤ 140737488351232
set_option maxRecDepth 100000 in
theorem sized_pairs {H : Type} {d : DataW H} {rs : List Pr} {len cap : Nat} (hw : ∀ z ∈ d.weights Tryz.prog 22, z ≤ reachBytes) (hl : len ≤ cap) (h : (d = .nil ∧ len = 0 ∧ cap = 0) ∨ ∃ elems spare, d = .slice elems spare ∧ elems.length + spare.length = cap ∧ ∀ r ∈ rs, pairD H r ∈ elems) (hn : rs.length = len) :
    cap * 32 ≤ 140737488351232 ∧ FineP rs := by
  have hr : reachBytes = 140737488351232 := by decide
  rw [hr] at hw
  rcases h with ⟨_, h1, h2⟩ | ⟨elems, spare, h1, h2, h3⟩
  · refine ⟨by omega, fun r hr => ?_⟩
    have : rs = [] := List.length_eq_zero_iff.1 (by omega)
    subst this
    cases hr
  · subst h1
    unfold DataW.weights at hw
    rw [Tryz.underlying22] at hw
    refine ⟨?_, fun r hr => ?_⟩
    · have h4 := hw _ (List.mem_cons_self ..)
      rw [pbytes_pair] at h4
      omega
    · have hin := h3 r hr
      have hk := hw r.1.data.toList.length (List.mem_cons_of_mem _ (List.mem_append_left _ (pweights_all (by
        unfold pairD DataW.weights
        rw [Tryz.underlying61]
        exact DataW.weights_mem_each (j := 0) (t := 9) (d := .lit (.string r.1.data.toList)) rfl rfl _ (by simp [DataW.weights])) hin)))
      have hv := hw r.2.data.toList.length (List.mem_cons_of_mem _ (List.mem_append_left _ (pweights_all (by
        unfold pairD DataW.weights
        rw [Tryz.underlying61]
        exact DataW.weights_mem_each (j := 1) (t := 9) (d := .lit (.string r.2.data.toList)) rfl rfl _ (by simp [DataW.weights])) hin)))
      rw [Array.length_toList] at hk hv
      have e1 : r.1.data.size = r.1.size := rfl
      have e2 : r.2.data.size = r.2.size := rfl
      rw [e1] at hk
      rw [e2] at hv
      exact ⟨by omega, by omega⟩
end Go.Proofs.YthdblnfohbldcaaGreat.Bl
