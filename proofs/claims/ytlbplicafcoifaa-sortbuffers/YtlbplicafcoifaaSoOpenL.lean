/-
  A list of records, as it is handed in.
-/
import Derived.Test.YtlbplicafcoifaaSoOwn
import Derived.Test.YtlbplicafcoifaaSoSortC
import Derived.Test.YtlbplicafcoifaaBulk
import Derived.Deep.Slices
namespace Go.Proofs.Ytlbplicafcoifaa.So
open Go.ChangeShapes Go.WideShapes Go.ChangeAt Go.RowKit Go.ChangeMaps Go.Deep
open Go.Proofs.Ytlbplicafcoifaa.Base
set_option linter.unusedVariables false
/-- What is read of a record. -/
def recD (H : Type) (r : Rec) : DataW H := .agg [.lit (.int .i64 r.p), .lit (.string r.k.data.toList), .lit (.string r.v.data.toList)]
theorem read_rec {H : Type} {enc : TypeId × Value → H} {W : World} {base : Nat} {spare : Nat → Bool} {held : Bool} {x : Addr} {i n : Nat} {cs : List Value} {D : DataW H} {Pl : List MemPlace}
    (hs : x.spot = none) (hcs : W.cells? base (x.add (i * 3)) 3 = some cs) (ht : DataW.trod enc Try.prog W base spare held n 34 cs = some (D, Pl)) :
    ∃ r : Rec, (W.cell? ⟨x.block, x.off + i * 3, none⟩ = some (.int .i64 r.p) ∧ W.cell? ⟨x.block, x.off + i * 3 + 1, none⟩ = some (.string r.k) ∧ W.cell? ⟨x.block, x.off + i * 3 + 2, none⟩ = some (.string r.v)) ∧ D = recD H r := by
  rw [addr_add x hs] at hcs
  obtain ⟨_, hl, hcell⟩ := World.cells?_some hcs
  obtain ⟨c0, c1, c2, rfl⟩ := three_l hl
  obtain ⟨y0, y1, y2, n', hx, t0, t1, t2⟩ := trod_struct3 Try.underlying34 ht
  simp only [cells_int, cells_str] at t0 t1 t2
  simp only at hx
  obtain ⟨o, h0, hy0, _⟩ := DataW.trod_int Try.underlying3 t0
  obtain ⟨s, h1, hy1, _⟩ := DataW.trod_string Try.underlying9 t1
  obtain ⟨u, h2, hy2, _⟩ := DataW.trod_string Try.underlying9 t2
  simp at h0 h1 h2
  subst h0 h1 h2
  have k0 := hcell 0 (by omega)
  have k1 := hcell 1 (by omega)
  have k2 := hcell 2 (by omega)
  rw [addr_add _ rfl] at k0 k1 k2
  simp at k0 k1 k2
  exact ⟨⟨o, s, u⟩, ⟨k0, k1, k2⟩, by rw [hx, hy0, hy1, hy2]; rfl⟩
theorem open_recs {H : Type} {enc : TypeId × Value → H} {W : World} {held : Bool} {fuel : Nat} {a : Option Addr} {len cap : Nat} {x : DataW H × List MemPlace}
    (hf : DataW.trod enc Try.prog W 0 (fun _ => true) held fuel 38 [.slice a len cap] = some x) :
    ∃ rs : List Rec, RdR W a len rs ∧ len ≤ cap ∧ (a = none → len = 0 ∧ cap = 0) ∧ ((x.1 = .nil ∧ len = 0 ∧ cap = 0) ∨ ∃ elems spare, x.1 = .slice elems spare ∧ elems.length + spare.length = cap ∧ ∀ r ∈ rs, recD H r ∈ elems) := by
  rcases open_slice Try.underlying38 hf with ⟨hcs, hx⟩ | ⟨y, l, c, m, n, D, Pl, hcs, _, hl, hmx, hm, hx, hel⟩
  · simp at hcs
    obtain ⟨rfl, rfl, rfl⟩ := hcs
    exact ⟨[], ⟨rfl, fun h => absurd h (by omega)⟩, by omega, fun _ => ⟨rfl, rfl⟩, .inl ⟨by rw [hx], rfl, rfl⟩⟩
  · simp at hcs
    obtain ⟨rfl, rfl, rfl⟩ := hcs
    simp only [if_true] at hm
    have hm' := hm.symm
    subst hm'
    rw [cells_rec] at hel
    have hlen : ((List.range len).map D).length + ((List.range (cap - len)).map fun j => D (len + j)).length = cap := by simp; omega
    by_cases hz : len = 0
    · subst hz
      exact ⟨[], ⟨rfl, fun h => absurd h (by omega)⟩, hl, (fun h => nomatch h), .inr ⟨_, _, by rw [hx], hlen, fun r hr => by cases hr⟩⟩
    · have hex : ∀ i, ∃ r : Rec, i < len → (y.spot = none ∧ y.block < W.heap.size) ∧ (W.cell? ⟨y.block, y.off + i * 3, none⟩ = some (.int .i64 r.p) ∧ W.cell? ⟨y.block, y.off + i * 3 + 1, none⟩ = some (.string r.k) ∧ W.cell? ⟨y.block, y.off + i * 3 + 2, none⟩ = some (.string r.v)) ∧ D i = recD H r := by
        intro i
        by_cases hi : i < len
        · obtain ⟨cs0, hc0, _⟩ := hel 0 (by omega)
          have hs : y.spot = none ∧ y.block < W.heap.size := by
            obtain ⟨_, hl0, hcell0⟩ := World.cells?_some hc0
            obtain ⟨c0, c1, c2, rfl⟩ := three_l hl0
            have k0 : W.cell? y = some c0 := by simpa [Addr.add] using hcell0 0 (by omega)
            exact ⟨World.cell?_spot k0, block_lt_of_cell k0⟩
          obtain ⟨cs', hcs', ht'⟩ := hel i (by omega)
          obtain ⟨r, h1, h2⟩ := read_rec hs.1 hcs' ht'
          exact ⟨r, fun _ => ⟨hs, h1, h2⟩⟩
        · exact ⟨rec0, fun h => absurd h hi⟩
      obtain ⟨f, hf'⟩ := Classical.axiomOfChoice hex
      obtain ⟨⟨hs, hb⟩, _⟩ := hf' 0 (by omega)
      refine ⟨(List.range len).map f, ⟨by simp, fun _ => ⟨y.block, y.off, by obtain ⟨b, o, sp⟩ := y; simp only at hs; subst hs; rfl, hb, fun i hi => ?_⟩⟩, hl, (fun h => nomatch h), .inr ⟨_, _, by rw [hx], hlen, fun r hr => ?_⟩⟩
      · have hg : ((List.range len).map f).getD i rec0 = f i := by
          rw [List.getD_eq_getElem?_getD, List.getElem?_map, List.getElem?_range hi]; rfl
        rw [hg]
        exact (hf' i hi).2.1
      · obtain ⟨i, hi, rfl⟩ := List.mem_map.1 hr
        have hi' := List.mem_range.1 hi
        rw [← (hf' i hi').2.2]
        exact List.mem_map.2 ⟨i, hi, rfl⟩
/-- Where the bulk is small. -/
theorem small_recs {H : Type} {d : DataW H} {l : List (DataW H)} {rs : List Rec} {len cap : Nat} (hd : d ∈ l) (hk : Rows.uptoSmall H l = true) (hl : len ≤ cap) (h : (d = .nil ∧ len = 0 ∧ cap = 0) ∨ ∃ elems spare, d = .slice elems spare ∧ elems.length + spare.length = cap ∧ ∀ r ∈ rs, recD H r ∈ elems) (hn : rs.length = len) :
    cap ≤ 1048576 ∧ Fine rs := by
  rcases h with ⟨_, h1, h2⟩ | ⟨elems, spare, h1, h2, h3⟩
  · refine ⟨by omega, fun r hr => ?_⟩
    have : rs = [] := List.length_eq_zero_iff.1 (by omega)
    subst this
    cases hr
  · have hp := Bulk.places h1 hd hk
    refine ⟨by omega, fun r hr => ?_⟩
    have hm := Bulk.member (h3 r hr)
    have hb : Rows.uptoBulkAll l ≤ 1048576 := of_decide_eq_true hk
    have h4 := Bulk.member hd
    subst h1
    simp only [Rows.uptoBulk] at h4
    unfold recD at hm
    simp only [Rows.uptoBulk, Rows.uptoBulkAll, Array.length_toList] at hm
    have e1 : r.k.data.size = r.k.size := rfl
    have e2 : r.v.data.size = r.v.size := rfl
    rw [e1, e2] at hm
    exact ⟨by omega, by omega⟩
end Go.Proofs.Ytlbplicafcoifaa.So
