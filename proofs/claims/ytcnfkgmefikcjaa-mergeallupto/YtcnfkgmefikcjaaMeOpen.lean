/-
  A list of sources, as it is handed in.
-/
import Derived.Test.YtcnfkgmefikcjaaMeFeeds
import Derived.Deep.Slices
import Derived.ChangeMaps5
namespace Go.Proofs.Ytcnfkgmefikcjaa.Me
open Go.ChangeShapes Go.WideShapes Go.ChangeAt Go.RowKit Go.ChangeMaps Go.Deep
open Go.Proofs.Ytcnfkgmefikcjaa.Base
set_option linter.unusedVariables false
theorem add_eq {x : Addr} (h : x.spot = none) (n : Nat) : x.add n = ⟨x.block, x.off + n, none⟩ := by
  obtain ⟨b, off, sp⟩ := x
  simp only at h
  subst h
  unfold Addr.add
  split
  · rename_i h; have h0 : n = 0 := by simpa using h
    subst h0; rfl
  · rfl
theorem two_l {cs : List Value} (h : cs.length = 2) : ∃ c0 c1, cs = [c0, c1] := by
  match cs, h with
  | [c0, c1], _ => exact ⟨c0, c1, rfl⟩
theorem trod_struct2 {H : Type} {enc : TypeId × Value → H} {P : Program} {w : World} {base : Nat} {spare : Nat → Bool} {held : Bool} {t : TypeId} {f0 f1 : Field} {fuel : Nat} {cs : List Value} {x : DataW H × List MemPlace} (ht : P.underlying t = some (.struct #[f0, f1])) (h : DataW.trod enc P w base spare held fuel t cs = some x) :
    ∃ y0 y1 n, x.1 = .agg [y0.1, y1.1] ∧ DataW.trod enc P w base spare held n f0.type ((cs.drop f0.offset).take (P.cellsOf f0.type)) = some y0 ∧ DataW.trod enc P w base spare held n f1.type ((cs.drop f1.offset).take (P.cellsOf f1.type)) = some y1 := by
  obtain ⟨xs, n, _, rfl, hl, hlen, hf⟩ := DataW.trod_struct ht h
  match xs, hlen with
  | [y0, y1], _ => exact ⟨y0, y1, n, by simp, by simpa using hf 0 f0 rfl, by simpa using hf 1 f1 rfl⟩
theorem cells_int : Try.prog.cellsOf 3 = 1 := by kernel_rfl
theorem cells_errno : Try.prog.cellsOf 27 = 1 := by kernel_rfl
theorem cells_ths : Try.prog.cellsOf 30 = 1 := by kernel_rfl
theorem cells_th : Try.prog.cellsOf 36 = 2 := by kernel_rfl
theorem cells_src : Try.prog.cellsOf 46 = 2 := by kernel_rfl
theorem read_th {H : Type} {enc : TypeId × Value → H} {W : World} {base : Nat} {spare : Nat → Bool} {held : Bool} {x : Addr} {i n : Nat} {cs : List Value} {D : DataW H} {Pl : List MemPlace}
    (hs : x.spot = none) (hcs : W.cells? base (x.add (i * 2)) 2 = some cs) (ht : DataW.trod enc Try.prog W base spare held n 36 cs = some (D, Pl)) :
    ∃ t : Th, W.cell? ⟨x.block, x.off + i * 2, none⟩ = some (.int .i64 t.key) ∧ W.cell? ⟨x.block, x.off + i * 2 + 1, none⟩ = some (.int .i64 t.name) := by
  rw [add_eq hs] at hcs
  obtain ⟨_, hl, hcell⟩ := World.cells?_some hcs
  obtain ⟨c0, c1, rfl⟩ := two_l hl
  obtain ⟨y0, y1, n', hx, t0, t1⟩ := trod_struct2 Try.underlying36 ht
  simp only [cells_int] at t0 t1
  obtain ⟨o, h0, _, _⟩ := DataW.trod_int Try.underlying3 t0
  obtain ⟨u, h1, _, _⟩ := DataW.trod_int Try.underlying3 t1
  simp at h0 h1
  subst h0 h1
  have k0 := hcell 0 (by omega)
  have k1 := hcell 1 (by omega)
  rw [add_eq rfl] at k0 k1
  simp at k0 k1
  exact ⟨⟨o, u⟩, k0, k1⟩
/-- What is read of a list of so many places. -/
def Sized {H : Type} (d : DataW H) (len cap : Nat) : Prop := (d = .nil ∧ len = 0 ∧ cap = 0) ∨ ∃ elems spare, d = .slice elems spare ∧ elems.length = len ∧ elems.length + spare.length = cap
theorem open_things {H : Type} {enc : TypeId × Value → H} {W : World} {held : Bool} {fuel : Nat} {v : Value} {x : DataW H × List MemPlace}
    (hf : DataW.trod enc Try.prog W 0 (fun _ => true) held fuel 30 [v] = some x) :
    ∃ a c ts, v = .slice a ts.length c ∧ RdH W a ts ∧ ts.length ≤ c ∧ Sized x.1 ts.length c := by
  rcases open_slice Try.underlying30 hf with ⟨hcs, hx⟩ | ⟨y, l, c, m, n, D, Pl, hcs, _, hl, hmx, hm, hx, hel⟩
  · simp at hcs
    subst hcs
    exact ⟨none, 0, [], rfl, fun h => absurd h (by simp), Nat.le_refl _, .inl ⟨by rw [hx], rfl, rfl⟩⟩
  · simp at hcs
    subst hcs
    simp only [if_true] at hm
    have hm' := hm.symm
    subst hm'
    rw [cells_th] at hel
    have hsz : ∀ ts : List Th, ts.length = l → Sized x.1 ts.length c := fun ts e => .inr ⟨_, _, by rw [hx], by simp [e], by simp; omega⟩
    by_cases hz : l = 0
    · subst hz
      exact ⟨some y, c, [], rfl, fun h => absurd h (by simp), by simp, hsz [] rfl⟩
    · have hex : ∀ i, ∃ t : Th, i < l → (y.spot = none ∧ y.block < W.heap.size) ∧ W.cell? ⟨y.block, y.off + i * 2, none⟩ = some (.int .i64 t.key) ∧ W.cell? ⟨y.block, y.off + i * 2 + 1, none⟩ = some (.int .i64 t.name) := by
        intro i
        by_cases hi : i < l
        · obtain ⟨cs0, hc0, _⟩ := hel 0 (by omega)
          have hs : y.spot = none ∧ y.block < W.heap.size := by
            obtain ⟨_, hl0, hcell0⟩ := World.cells?_some hc0
            obtain ⟨c0, c1, rfl⟩ := two_l hl0
            have k0 : W.cell? y = some c0 := by simpa [Addr.add] using hcell0 0 (by omega)
            exact ⟨World.cell?_spot k0, block_lt_of_cell k0⟩
          obtain ⟨cs', hcs', ht'⟩ := hel i (by omega)
          obtain ⟨t, h1, h2⟩ := read_th hs.1 hcs' ht'
          exact ⟨t, fun _ => ⟨hs, h1, h2⟩⟩
        · exact ⟨th0, fun h => absurd h hi⟩
      obtain ⟨f, hf'⟩ := Classical.axiomOfChoice hex
      obtain ⟨⟨hs, hb⟩, _⟩ := hf' 0 (by omega)
      have hlen : ((List.range l).map f).length = l := by simp
      refine ⟨some y, c, (List.range l).map f, by rw [hlen], fun _ => ⟨y.block, y.off, by obtain ⟨b, o, sp⟩ := y; simp only at hs; subst hs; rfl, hb, fun i hi => ?_⟩, by rw [hlen]; exact hl, hsz _ hlen⟩
      rw [hlen] at hi
      have hg : ((List.range l).map f).getD i th0 = f i := by
        rw [List.getD_eq_getElem?_getD, List.getElem?_map, List.getElem?_range hi]; rfl
      rw [hg]
      exact (hf' i hi).2
/-- What is read of a source. -/
def SrcD {H : Type} (d : DataW H) (s : Src) : Prop := ∃ d0 d1, d = .agg [d0, d1] ∧ Sized d0 s.ts.length s.c
theorem read_src {H : Type} {enc : TypeId × Value → H} {W : World} {held : Bool} {x : Addr} {i n : Nat} {cs : List Value} {D : DataW H} {Pl : List MemPlace}
    (hs : x.spot = none) (hcs : W.cells? 0 (x.add (i * 2)) 2 = some cs) (ht : DataW.trod enc Try.prog W 0 (fun _ => true) held n 46 cs = some (D, Pl)) :
    ∃ s : Src, (W.cell? ⟨x.block, x.off + i * 2, none⟩ = some (.slice s.a s.ts.length s.c) ∧ W.cell? ⟨x.block, x.off + i * 2 + 1, none⟩ = some (.int .i64 s.fin)) ∧ RdH W s.a s.ts ∧ SrcD D s := by
  rw [add_eq hs] at hcs
  obtain ⟨_, hl, hcell⟩ := World.cells?_some hcs
  obtain ⟨c0, c1, rfl⟩ := two_l hl
  obtain ⟨y0, y1, n', hx, t0, t1⟩ := trod_struct2 Try.underlying46 ht
  simp only [cells_ths, cells_errno] at t0 t1
  simp only at hx
  obtain ⟨u, h1, _, _⟩ := DataW.trod_int Try.underlying27 t1
  simp at h1
  subst h1
  obtain ⟨a, c, ts, rfl, hr, hle, hsz⟩ := open_things (v := c0) (x := y0) (by simpa using t0)
  have k0 := hcell 0 (by omega)
  have k1 := hcell 1 (by omega)
  rw [add_eq rfl] at k0 k1
  simp at k0 k1
  exact ⟨⟨a, c, ts, u⟩, ⟨k0, k1⟩, hr, _, _, hx, hsz⟩
theorem open_srcs {H : Type} {enc : TypeId × Value → H} {W : World} {held : Bool} {fuel : Nat} {a : Option Addr} {len cap : Nat} {x : DataW H × List MemPlace}
    (hf : DataW.trod enc Try.prog W 0 (fun _ => true) held fuel 22 [.slice a len cap] = some x) :
    ∃ ss : List Src, ss.length = len ∧ RdQ W a ss ∧ (∀ s ∈ ss, RdH W s.a s.ts) ∧ len ≤ cap ∧ ((x.1 = .nil ∧ len = 0 ∧ cap = 0) ∨ ∃ elems spare, x.1 = .slice elems spare ∧ elems.length + spare.length = cap ∧ ∀ s ∈ ss, ∃ d ∈ elems, SrcD d s) := by
  rcases open_slice Try.underlying22 hf with ⟨hcs, hx⟩ | ⟨y, l, c, m, n, D, Pl, hcs, _, hl, hmx, hm, hx, hel⟩
  · simp at hcs
    obtain ⟨rfl, rfl, rfl⟩ := hcs
    exact ⟨[], rfl, fun h => absurd h (by simp), (fun s hs => by cases hs), Nat.le_refl _, .inl ⟨by rw [hx], rfl, rfl⟩⟩
  · simp at hcs
    obtain ⟨rfl, rfl, rfl⟩ := hcs
    simp only [if_true] at hm
    have hm' := hm.symm
    subst hm'
    rw [cells_src] at hel
    have hlen : ((List.range len).map D).length + ((List.range (cap - len)).map fun j => D (len + j)).length = cap := by simp; omega
    by_cases hz : len = 0
    · subst hz
      exact ⟨[], rfl, fun h => absurd h (by simp), (fun s hs => by cases hs), hl, .inr ⟨_, _, by rw [hx], hlen, (fun s hs => by cases hs)⟩⟩
    · have hex : ∀ i, ∃ s : Src, i < len → (y.spot = none ∧ y.block < W.heap.size) ∧ (W.cell? ⟨y.block, y.off + i * 2, none⟩ = some (.slice s.a s.ts.length s.c) ∧ W.cell? ⟨y.block, y.off + i * 2 + 1, none⟩ = some (.int .i64 s.fin)) ∧ RdH W s.a s.ts ∧ SrcD (D i) s := by
        intro i
        by_cases hi : i < len
        · obtain ⟨cs0, hc0, _⟩ := hel 0 (by omega)
          have hs : y.spot = none ∧ y.block < W.heap.size := by
            obtain ⟨_, hl0, hcell0⟩ := World.cells?_some hc0
            obtain ⟨c0, c1, rfl⟩ := two_l hl0
            have k0 : W.cell? y = some c0 := by simpa [Addr.add] using hcell0 0 (by omega)
            exact ⟨World.cell?_spot k0, block_lt_of_cell k0⟩
          obtain ⟨cs', hcs', ht'⟩ := hel i (by omega)
          obtain ⟨s, h1, h2, h3⟩ := read_src hs.1 hcs' ht'
          exact ⟨s, fun _ => ⟨hs, h1, h2, h3⟩⟩
        · exact ⟨src0, fun h => absurd h hi⟩
      obtain ⟨f, hf'⟩ := Classical.axiomOfChoice hex
      obtain ⟨⟨hs, hb⟩, _⟩ := hf' 0 (by omega)
      refine ⟨(List.range len).map f, by simp, fun _ => ⟨y.block, y.off, by obtain ⟨b, o, sp⟩ := y; simp only at hs; subst hs; rfl, hb, fun i hi => ?_⟩, fun s hs2 => ?_, hl, .inr ⟨_, _, by rw [hx], hlen, fun s hs2 => ?_⟩⟩
      · have hi' : i < len := by simpa using hi
        have hg : ((List.range len).map f).getD i src0 = f i := by
          rw [List.getD_eq_getElem?_getD, List.getElem?_map, List.getElem?_range hi']; rfl
        rw [hg]
        exact (hf' i hi').2.1
      · obtain ⟨i, hi, rfl⟩ := List.mem_map.1 hs2
        exact (hf' i (List.mem_range.1 hi)).2.2.1
      · obtain ⟨i, hi, rfl⟩ := List.mem_map.1 hs2
        exact ⟨D i, List.mem_map.2 ⟨i, hi, rfl⟩, (hf' i (List.mem_range.1 hi)).2.2.2⟩
end Go.Proofs.Ytcnfkgmefikcjaa.Me
