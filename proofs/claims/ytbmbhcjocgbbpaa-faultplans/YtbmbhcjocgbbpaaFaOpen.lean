/-
  Entries as they are handed in.
-/
import Derived.Test.YtbmbhcjocgbbpaaFaList
import Derived.Test.YtbmbhcjocgbbpaaFaBlk
import Derived.Test.YtbmbhcjocgbbpaaBulk
import Derived.ChangeMaps5
import Derived.Deep.Strs
namespace Go.Proofs.Ytbmbhcjocgbbpaa.Fa
open Go.ChangeShapes Go.WideShapes Go.ChangeAt Go.RowKit Go.ChangeMaps Go.Deep
open Go.Proofs.Ytbmbhcjocgbbpaa.Base
set_option linter.unusedVariables false
/-- The entry's numbers are ints. -/
structure Wf (f : Flt) : Prop where
  k : (Lit.int .i64 f.k).wf = true
  j : (Lit.int .i64 f.j).wf = true
  t : (Lit.int .i64 f.t).wf = true
  a : (Lit.int .i64 f.a).wf = true
  m : (Lit.int .i64 f.m).wf = true
  r : (Lit.int .i64 f.r).wf = true
  p : (Lit.int .i64 f.p).wf = true
theorem wf_bounds {x : Int} (h : (Lit.int .i64 x).wf = true) : -9223372036854775808 ≤ x ∧ x ≤ 9223372036854775807 := by
  have := bounds_i64 h
  omega
theorem trod_struct8 {H : Type} {enc : TypeId × Value → H} {P : Program} {w : World} {base : Nat} {spare : Nat → Bool} {held : Bool} {t : TypeId} {f0 f1 f2 f3 f4 f5 f6 f7 : Field} {fuel : Nat} {cs : List Value} {x : DataW H × List MemPlace} (ht : P.underlying t = some (.struct #[f0, f1, f2, f3, f4, f5, f6, f7])) (h : DataW.trod enc P w base spare held fuel t cs = some x) :
    ∃ y0 y1 y2 y3 y4 y5 y6 y7 n, x.1 = .agg [y0.1, y1.1, y2.1, y3.1, y4.1, y5.1, y6.1, y7.1] ∧ DataW.trod enc P w base spare held n f0.type ((cs.drop f0.offset).take (P.cellsOf f0.type)) = some y0 ∧ DataW.trod enc P w base spare held n f1.type ((cs.drop f1.offset).take (P.cellsOf f1.type)) = some y1 ∧ DataW.trod enc P w base spare held n f2.type ((cs.drop f2.offset).take (P.cellsOf f2.type)) = some y2 ∧ DataW.trod enc P w base spare held n f3.type ((cs.drop f3.offset).take (P.cellsOf f3.type)) = some y3 ∧ DataW.trod enc P w base spare held n f4.type ((cs.drop f4.offset).take (P.cellsOf f4.type)) = some y4 ∧ DataW.trod enc P w base spare held n f5.type ((cs.drop f5.offset).take (P.cellsOf f5.type)) = some y5 ∧ DataW.trod enc P w base spare held n f6.type ((cs.drop f6.offset).take (P.cellsOf f6.type)) = some y6 ∧ DataW.trod enc P w base spare held n f7.type ((cs.drop f7.offset).take (P.cellsOf f7.type)) = some y7 := by
  obtain ⟨xs, n, _, rfl, hl, hlen, hf⟩ := DataW.trod_struct ht h
  match xs, hlen with
  | [y0, y1, y2, y3, y4, y5, y6, y7], _ => exact ⟨y0, y1, y2, y3, y4, y5, y6, y7, n, by simp, by simpa using hf 0 f0 rfl, by simpa using hf 1 f1 rfl, by simpa using hf 2 f2 rfl, by simpa using hf 3 f3 rfl, by simpa using hf 4 f4 rfl, by simpa using hf 5 f5 rfl, by simpa using hf 6 f6 rfl, by simpa using hf 7 f7 rfl⟩
theorem eight {α : Type} {cs : Array α} (h : cs.size = 8) : ∃ c0 c1 c2 c3 c4 c5 c6 c7, cs = #[c0, c1, c2, c3, c4, c5, c6, c7] := by
  obtain ⟨l⟩ := cs
  match l, h with
  | [c0, c1, c2, c3, c4, c5, c6, c7], _ => exact ⟨c0, c1, c2, c3, c4, c5, c6, c7, rfl⟩
theorem eight_l {α : Type} {cs : List α} (h : cs.length = 8) : ∃ c0 c1 c2 c3 c4 c5 c6 c7, cs = [c0, c1, c2, c3, c4, c5, c6, c7] := by
  match cs, h with
  | [c0, c1, c2, c3, c4, c5, c6, c7], _ => exact ⟨c0, c1, c2, c3, c4, c5, c6, c7, rfl⟩
theorem ocells_int : Try.prog.cellsOf 3 = 1 := by kernel_rfl
theorem ocells_int64 : Try.prog.cellsOf 2 = 1 := by kernel_rfl
theorem ocells_u32 : Try.prog.cellsOf 23 = 1 := by kernel_rfl
theorem ocells_fault : Try.prog.cellsOf 25 = 8 := by kernel_rfl
theorem obytes_fault : Try.prog.bytesOf 25 = 64 := by kernel_rfl
theorem open_flt {H : Type} {enc : TypeId × Value → H} {W : World} {base : Nat} {spare : Nat → Bool} {held : Bool} {c0 c1 c2 c3 c4 c5 c6 c7 : Value} {x : DataW H × List MemPlace} {n : Nat} (h : DataW.trod enc Try.prog W base spare held n 25 [c0, c1, c2, c3, c4, c5, c6, c7] = some x) :
    ∃ f : Flt, Wf f ∧ [c0, c1, c2, c3, c4, c5, c6, c7] = fv f := by
  obtain ⟨y0, y1, y2, y3, y4, y5, y6, y7, n', hx, t0, t1, t2, t3, t4, t5, t6, t7⟩ := trod_struct8 Try.underlying25 h
  simp only [ocells_int, ocells_int64, ocells_u32] at t0 t1 t2 t3 t4 t5 t6 t7
  obtain ⟨v0, e0, _, g0⟩ := DataW.trod_int Try.underlying3 t0
  obtain ⟨v1, e1, _, g1⟩ := DataW.trod_int Try.underlying3 t1
  obtain ⟨v2, e2, _, g2⟩ := DataW.trod_int Try.underlying3 t2
  obtain ⟨v3, e3, _, g3⟩ := DataW.trod_int Try.underlying3 t3
  obtain ⟨v4, e4, _, g4⟩ := DataW.trod_int Try.underlying3 t4
  obtain ⟨v5, e5, _, g5⟩ := DataW.trod_int Try.underlying3 t5
  obtain ⟨v6, e6, _, g6⟩ := DataW.trod_int Try.underlying2 t6
  obtain ⟨v7, e7, _, g7⟩ := DataW.trod_int Try.underlying23 t7
  simp at e0 e1 e2 e3 e4 e5 e6 e7
  subst e0 e1 e2 e3 e4 e5 e6 e7
  obtain ⟨q, rfl⟩ := bv_u32 g7
  exact ⟨⟨v0, v1, v2, v3, v4, v5, v6, q⟩, ⟨g0, g1, g2, g3, g4, g5, g6⟩, rfl⟩
theorem open_fault {H : Type} {enc : TypeId × Value → H} {W : World} {base : Nat} {spare : Nat → Bool} {held : Bool} {cs : Array Value} {d : DataW H} {p : List MemPlace} (hc : cs.size = Try.prog.cellsOf 25) (h : ∃ n, DataW.trod enc Try.prog W base spare held n 25 (Value.agg cs).cells.toList = some (d, p)) :
    ∃ f : Flt, Value.agg cs = f.val ∧ Wf f := by
  obtain ⟨c0, c1, c2, c3, c4, c5, c6, c7, rfl⟩ := eight (hc.trans ocells_fault)
  obtain ⟨fuel, hf⟩ := h
  obtain ⟨f, hw, e⟩ := open_flt (c0 := c0) (c1 := c1) (c2 := c2) (c3 := c3) (c4 := c4) (c5 := c5) (c6 := c6) (c7 := c7) hf
  refine ⟨f, ?_, hw⟩
  unfold fv at e
  simp only [List.cons.injEq, and_true] at e
  obtain ⟨rfl, rfl, rfl, rfl, rfl, rfl, rfl, rfl⟩ := e
  rfl
theorem oaddr_add (x : Addr) (h : x.spot = none) (k : Nat) : x.add k = ⟨x.block, x.off + k, none⟩ := by
  obtain ⟨b, o, s⟩ := x
  simp only at h
  subst h
  cases k <;> simp [Addr.add]
theorem open_faults {H : Type} {enc : TypeId × Value → H} {W : World} {held : Bool} {fuel : Nat} {a : Option Addr} {len cap : Nat} {x : DataW H × List MemPlace}
    (hf : DataW.trod enc Try.prog W 0 (fun _ => true) held fuel 32 [.slice a len cap] = some x) :
    ∃ fs : List Flt, RdL W a len fs ∧ (∀ f ∈ fs, Wf f) ∧ len ≤ cap ∧ (a = none → len = 0 ∧ cap = 0) ∧ (cap = 0 ∨ ∃ es sp, x.1 = .slice es sp ∧ es.length + sp.length = cap) := by
  rcases open_slice Try.underlying32 hf with ⟨hcs, hx⟩ | ⟨y, l, c, m, n, D, Pl, hcs, _, hl, hmx, hm, hx, hel⟩
  · simp at hcs
    obtain ⟨rfl, rfl, rfl⟩ := hcs
    exact ⟨[], rdl_zero _ _, (fun t ht => by cases ht), Nat.le_refl _, (fun _ => ⟨rfl, rfl⟩), .inl rfl⟩
  · simp at hcs
    obtain ⟨rfl, rfl, rfl⟩ := hcs
    simp only [if_true] at hm
    have hm' := hm.symm
    subst hm'
    rw [ocells_fault] at hel
    have hx1 : x.1 = .slice ((List.range len).map D) ((List.range (cap - len)).map fun j => D (len + j)) := by rw [hx]
    have hcap : cap = 0 ∨ ∃ es sp, x.1 = .slice es sp ∧ es.length + sp.length = cap := .inr ⟨_, _, hx1, by simp; omega⟩
    by_cases hz : len = 0
    · subst hz
      exact ⟨[], rdl_zero _ _, (fun t ht => by cases ht), hl, (fun e => by cases e), hcap⟩
    · have hex : ∀ i, ∃ f : Flt, i < len → (y.spot = none ∧ y.block < W.heap.size) ∧ At8 W y.block (y.off + i * 8) f ∧ Wf f := by
        intro i
        by_cases hi : i < len
        · obtain ⟨cs, h1, h2⟩ := hel i (by omega)
          obtain ⟨_, hl8, hcell⟩ := World.cells?_some h1
          obtain ⟨c0, c1, c2, c3, c4, c5, c6, c7, rfl⟩ := eight_l hl8
          obtain ⟨f, hw, e⟩ := open_flt h2
          have hs : y.spot = none ∧ y.block < W.heap.size := by
            obtain ⟨cs0, hc0, _⟩ := hel 0 (by omega)
            obtain ⟨_, hl0, hcell0⟩ := World.cells?_some hc0
            obtain ⟨e0, e1, e2, e3, e4, e5, e6, e7, rfl⟩ := eight_l hl0
            have k0 : W.cell? y = some e0 := by simpa [Addr.add] using hcell0 0 (by omega)
            exact ⟨World.cell?_spot k0, block_lt_of_cell k0⟩
          refine ⟨f, fun _ => ⟨hs, At8.mk fun c u hu => ?_, hw⟩⟩
          have hc8 : c < 8 := (List.getElem?_eq_some_iff.1 hu).1
          have hk := hcell c hc8
          rw [oaddr_add y hs.1, oaddr_add _ rfl] at hk
          simp only at hk
          rw [hk]
          rw [← e] at hu
          exact hu
        · exact ⟨f0, fun h => absurd h hi⟩
      obtain ⟨g, hg⟩ := Classical.axiomOfChoice hex
      obtain ⟨⟨hs, hb⟩, _⟩ := hg 0 (by omega)
      refine ⟨(List.range len).map g, ⟨by simp, fun _ => ⟨y.block, y.off, by obtain ⟨b, o, sp⟩ := y; simp only at hs; subst hs; rfl, hb, fun i hi => ?_⟩⟩, fun t ht => ?_, hl, (fun e => by cases e), hcap⟩
      · have hgi : ((List.range len).map g).getD i f0 = g i := by
          rw [List.getD_eq_getElem?_getD, List.getElem?_map, List.getElem?_range hi]; rfl
        rw [hgi]
        exact (hg i hi).2.1
      · obtain ⟨i, hi, rfl⟩ := List.mem_map.1 ht
        exact (hg i (List.mem_range.1 hi)).2.2
end Go.Proofs.Ytbmbhcjocgbbpaa.Fa
