/-
  The tables as they are laid; a book and a task as they are handed in.
-/
import Derived.Test.YtgpfabblmoffiaaDoorLgO
import Derived.Test.YtgpfabblmoffiaaDoorRows
import Derived.ProofKit
import Derived.LaidMore
import Derived.OpenShut
import Derived.Stop.Joined
import Derived.ChangeMaps5
import Derived.ShutString
import Derived.ChangeOld
import Derived.Below
import Derived.Deep.Strs
namespace Go.Proofs.YtgpfabblmoffiaaDoor.Lg
open Go.ChangeShapes Go.WideShapes Go.ChangeAt Go.RowKit Go.ChangeMaps Go.Deep
open Go.Proofs.YtgpfabblmoffiaaDoor.Base Go.Proofs.YtgpfabblmoffiaaDoor.Rf
set_option linter.unusedVariables false
section
variable {H : Type} {enc : TypeId × Value → H} {w : World} {base : Nat} {spare : Nat → Bool} {held : Bool} {fuel : Nat}
theorem lat_take {cs : List Value} {o : Nat} {v : Value} (h : (cs.drop o).take 1 = [v]) : cs[o]? = some v := by
  have := congrArg (fun l : List Value => l[0]?) h
  simpa using this
theorem lint_cell {cs : List Value} {o : Nat} {n : Int} {x : Option (DataW H × List MemPlace)} {ps : List MemPlace} (h : DataW.trod enc Tryd.prog w base spare held fuel 3 ((cs.drop o).take 1) = x) (hx : x = some (.lit (.int .i64 n), ps)) : cs[o]? = some (.int .i64 n) := by
  subst hx
  obtain ⟨m, e1, e2, _⟩ := DataW.trod_int Tryd.underlying3 h
  simp only [Prod.mk.injEq, DataW.lit.injEq, Lit.int.injEq, true_and] at e2
  rw [e2.1]
  exact lat_take e1
theorem lc_int : Tryd.prog.cellsOf 3 = 1 := by kernel_rfl
theorem lc_bool : Tryd.prog.cellsOf 4 = 1 := by kernel_rfl
theorem lc_four : Tryd.prog.cellsOf 93 = 4 := by kernel_rfl
theorem lc_list : Tryd.prog.cellsOf 24 = 1 := by kernel_rfl
theorem lc_ts : Tryd.prog.cellsOf 43 = 3 := by kernel_rfl
theorem lc_id : Tryd.prog.cellsOf 37 = 2 := by kernel_rfl
theorem lc_book : Tryd.prog.cellsOf 26 = 4 := by kernel_rfl
theorem lb_ts : Tryd.prog.bytesOf 43 = 24 := by kernel_rfl
theorem lsub_cell {cs : List Value} {o m j : Nat} (hj : j < m) : ((cs.drop o).take m)[j]? = cs[o + j]? := by
  rw [List.getElem?_take, if_pos hj, List.getElem?_drop]
theorem lrow4 {cs : List Value} {n0 n1 n2 n3 : Int} {x : Option (DataW H × List MemPlace)} {ps : List MemPlace} (h : DataW.trod enc Tryd.prog w base spare held fuel 93 cs = x) (hx : x = some (.agg [.lit (.int .i64 n0), .lit (.int .i64 n1), .lit (.int .i64 n2), .lit (.int .i64 n3)], ps)) :
    cs[0]? = some (.int .i64 n0) ∧ cs[1]? = some (.int .i64 n1) ∧ cs[2]? = some (.int .i64 n2) ∧ cs[3]? = some (.int .i64 n3) := by
  subst hx
  obtain ⟨xs, n, _, hxx, hl, hlen, hf⟩ := DataW.trod_array Tryd.underlying93 h
  match xs, hlen with
  | [y0, y1, y2, y3], _ =>
    simp only [Prod.mk.injEq, DataW.agg.injEq, List.map_cons, List.map_nil, List.cons.injEq, and_true] at hxx
    obtain ⟨⟨e0, e1, e2, e3⟩, _⟩ := hxx
    have g0 := hf 0 (by omega)
    have g1 := hf 1 (by omega)
    have g2 := hf 2 (by omega)
    have g3 := hf 3 (by omega)
    simp only [lc_int, List.getElem?_cons_zero, List.getElem?_cons_succ, Nat.mul_one] at g0 g1 g2 g3
    exact ⟨lint_cell (o := 0) g0 (ps := y0.2) (by rw [e0]), lint_cell (o := 1) g1 (ps := y1.2) (by rw [e1]), lint_cell (o := 2) g2 (ps := y2.2) (by rw [e2]), lint_cell (o := 3) g3 (ps := y3.2) (by rw [e3])⟩
end
theorem lead_cells {enc : TypeId × Value → Unit} {w : World} {base : Nat} {spare : Nat → Bool} {held : Bool} {fuel : Nat} {cs : List Value} {ps : List MemPlace} (h : DataW.trod enc Tryd.prog w base spare held fuel 96 cs = some (Rows.laid_winnow_ledger_lead, ps)) : ∀ i, i < 8 → cs[i]? = some (.int .i64 (leadC.getD i 0)) := by
  obtain ⟨xs, n, _, hxx, hl, hlen, hf⟩ := DataW.trod_array Tryd.underlying96 h
  match xs, hlen with
  | [y0, y1], _ =>
    unfold Rows.laid_winnow_ledger_lead at hxx
    simp only [Prod.mk.injEq, DataW.agg.injEq, List.map_cons, List.map_nil, List.cons.injEq, and_true] at hxx
    obtain ⟨⟨e0, e1⟩, _⟩ := hxx
    have g0 := hf 0 (by omega)
    have g1 := hf 1 (by omega)
    simp only [lc_four, List.getElem?_cons_zero, List.getElem?_cons_succ] at g0 g1
    obtain ⟨a0, a1, a2, a3⟩ := lrow4 g0 (ps := y0.2) (by rw [e0])
    obtain ⟨b0, b1, b2, b3⟩ := lrow4 g1 (ps := y1.2) (by rw [e1])
    rw [lsub_cell (by omega)] at a0 a1 a2 a3 b0 b1 b2 b3
    intro i hi
    match i, hi with
    | 0, _ => exact a0
    | 1, _ => exact a1
    | 2, _ => exact a2
    | 3, _ => exact a3
    | 4, _ => exact b0
    | 5, _ => exact b1
    | 6, _ => exact b2
    | 7, _ => exact b3
theorem after_cells {enc : TypeId × Value → Unit} {w : World} {base : Nat} {spare : Nat → Bool} {held : Bool} {fuel : Nat} {cs : List Value} {ps : List MemPlace} (h : DataW.trod enc Tryd.prog w base spare held fuel 94 cs = some (Rows.laid_winnow_ledger_after, ps)) : ∀ i, i < 20 → cs[i]? = some (.int .i64 (afterC.getD i 0)) := by
  obtain ⟨xs, n, _, hxx, hl, hlen, hf⟩ := DataW.trod_array Tryd.underlying94 h
  match xs, hlen with
  | [y0, y1, y2, y3, y4], _ =>
    unfold Rows.laid_winnow_ledger_after at hxx
    simp only [Prod.mk.injEq, DataW.agg.injEq, List.map_cons, List.map_nil, List.cons.injEq, and_true] at hxx
    obtain ⟨⟨e0, e1, e2, e3, e4⟩, _⟩ := hxx
    have g0 := hf 0 (by omega)
    have g1 := hf 1 (by omega)
    have g2 := hf 2 (by omega)
    have g3 := hf 3 (by omega)
    have g4 := hf 4 (by omega)
    simp only [lc_four, List.getElem?_cons_zero, List.getElem?_cons_succ] at g0 g1 g2 g3 g4
    obtain ⟨a0, a1, a2, a3⟩ := lrow4 g0 (ps := y0.2) (by rw [e0])
    obtain ⟨b0, b1, b2, b3⟩ := lrow4 g1 (ps := y1.2) (by rw [e1])
    obtain ⟨c0, c1, c2, c3⟩ := lrow4 g2 (ps := y2.2) (by rw [e2])
    obtain ⟨d0, d1, d2, d3⟩ := lrow4 g3 (ps := y3.2) (by rw [e3])
    obtain ⟨f0, f1, f2, f3⟩ := lrow4 g4 (ps := y4.2) (by rw [e4])
    rw [lsub_cell (by omega)] at a0 a1 a2 a3 b0 b1 b2 b3 c0 c1 c2 c3 d0 d1 d2 d3 f0 f1 f2 f3
    intro i hi
    match i, hi with
    | 0, _ => exact a0
    | 1, _ => exact a1
    | 2, _ => exact a2
    | 3, _ => exact a3
    | 4, _ => exact b0
    | 5, _ => exact b1
    | 6, _ => exact b2
    | 7, _ => exact b3
    | 8, _ => exact c0
    | 9, _ => exact c1
    | 10, _ => exact c2
    | 11, _ => exact c3
    | 12, _ => exact d0
    | 13, _ => exact d1
    | 14, _ => exact d2
    | 15, _ => exact d3
    | 16, _ => exact f0
    | 17, _ => exact f1
    | 18, _ => exact f2
    | 19, _ => exact f3
    | n + 20, h => exact absurd h (by omega)
theorem gLead : Tryd.prog.globalNamed "winnow/ledger.lead" = some 1 := by kernel_rfl
theorem gAfter : Tryd.prog.globalNamed "winnow/ledger.after" = some 0 := by kernel_rfl
theorem tLead : (Tryd.prog.globals[1]?).map (·.type) = some 96 := by kernel_rfl
theorem tAfter : (Tryd.prog.globals[0]?).map (·.type) = some 94 := by kernel_rfl
/-- Both tables. -/
theorem of_laid {W : World} (h : laidMetH Tryd.prog [("winnow/ledger.lead", Rows.laid_winnow_ledger_lead), ("winnow/ledger.after", Rows.laid_winnow_ledger_after)] W) : Tab W := by
  rw [MakeChecks.laidMetH_plain _ _ _ (by kernel_rfl)] at h
  obtain ⟨ps, ⟨g0, t0, cs0, f0, p0, q0, hg0, ht0, hv0, hd0, ⟨g1, t1, cs1, f1, p1, q1, hg1, ht1, hv1, hd1, _, _⟩, _⟩, _, _⟩ := h
  obtain rfl := Option.some.inj (gLead.symm.trans hg0)
  obtain rfl := Option.some.inj (gAfter.symm.trans hg1)
  obtain rfl := Option.some.inj (tLead.symm.trans ht0)
  obtain rfl := Option.some.inj (tAfter.symm.trans ht1)
  have k := lead_cells hd0
  have j := after_cells hd1
  have k2 : ∀ i, i < 8 → W.cell? ⟨1, i, none⟩ = some (.int .i64 (leadC.getD i 0)) := fun i hi => by
    rw [World.var?_cell hg0 hv0 i, ← k i hi]; simp
  have j2 : ∀ i, i < 20 → W.cell? ⟨0, i, none⟩ = some (.int .i64 (afterC.getD i 0)) := fun i hi => by
    rw [World.var?_cell hg1 hv1 i, ← j i hi]; simp
  exact ⟨by have := block_lt_of_cell (k2 0 (by omega)); exact this, k2, j2⟩
theorem ltrod2 {H : Type} {enc : TypeId × Value → H} {P : Program} {w : World} {base : Nat} {spare : Nat → Bool} {held : Bool} {t : TypeId} {f0 f1 : Field} {fuel : Nat} {cs : List Value} {x : DataW H × List MemPlace} (ht : P.underlying t = some (.struct #[f0, f1])) (h : DataW.trod enc P w base spare held fuel t cs = some x) :
    ∃ y0 y1 n, x.1 = .agg [y0.1, y1.1] ∧ DataW.trod enc P w base spare held n f0.type ((cs.drop f0.offset).take (P.cellsOf f0.type)) = some y0 ∧ DataW.trod enc P w base spare held n f1.type ((cs.drop f1.offset).take (P.cellsOf f1.type)) = some y1 := by
  obtain ⟨xs, n, _, rfl, hl, hlen, hf⟩ := DataW.trod_struct ht h
  match xs, hlen with
  | [y0, y1], _ => exact ⟨y0, y1, n, by simp, by simpa using hf 0 f0 rfl, by simpa using hf 1 f1 rfl⟩
theorem ltrod3 {H : Type} {enc : TypeId × Value → H} {P : Program} {w : World} {base : Nat} {spare : Nat → Bool} {held : Bool} {t : TypeId} {f0 f1 f2 : Field} {fuel : Nat} {cs : List Value} {x : DataW H × List MemPlace} (ht : P.underlying t = some (.struct #[f0, f1, f2])) (h : DataW.trod enc P w base spare held fuel t cs = some x) :
    ∃ y0 y1 y2 n, x.1 = .agg [y0.1, y1.1, y2.1] ∧ DataW.trod enc P w base spare held n f0.type ((cs.drop f0.offset).take (P.cellsOf f0.type)) = some y0 ∧ DataW.trod enc P w base spare held n f1.type ((cs.drop f1.offset).take (P.cellsOf f1.type)) = some y1 ∧ DataW.trod enc P w base spare held n f2.type ((cs.drop f2.offset).take (P.cellsOf f2.type)) = some y2 := by
  obtain ⟨xs, n, _, rfl, hl, hlen, hf⟩ := DataW.trod_struct ht h
  match xs, hlen with
  | [y0, y1, y2], _ => exact ⟨y0, y1, y2, n, by simp, by simpa using hf 0 f0 rfl, by simpa using hf 1 f1 rfl, by simpa using hf 2 f2 rfl⟩
theorem ltrod4 {H : Type} {enc : TypeId × Value → H} {P : Program} {w : World} {base : Nat} {spare : Nat → Bool} {held : Bool} {t : TypeId} {f0 f1 f2 f3 : Field} {fuel : Nat} {cs : List Value} {x : DataW H × List MemPlace} (ht : P.underlying t = some (.struct #[f0, f1, f2, f3])) (h : DataW.trod enc P w base spare held fuel t cs = some x) :
    ∃ y0 y1 y2 y3 n, x.1 = .agg [y0.1, y1.1, y2.1, y3.1] ∧ DataW.trod enc P w base spare held n f0.type ((cs.drop f0.offset).take (P.cellsOf f0.type)) = some y0 ∧ DataW.trod enc P w base spare held n f1.type ((cs.drop f1.offset).take (P.cellsOf f1.type)) = some y1 ∧ DataW.trod enc P w base spare held n f2.type ((cs.drop f2.offset).take (P.cellsOf f2.type)) = some y2 ∧ DataW.trod enc P w base spare held n f3.type ((cs.drop f3.offset).take (P.cellsOf f3.type)) = some y3 := by
  obtain ⟨xs, n, _, rfl, hl, hlen, hf⟩ := DataW.trod_struct ht h
  match xs, hlen with
  | [y0, y1, y2, y3], _ => exact ⟨y0, y1, y2, y3, n, by simp, by simpa using hf 0 f0 rfl, by simpa using hf 1 f1 rfl, by simpa using hf 2 f2 rfl, by simpa using hf 3 f3 rfl⟩
theorem l3 {cs : List Value} (h : cs.length = 3) : ∃ c0 c1 c2, cs = [c0, c1, c2] := by
  match cs, h with
  | [c0, c1, c2], _ => exact ⟨c0, c1, c2, rfl⟩
theorem open_ts {H : Type} {enc : TypeId × Value → H} {W : World} {base : Nat} {spare : Nat → Bool} {held : Bool} {c0 c1 c2 : Value} {x : DataW H × List MemPlace} {n : Nat} (h : DataW.trod enc Tryd.prog W base spare held n 43 [c0, c1, c2] = some x) : ∃ s : TS, [c0, c1, c2] = tv s := by
  obtain ⟨y0, y1, y2, n', hx, t0, t1, t2⟩ := ltrod3 Tryd.underlying43 h
  simp only [lc_int] at t0 t1 t2
  obtain ⟨v0, e0, _, g0⟩ := DataW.trod_int Tryd.underlying3 t0
  obtain ⟨v1, e1, _, g1⟩ := DataW.trod_int Tryd.underlying3 t1
  obtain ⟨v2, e2, _, g2⟩ := DataW.trod_int Tryd.underlying3 t2
  simp at e0 e1 e2
  subst e0 e1 e2
  exact ⟨⟨v0, v1, v2⟩, rfl⟩
theorem laddr_add (x : Addr) (h : x.spot = none) (k : Nat) : x.add k = ⟨x.block, x.off + k, none⟩ := by
  obtain ⟨b, o, s⟩ := x
  simp only at h
  subst h
  cases k <;> simp [Addr.add]
theorem open_list {H : Type} {enc : TypeId × Value → H} {W : World} {held : Bool} {fuel : Nat} {a : Option Addr} {len cap : Nat} {x : DataW H × List MemPlace} (hcb : cap ≤ 5864062014634 ∨ a = none)
    (hf : DataW.trod enc Tryd.prog W 0 (fun _ => true) held fuel 24 [.slice a len cap] = some x) :
    ∃ L : List TS, RdT W a len L:= by
  rcases open_slice Tryd.underlying24 hf with ⟨hcs, hx⟩ | ⟨y, l, c, m, n, D, Pl, hcs, _, hl, hmx, hm, hx, hel⟩
  · simp at hcs
    obtain ⟨rfl, rfl, rfl⟩ := hcs
    exact ⟨[], rdt_zero _ _⟩
  · simp at hcs
    obtain ⟨rfl, rfl, rfl⟩ := hcs
    have hcap : cap ≤ 5864062014634 := by
      rcases hcb with h | h
      · exact h
      · cases h
    simp only [if_true] at hm
    have hm' := hm.symm
    subst hm'
    rw [lc_ts] at hel
    by_cases hz : len = 0
    · subst hz
      exact ⟨[], rdt_zero _ _⟩
    · have hex : ∀ i, ∃ s : TS, i < len → (y.spot = none ∧ y.block < W.heap.size) ∧ ∀ (c : Nat) (u : Value), (tv s)[c]? = some u → W.cell? ⟨y.block, y.off + (i * 3 + c), none⟩ = some u := by
        intro i
        by_cases hi : i < len
        · obtain ⟨cs, h1, h2⟩ := hel i (by omega)
          obtain ⟨_, hl8, hcell⟩ := World.cells?_some h1
          obtain ⟨c0, c1, c2, rfl⟩ := l3 hl8
          obtain ⟨s, e⟩ := open_ts h2
          have hs : y.spot = none ∧ y.block < W.heap.size := by
            obtain ⟨cs0, hc0, _⟩ := hel 0 (by omega)
            obtain ⟨_, hl0, hcell0⟩ := World.cells?_some hc0
            obtain ⟨e0, e1, e2, rfl⟩ := l3 hl0
            have k0 : W.cell? y = some e0 := by simpa [Addr.add] using hcell0 0 (by omega)
            exact ⟨World.cell?_spot k0, block_lt_of_cell k0⟩
          refine ⟨s, fun _ => ⟨hs, fun c u hu => ?_⟩⟩
          have hc8 : c < 3 := (List.getElem?_eq_some_iff.1 hu).1
          have hk := hcell c hc8
          rw [laddr_add y hs.1, laddr_add _ rfl] at hk
          simp only at hk
          rw [show y.off + (i * 3 + c) = y.off + i * 3 + c by omega]
          rw [hk]
          rw [← e] at hu
          exact hu
        · exact ⟨z0, fun h => absurd h hi⟩
      obtain ⟨g, hg⟩ := Classical.axiomOfChoice hex
      obtain ⟨⟨hs, hb⟩, _⟩ := hg 0 (by omega)
      refine ⟨(List.range len).map g, by simp, by omega, fun _ => ⟨y.block, y.off, by obtain ⟨b, o, sp⟩ := y; simp only at hs; subst hs; rfl, hb, fun i j u hi hu hj => ?_⟩⟩
      have hgi : ((List.range len).map g).getD i z0 = g i := by
        rw [List.getD_eq_getElem?_getD, List.getElem?_map, List.getElem?_range hi]; rfl
      unfold tf at hu
      rw [hgi] at hu
      exact (hg i hi).2 j u hu
theorem l4 {α : Type} {cs : Array α} (h : cs.size = 4) : ∃ c0 c1 c2 c3, cs = #[c0, c1, c2, c3] := by
  obtain ⟨l⟩ := cs
  match l, h with
  | [c0, c1, c2, c3], _ => exact ⟨c0, c1, c2, c3, rfl⟩
theorem l2 {α : Type} {cs : Array α} (h : cs.size = 2) : ∃ c0 c1, cs = #[c0, c1] := by
  obtain ⟨l⟩ := cs
  match l, h with
  | [c0, c1], _ => exact ⟨c0, c1, rfl⟩
/-- A list's size, by what the book weighs. -/
theorem list_cap {H : Type} {enc : TypeId × Value → H} {W : World} {held : Bool} {fuel : Nat} {a : Option Addr} {len cap : Nat} {x : DataW H × List MemPlace} (hf : DataW.trod enc Tryd.prog W 0 (fun _ => true) held fuel 24 [.slice a len cap] = some x) (hw : ∀ m ∈ x.1.weights Tryd.prog 24, m ≤ 140737488351232) :
    len ≤ cap ∧ cap ≤ 5864062014634 ∧ (a = none → len = 0 ∧ cap = 0) := by
  rcases open_slice Tryd.underlying24 hf with ⟨hcs, hx⟩ | ⟨y, l, c, m, n, D, Pl, hcs, _, hl, hmx, hm, hx, hel⟩
  · simp at hcs
    obtain ⟨rfl, rfl, rfl⟩ := hcs
    exact ⟨Nat.le_refl _, by omega, fun _ => ⟨rfl, rfl⟩⟩
  · simp at hcs
    obtain ⟨rfl, rfl, rfl⟩ := hcs
    simp only [if_true] at hm
    have hm' := hm.symm
    subst hm'
    have h1 : cap * Tryd.prog.bytesOf 43 ∈ x.1.weights Tryd.prog 24 := by
      rw [hx]
      simp [DataW.weights, Tryd.underlying24]
      left
      congr 1
      omega
    have h2 := hw _ h1
    rw [lb_ts] at h2
    exact ⟨hl, by omega, fun e => by cases e⟩
theorem open_book {H : Type} {enc : TypeId × Value → H} {W : World} {base fuel : Nat} {v : Value} {d : DataW H} {p : List MemPlace} {pol} (hv : Value.okWide Tryd.prog W pol base 26 v) (hf : DataW.trod enc Tryd.prog W 0 (fun _ => true) true fuel 26 v.cells.toList = some (d, p)) (hwt : ∀ m ∈ d.weights Tryd.prog 26, m ≤ 140737488351232) :
    ∃ (b : Bk) (a1 : Option Addr) (n1 c1 : Nat) (a2 : Option Addr) (n2 c2 : Nat), v = .agg #[.int .i64 b.t, .slice a1 n1 c1, .slice a2 n2 c2, .bool b.f] ∧ Inn W b a1 n1 c1 a2 n2 c2 ∧ n1 ≤ 5864062014634 ∧ n2 ≤ 5864062014634 := by
  obtain ⟨cs, rfl, hcs⟩ := okWide_struct Tryd.underlying26 hv
  obtain ⟨d0, d1, d2, d3, rfl⟩ := l4 (hcs.trans lc_book)
  obtain ⟨y0, y1, y2, y3, f, hx, t0, t1, t2, t3⟩ := ltrod4 Tryd.underlying26 hf
  simp only [lc_int, lc_bool, lc_list, Value.cells] at t0 t1 t2 t3
  obtain ⟨s, e0, _, hwf⟩ := DataW.trod_int Tryd.underlying3 t0
  obtain ⟨o, e3, _⟩ := DataW.trod_bool Tryd.underlying4 t3
  simp at e0 e3 t1 t2
  subst e0 e3
  simp only at hx
  have hw1 : ∀ m ∈ y1.1.weights Tryd.prog 24, m ≤ 140737488351232 := fun m hm => hwt m (by
    rw [hx]
    unfold DataW.weights
    rw [Tryd.underlying26]
    exact DataW.weights_mem_each (j := 1) (t := 24) (d := y1.1) rfl rfl _ hm)
  have hw2 : ∀ m ∈ y2.1.weights Tryd.prog 24, m ≤ 140737488351232 := fun m hm => hwt m (by
    rw [hx]
    unfold DataW.weights
    rw [Tryd.underlying26]
    exact DataW.weights_mem_each (j := 2) (t := 24) (d := y2.1) rfl rfl _ hm)
  have s1 : ∃ a len cap, d1 = .slice a len cap := by
    rcases open_slice Tryd.underlying24 t1 with ⟨hcs, _⟩ | ⟨y, l, c, m, n, D, Pl, hcs, _⟩
    · simp at hcs; exact ⟨_, _, _, hcs⟩
    · simp at hcs; exact ⟨_, _, _, hcs⟩
  have s2 : ∃ a len cap, d2 = .slice a len cap := by
    rcases open_slice Tryd.underlying24 t2 with ⟨hcs, _⟩ | ⟨y, l, c, m, n, D, Pl, hcs, _⟩
    · simp at hcs; exact ⟨_, _, _, hcs⟩
    · simp at hcs; exact ⟨_, _, _, hcs⟩
  obtain ⟨a1, n1, k1, rfl⟩ := s1
  obtain ⟨a2, n2, k2, rfl⟩ := s2
  obtain ⟨q1, q2, q3⟩ := list_cap t1 hw1
  obtain ⟨r1, r2, r3⟩ := list_cap t2 hw2
  obtain ⟨L1, hL1⟩ := open_list (.inl q2) t1
  obtain ⟨L2, hL2⟩ := open_list (.inl r2) t2
  exact ⟨⟨s, L1, L2, o⟩, a1, n1, k1, a2, n2, k2, rfl, ⟨hL1, hL2, q3, r3⟩, by omega, by omega⟩
theorem open_task {H : Type} {enc : TypeId × Value → H} {W : World} {base fuel : Nat} {v : Value} {d : DataW H} {p : List MemPlace} {pol} (hv : Value.okWide Tryd.prog W pol base 37 v) (hf : DataW.trod enc Tryd.prog W 0 (fun _ => true) true fuel 37 v.cells.toList = some (d, p)) :
    ∃ K i : Int, v = .agg #[.int .i64 K, .int .i64 i] := by
  obtain ⟨cs, rfl, hcs⟩ := okWide_struct Tryd.underlying37 hv
  obtain ⟨d0, d1, rfl⟩ := l2 (hcs.trans lc_id)
  obtain ⟨y0, y1, f, hx, t0, t1⟩ := ltrod2 Tryd.underlying37 hf
  simp only [lc_int, Value.cells] at t0 t1
  obtain ⟨v0, e0, _⟩ := DataW.trod_int Tryd.underlying3 t0
  obtain ⟨v1, e1, _⟩ := DataW.trod_int Tryd.underlying3 t1
  simp at e0 e1
  subst e0 e1
  exact ⟨_, _, rfl⟩
end Go.Proofs.YtgpfabblmoffiaaDoor.Lg
