/-
  Questions as they are read; lists of bools of the call's own.
-/
import Derived.Test.YtbmbhcjocgbbpaaFaOpen
import Derived.Test.YtbmbhcjocgbbpaaFaPlanB
import Derived.Deep.OwnRows
namespace Go.Proofs.Ytbmbhcjocgbbpaa.Fa
open Go.ChangeShapes Go.WideShapes Go.ChangeAt Go.RowKit Go.ChangeMaps Go.Deep
open Go.Proofs.Ytbmbhcjocgbbpaa.Base
set_option linter.unusedVariables false
/-- A question: Op, A, B, C, D. -/
structure Ak where
  o : Int
  a : Int
  b : Int
  c : Int
  d : Int
def ak0 : Ak := ⟨0, 0, 0, 0, 0⟩
def WfK (_ : Ak) : Prop := True
def At5 (w : World) (b o : Nat) (k : Ak) : Prop := w.cell? ⟨b, o, none⟩ = some (.int .i64 k.o) ∧ w.cell? ⟨b, o + 1, none⟩ = some (.int .i64 k.a) ∧ w.cell? ⟨b, o + 2, none⟩ = some (.int .i64 k.b) ∧ w.cell? ⟨b, o + 3, none⟩ = some (.int .i64 k.c) ∧ w.cell? ⟨b, o + 4, none⟩ = some (.int .i64 k.d)
theorem At5.same {w w' : World} {b o : Nat} {k : Ak} (h : At5 w b o k) (e : ∀ x, w'.cell? ⟨b, x, none⟩ = w.cell? ⟨b, x, none⟩) : At5 w' b o k := by
  obtain ⟨h0, h1, h2, h3, h4⟩ := h
  exact ⟨(e _).trans h0, (e _).trans h1, (e _).trans h2, (e _).trans h3, (e _).trans h4⟩
/-- The slice reads as questions. -/
def RdK (w : World) (a : Option Addr) (len : Nat) (ks : List Ak) : Prop :=
  ks.length = len ∧ (0 < len → ∃ b off, a = some ⟨b, off, none⟩ ∧ b < w.heap.size ∧ ∀ j, j < len → At5 w b (off + j * 5) (ks.getD j ak0))
theorem rdk_zero (w : World) (a : Option Addr) : RdK w a 0 [] := ⟨rfl, fun h => absurd h (Nat.lt_irrefl 0)⟩
theorem ocells_ask : Try.prog.cellsOf 46 = 5 := by kernel_rfl
theorem obytes_ask : Try.prog.bytesOf 46 = 40 := by kernel_rfl
theorem trod_struct5 {H : Type} {enc : TypeId × Value → H} {P : Program} {w : World} {base : Nat} {spare : Nat → Bool} {held : Bool} {t : TypeId} {f0 f1 f2 f3 f4 : Field} {fuel : Nat} {cs : List Value} {x : DataW H × List MemPlace} (ht : P.underlying t = some (.struct #[f0, f1, f2, f3, f4])) (h : DataW.trod enc P w base spare held fuel t cs = some x) :
    ∃ y0 y1 y2 y3 y4 n, DataW.trod enc P w base spare held n f0.type ((cs.drop f0.offset).take (P.cellsOf f0.type)) = some y0 ∧ DataW.trod enc P w base spare held n f1.type ((cs.drop f1.offset).take (P.cellsOf f1.type)) = some y1 ∧ DataW.trod enc P w base spare held n f2.type ((cs.drop f2.offset).take (P.cellsOf f2.type)) = some y2 ∧ DataW.trod enc P w base spare held n f3.type ((cs.drop f3.offset).take (P.cellsOf f3.type)) = some y3 ∧ DataW.trod enc P w base spare held n f4.type ((cs.drop f4.offset).take (P.cellsOf f4.type)) = some y4 := by
  obtain ⟨xs, n, _, rfl, hl, hlen, hf⟩ := DataW.trod_struct ht h
  match xs, hlen with
  | [y0, y1, y2, y3, y4], _ => exact ⟨y0, y1, y2, y3, y4, n, by simpa using hf 0 f0 rfl, by simpa using hf 1 f1 rfl, by simpa using hf 2 f2 rfl, by simpa using hf 3 f3 rfl, by simpa using hf 4 f4 rfl⟩
theorem five_l {α : Type} {cs : List α} (h : cs.length = 5) : ∃ c0 c1 c2 c3 c4, cs = [c0, c1, c2, c3, c4] := by
  match cs, h with
  | [c0, c1, c2, c3, c4], _ => exact ⟨c0, c1, c2, c3, c4, rfl⟩
theorem open_ask {H : Type} {enc : TypeId × Value → H} {W : World} {base : Nat} {spare : Nat → Bool} {held : Bool} {c0 c1 c2 c3 c4 : Value} {x : DataW H × List MemPlace} {n : Nat} (h : DataW.trod enc Try.prog W base spare held n 46 [c0, c1, c2, c3, c4] = some x) :
    ∃ k : Ak, [c0, c1, c2, c3, c4] = [.int .i64 k.o, .int .i64 k.a, .int .i64 k.b, .int .i64 k.c, .int .i64 k.d] := by
  obtain ⟨y0, y1, y2, y3, y4, n', t0, t1, t2, t3, t4⟩ := trod_struct5 Try.underlying46 h
  simp only [ocells_int] at t0 t1 t2 t3 t4
  obtain ⟨v0, e0, _, _⟩ := DataW.trod_int Try.underlying3 t0
  obtain ⟨v1, e1, _, _⟩ := DataW.trod_int Try.underlying3 t1
  obtain ⟨v2, e2, _, _⟩ := DataW.trod_int Try.underlying3 t2
  obtain ⟨v3, e3, _, _⟩ := DataW.trod_int Try.underlying3 t3
  obtain ⟨v4, e4, _, _⟩ := DataW.trod_int Try.underlying3 t4
  simp at e0 e1 e2 e3 e4
  subst e0 e1 e2 e3 e4
  exact ⟨⟨v0, v1, v2, v3, v4⟩, rfl⟩
theorem open_asks {H : Type} {enc : TypeId × Value → H} {W : World} {held : Bool} {fuel : Nat} {a : Option Addr} {len cap : Nat} {x : DataW H × List MemPlace}
    (hf : DataW.trod enc Try.prog W 0 (fun _ => true) held fuel 43 [.slice a len cap] = some x) :
    ∃ ks : List Ak, RdK W a len ks ∧ (∀ k ∈ ks, WfK k) ∧ len ≤ cap ∧ (a = none → len = 0 ∧ cap = 0) ∧ (cap = 0 ∨ ∃ es sp, x.1 = .slice es sp ∧ es.length + sp.length = cap) := by
  rcases open_slice Try.underlying43 hf with ⟨hcs, hx⟩ | ⟨y, l, c, m, n, D, Pl, hcs, _, hl, hmx, hm, hx, hel⟩
  · simp at hcs
    obtain ⟨rfl, rfl, rfl⟩ := hcs
    exact ⟨[], rdk_zero _ _, (fun t ht => by cases ht), Nat.le_refl _, (fun _ => ⟨rfl, rfl⟩), .inl rfl⟩
  · simp at hcs
    obtain ⟨rfl, rfl, rfl⟩ := hcs
    simp only [if_true] at hm
    have hm' := hm.symm
    subst hm'
    rw [ocells_ask] at hel
    have hx1 : x.1 = .slice ((List.range len).map D) ((List.range (cap - len)).map fun j => D (len + j)) := by rw [hx]
    have hcap : cap = 0 ∨ ∃ es sp, x.1 = .slice es sp ∧ es.length + sp.length = cap := .inr ⟨_, _, hx1, by simp; omega⟩
    by_cases hz : len = 0
    · subst hz
      exact ⟨[], rdk_zero _ _, (fun t ht => by cases ht), hl, (fun e => by cases e), hcap⟩
    · have hex : ∀ i, ∃ k : Ak, i < len → (y.spot = none ∧ y.block < W.heap.size) ∧ At5 W y.block (y.off + i * 5) k := by
        intro i
        by_cases hi : i < len
        · obtain ⟨cs, h1, h2⟩ := hel i (by omega)
          obtain ⟨_, hl5, hcell⟩ := World.cells?_some h1
          obtain ⟨c0, c1, c2, c3, c4, rfl⟩ := five_l hl5
          obtain ⟨k, e⟩ := open_ask h2
          simp only [List.cons.injEq, and_true] at e
          obtain ⟨rfl, rfl, rfl, rfl, rfl⟩ := e
          have hs : y.spot = none ∧ y.block < W.heap.size := by
            obtain ⟨cs0, hc0, _⟩ := hel 0 (by omega)
            obtain ⟨_, hl0, hcell0⟩ := World.cells?_some hc0
            obtain ⟨e0, e1, e2, e3, e4, rfl⟩ := five_l hl0
            have k0 : W.cell? y = some e0 := by simpa [Addr.add] using hcell0 0 (by omega)
            exact ⟨World.cell?_spot k0, block_lt_of_cell k0⟩
          have k0 := hcell 0 (by omega)
          have k1 := hcell 1 (by omega)
          have k2 := hcell 2 (by omega)
          have k3 := hcell 3 (by omega)
          have k4 := hcell 4 (by omega)
          rw [oaddr_add y hs.1, oaddr_add _ rfl] at k0 k1 k2 k3 k4
          simp at k0 k1 k2 k3 k4
          exact ⟨k, fun _ => ⟨hs, k0, k1, k2, k3, k4⟩⟩
        · exact ⟨ak0, fun h => absurd h hi⟩
      obtain ⟨g, hg⟩ := Classical.axiomOfChoice hex
      obtain ⟨⟨hs, hb⟩, _⟩ := hg 0 (by omega)
      refine ⟨(List.range len).map g, ⟨by simp, fun _ => ⟨y.block, y.off, by obtain ⟨b, o, sp⟩ := y; simp only at hs; subst hs; rfl, hb, fun i hi => ?_⟩⟩, (fun t ht => trivial), hl, (fun e => by cases e), hcap⟩
      have hgi : ((List.range len).map g).getD i ak0 = g i := by
        rw [List.getD_eq_getElem?_getD, List.getElem?_map, List.getElem?_range hi]; rfl
      rw [hgi]
      exact (hg i hi).2
/-- A question lies in the block p. -/
def KB (w : World) (p : Nat) (k : Ak) : Prop := w.heap[p]? = some (.cells #[.int .i64 k.o, .int .i64 k.a, .int .i64 k.b, .int .i64 k.c, .int .i64 k.d] 46)
theorem KB.lt {w : World} {p : Nat} {k : Ak} (h : KB w p k) : p < w.heap.size := (Array.getElem?_eq_some_iff.1 h).1
theorem KB.below {w w' : World} {p : Nat} {k : Ak} (h : KB w p k) (hb : Below w.heap.size w w') : KB w' p k := (hb.block p h.lt).trans h
theorem KB.grown {w w' : World} {p : Nat} {k : Ak} {q : Option Nat} (h : KB w p k) (hb : w.grownBy w' q) (hne : q ≠ some p) : KB w' p k := (hb.block p h.lt (fun e => hne e.symm)).trans h
theorem KB.new (w : World) (k : Ak) : KB (w.alloc (.cells #[.int .i64 k.o, .int .i64 k.a, .int .i64 k.b, .int .i64 k.c, .int .i64 k.d] 46)) w.heap.size k := heap_alloc_new _ _
theorem KB.cells {w : World} {p : Nat} {k : Ak} (h : KB w p k) : w.cell? ⟨p, 0, none⟩ = some (.int .i64 k.o) ∧ w.cell? ⟨p, 1, none⟩ = some (.int .i64 k.a) ∧ w.cell? ⟨p, 2, none⟩ = some (.int .i64 k.b) ∧ w.cell? ⟨p, 3, none⟩ = some (.int .i64 k.c) ∧ w.cell? ⟨p, 4, none⟩ = some (.int .i64 k.d) := by
  refine ⟨?_, ?_, ?_, ?_, ?_⟩ <;> (rw [cell_of_row _ _ _ _ _ _ h]; rfl)
/-- A whole block of bools. -/
def BB (w : World) (g : Nat) (T : List Bool) : Prop := w.heap[g]? = some (.cells (T.map Value.bool).toArray 4)
theorem BB.lt {w : World} {g : Nat} {T : List Bool} (h : BB w g T) : g < w.heap.size := (Array.getElem?_eq_some_iff.1 h).1
theorem BB.below {w w' : World} {g : Nat} {T : List Bool} (h : BB w g T) (hb : Below w.heap.size w w') : BB w' g T := (hb.block g h.lt).trans h
theorem BB.grown {w w' : World} {g : Nat} {T : List Bool} {q : Option Nat} (h : BB w g T) (hb : w.grownBy w' q) (hne : q ≠ some g) : BB w' g T := (hb.block g h.lt (fun e => hne e.symm)).trans h
theorem BB.cell {w : World} {g : Nat} {T : List Bool} (h : BB w g T) (k : Nat) (hk : k < T.length) : w.cell? ⟨g, k, none⟩ = some (.bool (T.getD k true)) := by
  rw [cell_of_row _ _ _ _ _ _ h]
  simp [List.getElem?_map, List.getD_eq_getElem?_getD, List.getElem?_eq_getElem hk]
theorem BB.fz {w : World} {g : Nat} {T : List Bool} (h : BB w g T) (k : Nat) : w.frozen? ⟨g, k, none⟩ = false := frozen_of_row _ _ _ _ _ h
theorem BB.set {w : World} {g : Nat} {T : List Bool} (h : BB w g T) (k : Nat) (b : Bool) : BB (w.setCell ⟨g, k, none⟩ (.bool b)) g (T.set k b) := by
  unfold BB
  rw [heap_setCell_same _ _ k _ _ _ h]
  simp [List.map_set]
theorem BB.ne {w : World} {g p : Nat} {T : List Bool} {lv : Value} (h : BB w g T) (hp : PlB w p lv) : g ≠ p := by
  rintro rfl
  rw [BB, hp] at h
  simp at h
theorem BB.apart {w : World} {g base : Nat} {T : List Bool} {v : Value} {fs : List Flt} (h : BB w g T) (ho : OwnL w base v fs) : ∀ i, v.ownBlock = some i → i ≠ g := by
  intro i e hi
  subst hi
  rcases ho.2 with ⟨e2, _⟩ | ⟨g', cap, cur, e2, _, h3, _⟩
  · subst e2; cases e
  · subst e2
    have : g' = i := Option.some.inj e
    subst this
    rw [BB, h3] at h
    simp at h
theorem BB.neK {w : World} {g p : Nat} {T : List Bool} {k : Ak} (h : BB w g T) (hp : KB w p k) : g ≠ p := by
  rintro rfl
  rw [BB, hp] at h
  simp at h
theorem info_bool : (Try.prog.info? 4).map (fun i => (i.zero, i.size, i.bytes)) = some (some (.bool false), 1, 1) := by kernel_rfl
theorem make_bools (n : Nat) (h : n ≤ 1048576) : ∀ W, (Instr.makeSlice 44 (.int .i64 (n : Int)) (.int .i64 (n : Int))).run Try.prog W = .ok (.slice (some ⟨W.heap.size, 0, none⟩) n n) (W.alloc (.cells ((List.replicate n false).map Value.bool).toArray 4)) := by
  intro W
  have e : madeCells #[Value.bool false] n = ((List.replicate n false).map Value.bool).toArray := by
    apply Array.ext
    · rw [size_madeCells]; simp
    · intro k h1 h2
      simp [madeCells, Nat.mod_one]
  rw [← e]
  exact run_make_row' 44 4 (.bool false) 1 Try.underlying44 info_bool rfl .i64 .i64 n (by omega) (by omega) W
end Go.Proofs.Ytbmbhcjocgbbpaa.Fa
