/-
  The document's run: its memory.
-/
import Derived.Test.YtcnfkgmefikcjaaMeRunA
import Derived.Test.YtcnfkgmefikcjaaMeThs
import Derived.Test.YtcnfkgmefikcjaaMeFedU
import Derived.Deep.OwnRows
namespace Go.Proofs.Ytcnfkgmefikcjaa.Me
open Go.ChangeShapes Go.WideShapes Go.ChangeAt Go.RowKit
open Go.Proofs.Ytcnfkgmefikcjaa.Base
set_option linter.unusedVariables false
/-- A block of ints. -/
def IA (w : World) (g n : Nat) (F : Nat → Nat) : Prop := ∃ cur : Array Value, w.heap[g]? = some (.cells cur 3) ∧ cur.size = n ∧ ∀ x, x < n → cur[x]? = some (.int .i64 (F x : Int))
theorem IA.cell {w : World} {g n : Nat} {F : Nat → Nat} (h : IA w g n F) (x : Nat) (hx : x < n) : w.cell? ⟨g, x, none⟩ = some (.int .i64 (F x : Int)) ∧ w.frozen? ⟨g, x, none⟩ = false := by
  obtain ⟨cur, h1, h2, h3⟩ := h
  exact ⟨by rw [cell_of_row _ _ _ _ _ _ h1]; exact h3 x hx, frozen_of_row _ _ _ _ _ h1⟩
theorem IA.same {w w' : World} {g n : Nat} {F : Nat → Nat} (h : IA w g n F) (e : w'.heap[g]? = w.heap[g]?) : IA w' g n F := by
  obtain ⟨cur, h1, h2⟩ := h
  exact ⟨cur, e.trans h1, h2⟩
theorem IA.lt {w : World} {g n : Nat} {F : Nat → Nat} (h : IA w g n F) : g < w.heap.size := by
  obtain ⟨cur, h1, _⟩ := h
  exact lt_row h1
theorem IA.congr {w : World} {g n : Nat} {F G : Nat → Nat} (h : IA w g n F) (e : ∀ x, x < n → G x = F x) : IA w g n G := by
  obtain ⟨cur, h1, h2, h3⟩ := h
  exact ⟨cur, h1, h2, fun x hx => by rw [e x hx]; exact h3 x hx⟩
theorem IA.set {w : World} {g n : Nat} {F : Nat → Nat} (h : IA w g n F) (x : Nat) (y : Nat) (hx : x < n) : IA (w.setCell ⟨g, x, none⟩ (.int .i64 (y : Int))) g n (fun z => if z = x then y else F z) := by
  obtain ⟨cur, h1, h2, h3⟩ := h
  refine ⟨cur.setIfInBounds x (.int .i64 (y : Int)), heap_setCell_same _ _ _ _ _ _ h1, by simp [h2], fun z hz => ?_⟩
  show _ = some (Value.int .i64 (((if z = x then y else F z : Nat)) : Int))
  rw [Array.getElem?_setIfInBounds]
  by_cases e : x = z
  · rw [if_pos e, if_pos (by omega), if_pos e.symm]
  · rw [if_neg e, if_neg (fun q => e q.symm)]; exact h3 z hz
theorem infoInt : (Try.prog.info? 3).map (fun i => (i.zero, i.size, i.bytes)) = some (some (.int .i64 0), 1, 8) := by kernel_rfl
theorem make_ints (n : Nat) (hn : n ≤ 64) (W : World) : (Instr.makeSlice 23 (.int .i64 (n : Int)) (.int .i64 (n : Int))).run Try.prog W = .ok (.slice (some ⟨W.heap.size, 0, none⟩) n n) (W.alloc (.cells (madeCells #[.int .i64 0] n) 3)) :=
  run_make_row' 23 3 (.int .i64 0) 8 Try.underlying23 infoInt rfl .i64 .i64 n (by omega) (by omega) W
theorem ia_new (W : World) (n : Nat) : IA (W.alloc (.cells (madeCells #[.int .i64 0] n) 3)) W.heap.size n (fun _ => 0) := by
  refine ⟨_, heap_alloc_new _ _, size_madeCells _ _, fun x hx => ?_⟩
  unfold madeCells
  rw [Array.getElem?_map, Array.getElem?_range, if_pos hx]
  show some ((#[Value.int .i64 0] : Array Value)[x % 1]!) = _
  rw [Nat.mod_one]
  rfl
theorem ty_ne {w : World} {g h : Nat} {c c' : Array Value} {t t' : TypeId} (h1 : w.heap[g]? = some (.cells c t)) (h2 : w.heap[h]? = some (.cells c' t')) (hne : t ≠ t') : g ≠ h := fun e => by
  subst e
  rw [h1] at h2
  have e2 := Option.some.inj h2
  simp only [Obj.cells.injEq] at e2
  exact hne e2.2.1
/-- The state: the result, what is told, the places, the askings. -/
structure RR (w V : World) (gr gt ga gk n : Nat) (al : Option Addr) (cl : Nat) (P : List Th) (pos ask : Nat → Nat) : Prop where
  res : V.heap[gr]? = some (.cells #[.slice none 0 0, .int .i64 0] 32)
  tld : V.heap[gt]? = some (.cells #[.slice al P.length cl, .int .i64 0] 32)
  own : OwnT V w.heap.size (.slice al P.length cl) P
  at_ : IA V ga n pos
  ask : IA V gk n ask
  bel : Below w.heap.size w V
  lo : w.heap.size ≤ gr ∧ w.heap.size ≤ gt ∧ w.heap.size ≤ ga ∧ w.heap.size ≤ gk
  ne : gr ≠ gt ∧ ga ≠ gk
theorem RR.below {w V V' : World} {gr gt ga gk n : Nat} {al : Option Addr} {cl : Nat} {P : List Th} {pos ask : Nat → Nat} (h : RR w V gr gt ga gk n al cl P pos ask) (hb : Below V.heap.size V V') : RR w V' gr gt ga gk n al cl P pos ask :=
  ⟨(hb.block _ (lt_row h.res)).trans h.res, (hb.block _ (lt_row h.tld)).trans h.tld, h.own.below hb, h.at_.same (hb.block _ h.at_.lt), h.ask.same (hb.block _ h.ask.lt), below_trans h.bel hb, h.lo, h.ne⟩
theorem own_ne {V : World} {base : Nat} {v : Value} {P : List Th} (h : OwnT V base v P) {g : Nat} {c : Array Value} {t : TypeId} (hg : V.heap[g]? = some (.cells c t)) (ht : 36 ≠ t) : v.ownBlock ≠ some g := fun e => by
  rcases h.2 with ⟨h1, _⟩ | ⟨g', cap, cur, h1, _, h3, _⟩
  · rw [h1] at e; cases e
  · rw [h1] at e
    obtain rfl : g' = g := Option.some.inj e
    exact ty_ne h3 hg ht rfl
theorem set_other {V : World} {g k i : Nat} {v : Value} (hi : i < V.heap.size) (hne : i ≠ g) : (V.setCell ⟨g, k, none⟩ v).heap[i]? = V.heap[i]? := (grown_cell (World.grownBy.refl V (some g)) k v).block i hi (fun e => hne (Option.some.inj e))
theorem RR.setAsk {w V : World} {gr gt ga gk n : Nat} {al : Option Addr} {cl : Nat} {P : List Th} {pos ask : Nat → Nat} (h : RR w V gr gt ga gk n al cl P pos ask) (x y : Nat) (hx : x < n) : RR w (V.setCell ⟨gk, x, none⟩ (.int .i64 (y : Int))) gr gt ga gk n al cl P pos (fun z => if z = x then y else ask z) := by
  obtain ⟨cur, hk, _⟩ := h.ask
  have e : ∀ i, i < V.heap.size → i ≠ gk → (V.setCell ⟨gk, x, none⟩ (.int .i64 (y : Int))).heap[i]? = V.heap[i]? := fun i hi hne => set_other hi hne
  exact ⟨(e _ (lt_row h.res) (ty_ne h.res hk (by decide))).trans h.res, (e _ (lt_row h.tld) (ty_ne h.tld hk (by decide))).trans h.tld, h.own.same (fun i hi => e i (row_blk h.own i hi).2 (fun q => own_ne h.own hk (by decide) (by rw [hi, q]))), h.at_.same (e _ h.at_.lt h.ne.2), h.ask.set x y hx, below_by h.bel (grown_cell (World.grownBy.refl _ _) _ _) (fun j q => by have e2 : gk = j := Option.some.inj q; have := h.lo; omega), h.lo, h.ne⟩
theorem RR.setAt {w V : World} {gr gt ga gk n : Nat} {al : Option Addr} {cl : Nat} {P : List Th} {pos ask : Nat → Nat} (h : RR w V gr gt ga gk n al cl P pos ask) (x y : Nat) (hx : x < n) : RR w (V.setCell ⟨ga, x, none⟩ (.int .i64 (y : Int))) gr gt ga gk n al cl P (fun z => if z = x then y else pos z) ask := by
  obtain ⟨cur, hk, _⟩ := h.at_
  have e : ∀ i, i < V.heap.size → i ≠ ga → (V.setCell ⟨ga, x, none⟩ (.int .i64 (y : Int))).heap[i]? = V.heap[i]? := fun i hi hne => set_other hi hne
  exact ⟨(e _ (lt_row h.res) (ty_ne h.res hk (by decide))).trans h.res, (e _ (lt_row h.tld) (ty_ne h.tld hk (by decide))).trans h.tld, h.own.same (fun i hi => e i (row_blk h.own i hi).2 (fun q => own_ne h.own hk (by decide) (by rw [hi, q]))), h.at_.set x y hx, h.ask.same (e _ h.ask.lt (fun q => h.ne.2 q.symm)), below_by h.bel (grown_cell (World.grownBy.refl _ _) _ _) (fun j q => by have e2 : ga = j := Option.some.inj q; have := h.lo; omega), h.lo, h.ne⟩
theorem RR.congr {w V : World} {gr gt ga gk n : Nat} {al : Option Addr} {cl : Nat} {P : List Th} {pos ask pos' ask' : Nat → Nat} (h : RR w V gr gt ga gk n al cl P pos ask) (e1 : ∀ x, x < n → pos' x = pos x) (e2 : ∀ x, x < n → ask' x = ask x) : RR w V gr gt ga gk n al cl P pos' ask' :=
  ⟨h.res, h.tld, h.own, h.at_.congr e1, h.ask.congr e2, h.bel, h.lo, h.ne⟩
/-- One more is told: a block is laid, the list grows, its header is written. -/
theorem RR.push {w V V1 V2 : World} {gr gt ga gk n : Nat} {al : Option Addr} {cl : Nat} {P : List Th} {pos ask : Nat → Nat} {t : Th} {g c : Nat} (h : RR w V gr gt ga gk n al cl P pos ask) (hb : Below V.heap.size V V1) (ho : OwnT V2 w.heap.size (.slice (some ⟨g, 0, none⟩) (P.length + 1) c) (P ++ [t])) (hg : V1.grownBy V2 (Value.slice al P.length cl).ownBlock) : RR w (V2.setCell ⟨gt, 0, none⟩ (.slice (some ⟨g, 0, none⟩) (P.length + 1) c)) gr gt ga gk n (some ⟨g, 0, none⟩) c (P ++ [t]) pos ask := by
  have h1 := h.below hb
  obtain ⟨cat, hat, _⟩ := h1.at_
  obtain ⟨cas, has, _⟩ := h1.ask
  have e1 : ∀ i, i < V1.heap.size → (Value.slice al P.length cl).ownBlock ≠ some i → V2.heap[i]? = V1.heap[i]? := fun i hi hne => hg.block i hi (fun q => hne q.symm)
  have r2 := (e1 _ (lt_row h1.res) (own_ne h1.own h1.res (by decide))).trans h1.res
  have t2 := (e1 _ (lt_row h1.tld) (own_ne h1.own h1.tld (by decide))).trans h1.tld
  have a2 := h1.at_.same (e1 _ h1.at_.lt (own_ne h1.own hat (by decide)))
  have k2 := h1.ask.same (e1 _ h1.ask.lt (own_ne h1.own has (by decide)))
  have b2 := below_by h1.bel hg (fun j e => (row_blk h1.own j e).1)
  have a3 := a2
  have k3 := k2
  obtain ⟨cat2, hat2, _⟩ := a2
  obtain ⟨cas2, has2, _⟩ := k2
  have e : ∀ i, i < V2.heap.size → i ≠ gt → (V2.setCell ⟨gt, 0, none⟩ (.slice (some ⟨g, 0, none⟩) (P.length + 1) c)).heap[i]? = V2.heap[i]? := fun i hi hne => set_other hi hne
  have hl : (P ++ [t]).length = P.length + 1 := by simp
  refine ⟨(e _ (lt_row r2) h.ne.1).trans r2, ?_, ?_, a3.same (e _ a3.lt (fun q => ty_ne hat2 t2 (by decide) q)), k3.same (e _ k3.lt (fun q => ty_ne has2 t2 (by decide) q)), below_by b2 (grown_cell (World.grownBy.refl _ _) _ _) (fun j q => by have e2 : gt = j := Option.some.inj q; have := h.lo; omega), h.lo, h.ne⟩
  · rw [hl, heap_setCell_same _ _ _ _ _ _ t2]; rfl
  · rw [hl]
    exact ho.same (fun i hi => e i (row_blk ho i hi).2 (fun q => own_ne ho t2 (by decide) (by rw [hi, q])))
end Go.Proofs.Ytcnfkgmefikcjaa.Me
