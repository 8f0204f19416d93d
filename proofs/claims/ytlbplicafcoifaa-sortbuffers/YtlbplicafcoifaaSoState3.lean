/-
  SortBuffers: the state as the loop carries it, and what each act makes of it.
-/
import Derived.Test.YtlbplicafcoifaaSoState2
namespace Go.Proofs.Ytlbplicafcoifaa.SortBuffers
open Go.ChangeShapes Go.WideShapes Go.ChangeAt Go.RowKit
open Go.Proofs.Ytlbplicafcoifaa.Base Go.Proofs.Ytlbplicafcoifaa.So
set_option linter.unusedVariables false
/-- An act, as it is read. -/
structure Ac where
  op : Int
  who : Int
  bud : Int
  r : Rec
def ac0 : Ac := ⟨0, 0, 0, rec0⟩
def RdA (w : World) (a : Option Addr) (n : Nat) (ac : List Ac) : Prop :=
  ac.length = n ∧ (0 < n → ∃ b off, a = some ⟨b, off, none⟩ ∧ b < w.heap.size ∧ ∀ j, j < n → (w.cell? ⟨b, off + j * 6, none⟩ = some (.int .i64 (ac.getD j ac0).op) ∧ w.cell? ⟨b, off + j * 6 + 1, none⟩ = some (.int .i64 (ac.getD j ac0).who) ∧ w.cell? ⟨b, off + j * 6 + 2, none⟩ = some (.int .i64 (ac.getD j ac0).bud)) ∧ w.cell? ⟨b, off + j * 6 + 3, none⟩ = some (.int .i64 (ac.getD j ac0).r.p) ∧ w.cell? ⟨b, off + j * 6 + 4, none⟩ = some (.string (ac.getD j ac0).r.k) ∧ w.cell? ⟨b, off + j * 6 + 5, none⟩ = some (.string (ac.getD j ac0).r.v))
theorem ptr_l {w : World} {lo : Nat} {h : Hb} {nil : Bool} {rs : List Rec} {bud : Int} (hh : LH w lo h nil rs bud) : ∃ p : Option Addr, h.ptr = .pointer p ∧ p.isNone = nil := by
  rcases hh with ⟨h0, h1, _⟩ | ⟨h0, b, h1, _⟩
  · exact ⟨none, ptr_nil h1, by rw [h0]; rfl⟩
  · exact ⟨some ⟨b, 0, none⟩, ptr_some h1, by rw [h0]; rfl⟩
theorem ptr_r {w : World} {lo : Nat} {h : Hb} {nil : Bool} {rs : List Rec} {bud : Int} (hh : RH w lo h nil rs bud) : ∃ p : Option Addr, h.ptr = .pointer p ∧ p.isNone = nil := by
  rcases hh with ⟨h0, h1, _⟩ | ⟨h0, b, h1, _⟩
  · exact ⟨none, ptr_nil h1, by rw [h0]; rfl⟩
  · exact ⟨some ⟨b, 0, none⟩, ptr_some h1, by rw [h0]; rfl⟩
def bf0 : Bf := ⟨⟨none, .slice none 0 0⟩, true, [], 0⟩
def two (f : Bf) : Nat → Bf := fun x => if x = 0 then f else bf0
theorem good_init {lo tA tB : Nat} {w : World} {h1 h2 : Hb} {nil : Bool} {bud : Int} (hl : LH w lo h1 nil [] bud) (hr : RH w lo h2 nil [] bud) (hlo : lo ≤ w.heap.size) (hd : ∀ i, h1.foot i → ¬ h2.foot i) :
    So.Good lo tA tB ⟨w.heap.size, w.heap.size + 1, two ⟨h1, nil, [], bud⟩, two ⟨h2, nil, [], bud⟩, .slice none 0 0, []⟩ ((w.alloc (.cells #[h1.ptr, .pointer none] tA)).alloc (.cells #[h2.ptr, .pointer none] tB)) := by
  have hz : (w.alloc (.cells #[h1.ptr, .pointer none] tA)).heap.size = w.heap.size + 1 := by simp
  have hb1 : Below w.heap.size w (w.alloc (.cells #[h1.ptr, .pointer none] tA)) := (Below.refl _ _).alloc (Nat.le_refl _) _
  have hb : Below w.heap.size w ((w.alloc (.cells #[h1.ptr, .pointer none] tA)).alloc (.cells #[h2.ptr, .pointer none] tB)) := hb1.alloc (by rw [hz]; omega) _
  have z : ∀ i, ¬ (⟨none, .slice none 0 0⟩ : Hb).foot i := fun i hi => by rcases hi with e | e <;> cases e
  have e1 : ∀ i, h1.foot i → i < w.heap.size := fun i hi => (hl.lt i hi).2
  have e2 : ∀ i, h2.foot i → i < w.heap.size := fun i hi => (hr.lt i hi).2
  have nn : ∀ i, ¬ (Value.slice none 0 0).ownBlock = some i := fun i e => by cases e
  refine ⟨fun y => ?_, fun x y hxy i k1 k2 => ?_⟩
  · match y with
    | 0 => exact ⟨hlo, (((Below.refl (w.alloc (.cells #[h1.ptr, .pointer none] tA)).heap.size (w.alloc (.cells #[h1.ptr, .pointer none] tA))).alloc (Nat.le_refl _) _).block w.heap.size (by rw [hz]; omega)).trans (heap_alloc_new _ _)⟩
    | 1 => exact ⟨by show lo ≤ w.heap.size + 1; omega, by
        have := heap_alloc_new (w.alloc (.cells #[h1.ptr, .pointer none] tA)) (.cells #[h2.ptr, .pointer none] tB)
        rw [hz] at this
        exact this⟩
    | 2 => exact LH.same hl (fun i hi => hb.block i (e1 i hi))
    | 3 => exact .inl ⟨rfl, rfl, rfl, rfl⟩
    | 4 => exact RH.same hr (fun i hi => hb.block i (e2 i hi))
    | 5 => exact .inl ⟨rfl, rfl, rfl, rfl⟩
    | 6 => exact ⟨rfl, .inl ⟨rfl, rfl⟩⟩
    | j + 7 => exact own_nil _ _
  · match x, y, hxy, k1, k2 with
    | 0, 0, h, _, _ | 1, 1, h, _, _ | 2, 2, h, _, _ | 4, 4, h, _, _ => exact h rfl
    | 3, _, _, k, _ | 5, _, _, k, _ => exact z i k
    | _, 3, _, _, k | _, 5, _, _, k => exact z i k
    | 6, _, _, k, _ | j + 7, _, _, k, _ => exact nn i k
    | _, 6, _, _, k | _, j + 7, _, _, k => exact nn i k
    | 0, 1, _, k, k' => have a1 : w.heap.size = i := k; have a2 : w.heap.size + 1 = i := k'; omega
    | 1, 0, _, k, k' => have a1 : w.heap.size + 1 = i := k; have a2 : w.heap.size = i := k'; omega
    | 0, 2, _, k, k' => have a1 : w.heap.size = i := k; have a2 := e1 i k'; omega
    | 2, 0, _, k, k' => have a1 : w.heap.size = i := k'; have a2 := e1 i k; omega
    | 0, 4, _, k, k' => have a1 : w.heap.size = i := k; have a2 := e2 i k'; omega
    | 4, 0, _, k, k' => have a1 : w.heap.size = i := k'; have a2 := e2 i k; omega
    | 1, 2, _, k, k' => have a1 : w.heap.size + 1 = i := k; have a2 := e1 i k'; omega
    | 2, 1, _, k, k' => have a1 : w.heap.size + 1 = i := k'; have a2 := e1 i k; omega
    | 1, 4, _, k, k' => have a1 : w.heap.size + 1 = i := k; have a2 := e2 i k'; omega
    | 4, 1, _, k, k' => have a1 : w.heap.size + 1 = i := k'; have a2 := e2 i k; omega
    | 2, 4, _, k, k' => exact hd i k k'
    | 4, 2, _, k, k' => exact hd i k' k
structure Bi (w wr : World) (s : St) (i : Nat) : Prop where
  good : So.Good w.heap.size 30 31 s wr
  bel : Below w.heap.size w wr
  same : ∀ x, x = 0 ∨ x = 1 → (s.l x).nil = (s.r x).nil ∧ (s.l x).rs = (s.r x).rs ∧ (s.l x).bud = (s.r x).bud ∧ Sm (s.l x).rs (s.l x).bud
  len : s.ts.length ≤ i
theorem Bi.below {w wr w' : World} {s : St} {i : Nat} (h : Bi w wr s i) (hb : Below wr.heap.size wr w') : Bi w w' s i := ⟨h.good.below hb, below_trans h.bel hb, h.same, h.len⟩
theorem Bi.next {w wr : World} {s : St} {i : Nat} (h : Bi w wr s i) : Bi w wr s (i + 1) := ⟨h.good, h.bel, h.same, by have := h.len; omega⟩
theorem Bi.renew {w wr : World} {s : St} {i : Nat} (h : Bi w wr s i) (x : Nat) (hx : x = 0 ∨ x = 1) {k1 k2 : Hb} {nil : Bool} {bud : Int} (hl : LH wr w.heap.size k1 nil [] bud) (hr : RH wr w.heap.size k2 nil [] bud) (h1 : ∀ y i, s.F y i → ¬ k1.foot i) (h2 : ∀ y i, s.F y i → ¬ k2.foot i) (h3 : ∀ i, k1.foot i → ¬ k2.foot i) (hs : Sm [] bud) :
    Bi w ((wr.setCell ⟨s.ga, x, none⟩ k1.ptr).setCell ⟨s.gb, x, none⟩ k2.ptr) { s with l := up s.l x ⟨k1, nil, [], bud⟩, r := up s.r x ⟨k2, nil, [], bud⟩ } (i + 1) := by
  have g1 := h.good.setl x hx ⟨k1, nil, [], bud⟩ hl h1
  have hr1 : RH (wr.setCell ⟨s.ga, x, none⟩ k1.ptr) w.heap.size k2 nil [] bud := hr.same (fun i hi => Below.heap_setCell _ _ _ _ (fun e => h2 0 i e.symm hi))
  have g2 := g1.setr x hx ⟨k2, nil, [], bud⟩ hr1 (fun y i hy hi => by
    by_cases q : y = x + 2
    · subst q
      rw [left_F0 _ x hx] at hy
      simp only [up_same] at hy
      exact h3 i hy hi
    · rw [left_F s x hx _ y q] at hy
      exact h2 y i hy hi)
  have ha := (h.good.ok 0).1
  have hb := (h.good.ok 1).1
  refine ⟨g2, (h.bel.setCell ha _).setCell hb _, fun y hy => ?_, by have := h.len; show s.ts.length ≤ _; omega⟩
  show (up s.l x _ y).nil = (up s.r x _ y).nil ∧ (up s.l x _ y).rs = (up s.r x _ y).rs ∧ (up s.l x _ y).bud = (up s.r x _ y).bud ∧ Sm (up s.l x _ y).rs (up s.l x _ y).bud
  by_cases q : y = x
  · subst q
    rw [up_same, up_same]
    exact ⟨rfl, rfl, rfl, hs⟩
  · rw [up_other _ _ _ _ q, up_other _ _ _ _ q]
    exact h.same y hy
theorem Bi.zero {w wr : World} {s : St} {i : Nat} (h : Bi w wr s i) (x : Nat) (hx : x = 0 ∨ x = 1) :
    Bi w ((((wr.setCell ⟨s.ga, x, none⟩ (.pointer (some ⟨wr.heap.size, 0, none⟩))).setCell ⟨s.gb, x, none⟩ (.pointer (some ⟨wr.heap.size + 1, 0, none⟩))).alloc (.cells #[.slice none 0 0, .int .i64 0, .int .i64 0] 47)).alloc (.cells #[.slice none 0 0, .int .i64 0] 49)) { s with l := up s.l x ⟨⟨some wr.heap.size, .slice none 0 0⟩, false, [], 0⟩, r := up s.r x ⟨⟨some (wr.heap.size + 1), .slice none 0 0⟩, false, [], 0⟩ } (i + 1) := by
  have ha := lt_row (h.good.ok 0).2
  have hb := lt_row (h.good.ok 1).2
  have hz : (wr.alloc (.cells #[.slice none 0 0, .int .i64 0, .int .i64 0] 47)).heap.size = wr.heap.size + 1 := by simp
  have b1 : Below wr.heap.size wr (wr.alloc (.cells #[.slice none 0 0, .int .i64 0, .int .i64 0] 47)) := (Below.refl _ _).alloc (Nat.le_refl _) _
  have b2 : Below (wr.alloc (.cells #[.slice none 0 0, .int .i64 0, .int .i64 0] 47)).heap.size (wr.alloc (.cells #[.slice none 0 0, .int .i64 0, .int .i64 0] 47)) ((wr.alloc (.cells #[.slice none 0 0, .int .i64 0, .int .i64 0] 47)).alloc (.cells #[.slice none 0 0, .int .i64 0] 49)) := (Below.refl _ _).alloc (Nat.le_refl _) _
  have h2 := h.below (below_trans b1 b2)
  have e1 : ((wr.alloc (.cells #[.slice none 0 0, .int .i64 0, .int .i64 0] 47)).alloc (.cells #[.slice none 0 0, .int .i64 0] 49)).heap[wr.heap.size]? = some (.cells #[.slice none 0 0, .int .i64 0, .int .i64 0] 47) := (b2.block _ (by rw [hz]; omega)).trans (heap_alloc_new _ _)
  have e2 : ((wr.alloc (.cells #[.slice none 0 0, .int .i64 0, .int .i64 0] 47)).alloc (.cells #[.slice none 0 0, .int .i64 0] 49)).heap[wr.heap.size + 1]? = some (.cells #[.slice none 0 0, .int .i64 0] 49) := by
    have := heap_alloc_new (wr.alloc (.cells #[.slice none 0 0, .int .i64 0, .int .i64 0] 47)) (.cells #[.slice none 0 0, .int .i64 0] 49)
    rw [hz] at this
    exact this
  have hs := h.bel.size
  have old : ∀ y j, s.F y j → j < wr.heap.size := fun y j hj => (St.P_lt y (h.good.ok y) j hj).2
  have f1 : ∀ j, (⟨some wr.heap.size, .slice none 0 0⟩ : Hb).foot j → wr.heap.size = j := fun j hj => by
    rcases hj with e | e
    · exact Option.some.inj e
    · cases e
  have f2 : ∀ j, (⟨some (wr.heap.size + 1), .slice none 0 0⟩ : Hb).foot j → wr.heap.size + 1 = j := fun j hj => by
    rcases hj with e | e
    · exact Option.some.inj e
    · cases e
  have q := h2.renew x hx (k1 := ⟨some wr.heap.size, .slice none 0 0⟩) (k2 := ⟨some (wr.heap.size + 1), .slice none 0 0⟩) (nil := false) (bud := 0)
    (.inr ⟨rfl, wr.heap.size, rfl, hs, by rw [sumC_nil]; exact e1, own_nil _ _⟩) (.inr ⟨rfl, wr.heap.size + 1, rfl, by omega, e2, own_nil _ _⟩)
    (fun y j hj h => by have a1 := old y j hj; have a2 := f1 j h; omega) (fun y j hj h => by have a1 := old y j hj; have a2 := f2 j h; omega) (fun j h1 h2 => by have a1 := f1 j h1; have a2 := f2 j h2; omega) (sm_nil (by omega) (by omega))
  have z1 : (wr.setCell ⟨s.ga, x, none⟩ (.pointer (some ⟨wr.heap.size, 0, none⟩))).heap.size = wr.heap.size := by simp
  rw [World.setCell_alloc_past _ _ _ _ (by rw [hz]; omega), World.setCell_alloc_past _ _ _ _ ha, World.setCell_alloc_past _ _ _ _ (by first | (simp; omega) | omega), World.setCell_alloc_past _ _ _ _ (by first | (simp; omega) | omega)] at q
  exact q
theorem Good.lh {lo tA tB : Nat} {s : St} {w : World} (h : So.Good lo tA tB s w) (x : Nat) (hx : x = 0 ∨ x = 1) : LH w lo (s.l x).h (s.l x).nil (s.l x).rs (s.l x).bud := by
  rcases hx with rfl | rfl
  · exact h.ok 2
  · exact h.ok 3
theorem Good.rh {lo tA tB : Nat} {s : St} {w : World} (h : So.Good lo tA tB s w) (x : Nat) (hx : x = 0 ∨ x = 1) : RH w lo (s.r x).h (s.r x).nil (s.r x).rs (s.r x).bud := by
  rcases hx with rfl | rfl
  · exact h.ok 4
  · exact h.ok 5
theorem turn_low {w w4 w5 : World} {S : Nat → Prop} (h : Below w.heap.size w w4) (t : Turn w4 w5 S) (hS : ∀ i, S i → w.heap.size ≤ i) : Below w.heap.size w w5 :=
  ⟨t.os.trans h.os, t.tape.trans h.tape, t.output.trans h.output, Nat.le_trans h.size t.size, fun i hi => (t.block i (Nat.lt_of_lt_of_le hi h.size) (fun e => by have := hS i e; omega)).trans (h.block i hi)⟩
theorem Bi.cells {w wr : World} {s : St} {i : Nat} (h : Bi w wr s i) (x : Nat) (hx : x = 0 ∨ x = 1) : wr.cell? ⟨s.ga, x, none⟩ = some (s.l x).h.ptr ∧ wr.cell? ⟨s.gb, x, none⟩ = some (s.r x).h.ptr := by
  have h0 := (h.good.ok 0).2
  have h1 := (h.good.ok 1).2
  rcases hx with rfl | rfl
  · exact ⟨by rw [cell_of_row _ _ _ _ _ _ h0]; rfl, by rw [cell_of_row _ _ _ _ _ _ h1]; rfl⟩
  · exact ⟨by rw [cell_of_row _ _ _ _ _ _ h0]; rfl, by rw [cell_of_row _ _ _ _ _ _ h1]; rfl⟩
/-- One half of an Add. -/
theorem Bi.addl {w w4 w5 : World} {s : St} {i x : Nat} (h : Bi w w4 s i) (hx : x = 0 ∨ x = 1) {h1 : Hb} {rs : List Rec} (b1 : h1.b = (s.l x).h.b) (l1 : LH w5 w.heap.size h1 (s.l x).nil rs (s.l x).bud) (t1 : Turn w4 w5 (s.l x).h.foot) (f1 : ∀ i, h1.foot i → (s.l x).h.foot i ∨ w4.heap.size ≤ i) :
    So.Good w.heap.size 30 31 { s with l := up s.l x ⟨h1, (s.l x).nil, rs, (s.l x).bud⟩ } w5 ∧ Below w.heap.size w w5 ∧ RH w5 w.heap.size (s.r x).h (s.r x).nil (s.r x).rs (s.r x).bud ∧ w5.cell? ⟨s.gb, x, none⟩ = some (s.r x).h.ptr ∧ w5.cell? ⟨s.ga, x, none⟩ = some (s.l x).h.ptr := by
  have g1 := h.good.left x hx ⟨h1, (s.l x).nil, rs, (s.l x).bud⟩ t1 b1 l1 f1
  have c1 := (g1.ok 1).2
  have c0 := (g1.ok 0).2
  refine ⟨g1, turn_low h.bel t1 (fun i hi => ((Good.lh h.good x hx).lt i hi).1), Good.rh g1 x hx, ?_, ?_⟩
  · rcases hx with rfl | rfl
    · rw [cell_of_row _ _ _ _ _ _ c1]; rfl
    · rw [cell_of_row _ _ _ _ _ _ c1]; rfl
  · rcases hx with rfl | rfl
    · rw [cell_of_row _ _ _ _ _ _ c0, ← ptr_eq b1]; rfl
    · rw [cell_of_row _ _ _ _ _ _ c0, ← ptr_eq b1]; rfl
/-- Both halves. -/
theorem Bi.both {w w4 w5 w6 : World} {s : St} {i x : Nat} (h : Bi w w4 s i) (hx : x = 0 ∨ x = 1) {h1 h2 : Hb} {rs rs2 : List Rec} (b1 : h1.b = (s.l x).h.b) (l1 : LH w5 w.heap.size h1 (s.l x).nil rs (s.l x).bud) (t1 : Turn w4 w5 (s.l x).h.foot) (f1 : ∀ i, h1.foot i → (s.l x).h.foot i ∨ w4.heap.size ≤ i)
    (b2 : h2.b = (s.r x).h.b) (l2 : RH w6 w.heap.size h2 (s.r x).nil rs2 (s.r x).bud) (t2 : Turn w5 w6 (s.r x).h.foot) (f2 : ∀ i, h2.foot i → (s.r x).h.foot i ∨ w5.heap.size ≤ i) (hrs : rs = rs2) (hs : Sm rs (s.l x).bud) :
    Bi w w6 { s with l := up s.l x ⟨h1, (s.l x).nil, rs, (s.l x).bud⟩, r := up s.r x ⟨h2, (s.r x).nil, rs2, (s.r x).bud⟩ } i := by
  obtain ⟨g1, hb1, r1, _, _⟩ := h.addl hx b1 l1 t1 f1
  have g2 := So.Good.right g1 x hx ⟨h2, (s.r x).nil, rs2, (s.r x).bud⟩ t2 b2 l2 f2
  refine ⟨g2, turn_low hb1 t2 (fun i hi => (r1.lt i hi).1), fun y hy => ?_, h.len⟩
  obtain ⟨a1, a2, a3, a4⟩ := h.same x hx
  show (up s.l x _ y).nil = (up s.r x _ y).nil ∧ (up s.l x _ y).rs = (up s.r x _ y).rs ∧ (up s.l x _ y).bud = (up s.r x _ y).bud ∧ Sm (up s.l x _ y).rs (up s.l x _ y).bud
  by_cases q : y = x
  · subst q
    rw [up_same, up_same]
    exact ⟨a1, hrs, a3, hs⟩
  · rw [up_other _ _ _ _ q, up_other _ _ _ _ q]
    exact h.same y hy
/-- What was taken is loose. -/
theorem Bi.took {w w4 w5 w6 : World} {s : St} {i x : Nat} (h : Bi w w4 s i) (hx : x = 0 ∨ x = 1) {v : Value} {rs : List Rec} (l1 : LH w5 w.heap.size ⟨(s.l x).h.b, .slice none 0 0⟩ (s.l x).nil [] (s.l x).bud) (t1 : Turn w4 w5 (s.l x).h.foot) (hv : ∀ i, v.ownBlock = some i → ((s.l x).h.foot i ∨ w4.heap.size ≤ i) ∧ (s.l x).h.b ≠ some i) (ho : OwnR w5 w.heap.size v rs)
    (l2 : RH w6 w.heap.size ⟨(s.r x).h.b, .slice none 0 0⟩ (s.r x).nil [] (s.r x).bud) (t2 : Turn w5 w6 (s.r x).h.foot) :
    Bi w w6 { s with l := up s.l x ⟨⟨(s.l x).h.b, .slice none 0 0⟩, (s.l x).nil, [], (s.l x).bud⟩, r := up s.r x ⟨⟨(s.r x).h.b, .slice none 0 0⟩, (s.r x).nil, [], (s.r x).bud⟩ } i ∧ Loose { s with l := up s.l x ⟨⟨(s.l x).h.b, .slice none 0 0⟩, (s.l x).nil, [], (s.l x).bud⟩, r := up s.r x ⟨⟨(s.r x).h.b, .slice none 0 0⟩, (s.r x).nil, [], (s.r x).bud⟩ } v ∧ OwnR w6 w.heap.size v rs := by
  have fe : ∀ (b : Option Nat) (j : Nat), (⟨b, .slice none 0 0⟩ : Hb).foot j → b = some j := fun b j hj => by
    rcases hj with e | e
    · exact e
    · cases e
  have f1 : ∀ j, (⟨(s.l x).h.b, .slice none 0 0⟩ : Hb).foot j → (s.l x).h.foot j ∨ w4.heap.size ≤ j := fun j hj => .inl (.inl (fe _ j hj))
  obtain ⟨g1, hb1, r1, _, _⟩ := h.addl hx (h1 := ⟨(s.l x).h.b, .slice none 0 0⟩) rfl l1 t1 f1
  have hbd := (h.same x hx).2.2.2.bd
  have q := h.both hx (h1 := ⟨(s.l x).h.b, .slice none 0 0⟩) (h2 := ⟨(s.r x).h.b, .slice none 0 0⟩) rfl l1 t1 f1 rfl l2 t2 (fun j hj => .inl (.inl (fe _ j hj))) rfl (sm_nil hbd.1 hbd.2)
  have lo1 := h.good.loose x hx v (s.l x).nil [] (s.l x).bud hv
  have lo2 := Loose.right g1 lo1 (fun j hj => (ho.blk j hj).2) x hx ⟨⟨(s.r x).h.b, .slice none 0 0⟩, (s.r x).nil, [], (s.r x).bud⟩ (fun j hj => .inl (.inl (fe _ j hj)))
  refine ⟨q, lo2, ho.same (fun j hj => t2.block j (ho.blk j hj).2 (fun e => lo1 (x + 4) j ?_ hj))⟩
  rw [right_F0 _ x hx]
  exact e
theorem own_put {w : World} {base g n c : Nat} {rs : List Rec} (h : OwnR w base (.slice (some ⟨g, 0, none⟩) n c) rs) (i : Nat) (hi : i < n) (r : Rec) :
    OwnR (((w.setCell ⟨g, i * 3, none⟩ (.int .i64 r.p)).setCell ⟨g, i * 3 + 1, none⟩ (.string r.k)).setCell ⟨g, i * 3 + 2, none⟩ (.string r.v)) base (.slice (some ⟨g, 0, none⟩) n c) (rs.set i r) := by
  obtain ⟨hra, hb, hn⟩ := own_ra h
  rcases h.2 with ⟨h1, h2⟩ | ⟨g', cap', cur, h1, h2, h3, h4, h5, h6, h7⟩
  · cases h1
  · simp only [Value.slice.injEq, Option.some.injEq, Addr.mk.injEq] at h1
    obtain ⟨⟨rfl, _⟩, h8, rfl⟩ := h1
    obtain ⟨cur', k1, k2⟩ := ((((Shp.refl w g).set (i * 3) (.int .i64 r.p)).set (i * 3 + 1) (.string r.k)).set (i * 3 + 2) (.string r.v)) cur _ h3
    have e : seg (setR (fun j => rs.getD j rec0) i r) 0 n = rs.set i r := by
      refine List.ext_getElem? (fun j => ?_)
      by_cases q : j < n
      · rw [seg_get _ _ _ _ (by omega), Nat.zero_add, List.getElem?_set]
        unfold setR
        by_cases e : j = i
        · subst e
          rw [if_pos rfl, if_pos rfl, if_pos (by omega)]
        · rw [if_neg e, if_neg (fun e2 => e e2.symm)]
          show some (rs.getD j rec0) = _
          rw [List.getD_eq_getElem?_getD, List.getElem?_eq_getElem (by omega)]
          rfl
      · rw [List.getElem?_eq_none (by rw [length_seg]; omega), List.getElem?_eq_none (by rw [List.length_set]; omega)]
    rw [← e]
    exact ra_own (hra.set i hi r) k1 (by omega) (by omega) h5 hb
theorem mark_set (rs : List Rec) (m : Rec) (k : Nat) (hk : k < rs.length) : (List.replicate k m ++ rs.drop k).set k m = List.replicate (k + 1) m ++ rs.drop (k + 1) := by
  refine List.ext_getElem? (fun j => ?_)
  rw [List.getElem?_set]
  by_cases e : k = j
  · subst e
    rw [if_pos rfl, if_pos (by simp; omega), List.getElem?_append_left (by simp), List.getElem?_replicate, if_pos (by omega)]
  · rw [if_neg e]
    by_cases q : j < k
    · rw [List.getElem?_append_left (by simpa using q), List.getElem?_append_left (by simp; omega), List.getElem?_replicate, List.getElem?_replicate, if_pos q, if_pos (by omega)]
    · rw [List.getElem?_append_right (by simp; omega), List.getElem?_append_right (by simp; omega), List.length_replicate, List.length_replicate, List.getElem?_drop, List.getElem?_drop]
      congr 1
      omega
theorem infoT : (Try.prog.info? 42).map (fun i => (i.zero, i.size, i.bytes)) = some (some (.agg #[.slice none 0 0, .int .i64 0]), 2, 32) := by kernel_rfl
theorem info_told : ∃ i, Try.prog.info? 42 = some i ∧ i.zero = some (.agg #[.slice none 0 0, .int .i64 0]) ∧ i.size = 2 ∧ i.bytes = 32 := by
  have hq := infoT
  cases hi : Try.prog.info? 42 with
  | none => simp [hi] at hq
  | some i =>
    simp only [hi, Option.map_some, Option.some.injEq, Prod.mk.injEq] at hq
    exact ⟨i, rfl, hq.1, hq.2.1, hq.2.2⟩
theorem length_tvals (ts : List Tl) : (tvals ts).length = ts.length * 2 := by
  induction ts with
  | nil => rfl
  | cons t r ih => unfold tvals at ih ⊢; rw [List.flatMap_cons, List.length_append, ih, List.length_cons]; simp; omega
theorem tvals_append (a b : List Tl) : tvals (a ++ b) = tvals a ++ tvals b := by unfold tvals; rw [List.flatMap_append]
theorem tvals_get : ∀ (ts : List Tl) (j : Nat), j < ts.length → (tvals ts)[j * 2]? = some (ts.getD j tl0).v ∧ (tvals ts)[j * 2 + 1]? = some (.int .i64 (ts.getD j tl0).mark)
  | [], j, h => by simp at h
  | t :: r, 0, _ => ⟨rfl, rfl⟩
  | t :: r, j + 1, h => by
    obtain ⟨a, b⟩ := tvals_get r j (by simpa using h)
    have e : tvals (t :: r) = t.v :: .int .i64 t.mark :: tvals r := rfl
    rw [e, show (j + 1) * 2 = j * 2 + 2 by omega, show j * 2 + 2 + 1 = (j * 2 + 1) + 2 by omega]
    exact ⟨a, b⟩
theorem told_rdt {w : World} {base : Nat} {a : Option Addr} {n cap : Nat} {ts : List Tl} (h : w.ownsRow base 42 2 (.slice a n cap) ts.length (tvals ts)) : RdT w a n ts := by
  rcases h.2 with ⟨h1, h2⟩ | ⟨g', cap', cur, h1, h2, h3, h4, h5, h6, h7⟩
  · simp only [Value.slice.injEq] at h1
    obtain ⟨rfl, rfl, rfl⟩ := h1
    exact ⟨h2, fun h => by omega⟩
  · simp only [Value.slice.injEq] at h1
    obtain ⟨rfl, rfl, rfl⟩ := h1
    refine ⟨rfl, fun _ => ⟨g', 0, rfl, lt_row h3, fun j hj => ?_⟩⟩
    obtain ⟨x, y⟩ := tvals_get ts j hj
    rw [← h7] at x y
    rw [List.getElem?_take_of_lt (by omega), Array.getElem?_toList] at x y
    rw [Nat.zero_add]
    exact ⟨by rw [cell_of_row _ _ _ _ _ _ h3]; exact x, by rw [cell_of_row _ _ _ _ _ _ h3]; exact y⟩
theorem told_shape {w : World} {base : Nat} {v : Value} {ts : List Tl} (h : w.ownsRow base 42 2 v ts.length (tvals ts)) : ∃ a c, v = .slice a ts.length c := by
  rcases h.2 with ⟨h1, h2⟩ | ⟨g', cap', cur, h1, h2, h3, h4, h5, h6, h7⟩
  · exact ⟨none, 0, by rw [h1, h2]⟩
  · exact ⟨_, _, h1⟩
/-- append of one told list. -/
theorem pushT {ops : Array Oper} {rest : List Oper} {o : Oper} {a : Act} {Q : Exit → Act → World → Prop} (w : World) (hgd : o.guard = none) (s x : Operand)
    (ho : o.op = .call { callee := .builtin .append, args := #[s, x], argTypes := #[32, 32] })
    (base : Nat) (v : Value) (ts : List Tl) (hs : a.eval s = v) (hown : w.ownsRow base 42 2 v ts.length (tvals ts)) (g0 : Nat) (t : Tl) (hx : a.eval x = .slice (some ⟨g0, 0, none⟩) 1 1)
    (hr : w.heap[g0]? = some (.cells #[t.v, .int .i64 t.mark] 42)) (h1c : t.v.oneCell' = true) (hl : (ts.length + 1) * 32 ≤ 140737488355328) (hbase : base ≤ w.heap.size)
    (h : ∀ g cap w', w'.ownsRow base 42 2 (.slice (some ⟨g, 0, none⟩) (ts.length + 1) cap) (ts.length + 1) (tvals (ts ++ [t])) → w.grownBy w' v.ownBlock → (v.ownBlock = some g ∨ g = w.heap.size) → wpList Try.prog ops Q rest (a.put o.dst (.slice (some ⟨g, 0, none⟩) (ts.length + 1) cap)) w') : wpList Try.prog ops Q (o :: rest) a w := by
  obtain ⟨i0, hi, hz0, hz1, hz2⟩ := info_told
  refine wpList_append_lies w hgd s x 32 ho base 42 i0 _ 2 32 Try.underlying32 hi hz0 hz1 hz2 rfl (by omega) v ts.length (tvals ts) hs hown ⟨g0, 0, none⟩ 1 1 (tvals [t]) hx rfl (fun j u hu => ?_) (fun u hu => ?_) (by omega) (by unfold maxLen; omega) hl hbase w.heap.size rfl ?_
  · match j, hu with
    | 0, hu =>
      have e : some t.v = some u := hu
      show w.cell? ⟨g0, 0, none⟩ = some u
      rw [← e, cell_of_row _ _ _ _ _ _ hr]; rfl
    | 1, hu =>
      have e : some (Value.int .i64 t.mark) = some u := hu
      show w.cell? ⟨g0, 1, none⟩ = some u
      rw [← e, cell_of_row _ _ _ _ _ _ hr]; rfl
    | j + 2, hu => cases hu
  · have hu2 : u ∈ [t.v, Value.int .i64 t.mark] := hu
    simp only [List.mem_cons, List.not_mem_nil, or_false] at hu2
    rcases hu2 with rfl | rfl
    · exact h1c
    · rfl
  · intro g cap w' h1 h2 h3 _
    exact h g cap w' (by rw [tvals_append]; exact h1) h2 h3
/-- What lies behind a told list has turned. -/
theorem Good.tailed {lo tA tB : Nat} {s : St} {w w' : World} (h : So.Good lo tA tB s w) (j : Nat) (hg : w.grownBy w' (s.ts.getD j tl0).v.ownBlock) (ho : (s.ts.getD j tl0).ok w' lo) : So.Good lo tA tB s w' :=
  h.turn (j + 7) ⟨hg.os, hg.tape, hg.output, hg.size, fun i hi q => hg.block i hi (fun e => q e.symm)⟩ (fun _ _ => rfl) (fun _ _ => rfl) ho (fun i hi => .inl hi)
theorem Bi.whole {w wr w' : World} {s : St} {i : Nat} (h : Bi w wr s i) (hk : KT wr w' s.ts.length s.ts) (ho : ∀ j, j < s.ts.length → (s.ts.getD j tl0).ok w' w.heap.size) : Bi w w' s i :=
  ⟨h.good.whole hk ho, ⟨hk.os.trans h.bel.os, hk.tape.trans h.bel.tape, hk.output.trans h.bel.output, Nat.le_trans h.bel.size hk.size, fun k hk2 => (hk.block k (Nat.lt_of_lt_of_le hk2 h.bel.size) (fun j _ e => by have := (St.P_lt (j + 7) (h.good.ok (j + 7)) k e).1; omega)).trans (h.bel.block k hk2)⟩, h.same, h.len⟩
theorem getD_snoc (ts : List Tl) (t : Tl) : (ts ++ [t]).getD ts.length tl0 = t := by
  rw [List.getD_eq_getElem?_getD, List.getElem?_append_right (Nat.le_refl _)]
  simp
/-- A list has been written full, and is told. -/
theorem Bi.told {w w7 w8 w8' w9 : World} {s : St} {i L : Nat} {mk : Int} {v tv : Value} (h : Bi w w7 s i) (hl : Loose s v) (hg8 : w7.grownBy w8 v.ownBlock) (ho8 : OwnR w8 w.heap.size v (List.replicate L (ovR mk))) (b8 : Below w8.heap.size w8 w8')
    (hr9 : w9.ownsRow w.heap.size 42 2 tv (s.ts.length + 1) (tvals (s.ts ++ [⟨v, L, mk⟩]))) (hg9 : w8'.grownBy w9 s.tv.ownBlock) (hpl : ∀ i, tv.ownBlock = some i → s.tv.ownBlock = some i ∨ w8'.heap.size ≤ i) :
    Bi w w9 { s with tv := tv, ts := s.ts ++ [⟨v, L, mk⟩] } (i + 1) ∧ OwnR w9 w.heap.size v (List.replicate L (ovR mk)) := by
  have g8 : So.Good w.heap.size 30 31 s w8 := h.good.beside (fun i => v.ownBlock = some i) ⟨hg8.os, hg8.tape, hg8.output, hg8.size, fun j hj q => hg8.block j hj (fun e => q e.symm)⟩ (fun y j hy e => hl y j hy e)
  have g8' := g8.below b8
  have g9 := g8'.tell ⟨v, L, mk⟩ tv hl (ho8.below b8) hg9 hr9 hpl
  have q : ∀ j, v.ownBlock = some j → w.heap.size ≤ j := fun j hj => (ho8.blk j hj).1
  have q6 : ∀ j, s.tv.ownBlock = some j → w.heap.size ≤ j := fun j hj => (St.P_lt 6 (h.good.ok 6) j hj).1
  have z1 := h.bel.size
  have z2 := hg8.size
  have z3 := b8.size
  refine ⟨⟨g9, ⟨hg9.os.trans (b8.os.trans (hg8.os.trans h.bel.os)), hg9.tape.trans (b8.tape.trans (hg8.tape.trans h.bel.tape)), hg9.output.trans (b8.output.trans (hg8.output.trans h.bel.output)), Nat.le_trans z1 (Nat.le_trans z2 (Nat.le_trans z3 hg9.size)), fun j hj => ?_⟩, h.same, ?_⟩, ?_⟩
  · exact (hg9.block j (by omega) (fun e => by have := q6 j e.symm; omega)).trans ((b8.block j (by omega)).trans ((hg8.block j (by omega) (fun e => by have := q j e.symm; omega)).trans (h.bel.block j hj)))
  · have := h.len
    show (s.ts ++ [_]).length ≤ _
    rw [List.length_append, List.length_singleton]
    omega
  · have e : Tl.ok w9 w.heap.size ((s.ts ++ [(⟨v, L, mk⟩ : Tl)]).getD s.ts.length tl0) := g9.ok (s.ts.length + 7)
    rw [getD_snoc] at e
    exact e
theorem Bi.tail {w w9 w10 : World} {s : St} {i : Nat} {v : Value} {L : Nat} {mk : Int} {tv : Value} (h : Bi w w9 { s with tv := tv, ts := s.ts ++ [⟨v, L, mk⟩] } i) (hg : w9.grownBy w10 v.ownBlock) (ho : OwnR w10 w.heap.size v (List.replicate L (ovR mk))) : Bi w w10 { s with tv := tv, ts := s.ts ++ [⟨v, L, mk⟩] } i := by
  have e : (s.ts ++ [(⟨v, L, mk⟩ : Tl)]).getD s.ts.length tl0 = ⟨v, L, mk⟩ := getD_snoc _ _
  have g := Good.tailed h.good s.ts.length (w' := w10) (by show w9.grownBy w10 ((s.ts ++ [(⟨v, L, mk⟩ : Tl)]).getD s.ts.length tl0).v.ownBlock; rw [e]; exact hg) (by show Tl.ok w10 w.heap.size ((s.ts ++ [(⟨v, L, mk⟩ : Tl)]).getD s.ts.length tl0); rw [e]; exact ho)
  exact ⟨g, ⟨hg.os.trans h.bel.os, hg.tape.trans h.bel.tape, hg.output.trans h.bel.output, Nat.le_trans h.bel.size hg.size, fun j hj => (hg.block j (Nat.lt_of_lt_of_le hj h.bel.size) (fun e => by have := (ho.blk j e.symm).1; omega)).trans (h.bel.block j hj)⟩, h.same, h.len⟩
theorem six_of {w : World} {g : Nat} {v0 v1 v2 v3 v4 v5 : Value} {ty : Nat} (h : w.heap[g]? = some (.cells #[v0, v1, v2, v3, v4, v5] ty)) : w.cell? ⟨g, 0, none⟩ = some v0 ∧ w.cell? ⟨g, 1, none⟩ = some v1 ∧ w.cell? ⟨g, 2, none⟩ = some v2 ∧ w.cell? ⟨g, 3, none⟩ = some v3 ∧ w.cell? ⟨g, 4, none⟩ = some v4 ∧ w.cell? ⟨g, 5, none⟩ = some v5 := by
  refine ⟨?_, ?_, ?_, ?_, ?_, ?_⟩ <;> (rw [cell_of_row _ _ _ _ _ _ h]; rfl)
end Go.Proofs.Ytlbplicafcoifaa.SortBuffers
