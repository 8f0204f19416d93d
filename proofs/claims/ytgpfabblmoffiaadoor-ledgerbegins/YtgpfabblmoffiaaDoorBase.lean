/-
  What the walks share: slices that read as bytes, slices of the call's own memory, what becomes of them as memory grows.
-/
import Derived.Test.YtgpfabblmoffiaaDoorProg
import Derived.WalkKit
import Derived.Deep.QuietTactic
import Derived.BigQuiet
import Derived.WalkSmall
import Derived.ProofKit
import Derived.OpenShut
import Derived.SizedLaws
import Derived.Below
import Derived.Maps.AppendAt
import Derived.Lib.SlBytesConst
import Derived.Laws.AppendOwnNone
import Derived.Laws.CopyOwn
import Derived.Deep.RegionLaw
import Derived.Deep.RegionHeld
namespace Go.Proofs.YtgpfabblmoffiaaDoor.Base
open Go.ChangeShapes Go.WideShapes Go.ChangeAt Go.RowKit
theorem hide {p : Prop} (h : p) : Hid p := h
theorem unhide {p : Prop} (h : Hid p) : p := h
/-- The slice 'a, len' reads as the bytes 'bs' in the world 'w'. -/
def Rd (w : World) (a : Option Addr) (len : Nat) (bs : List (BitVec 8)) : Prop :=
  bs.length = len ∧ len ≤ 140737488355328 ∧ (0 < len → ∃ b off, a = some ⟨b, off, none⟩ ∧ b < w.heap.size ∧ ∀ i, i < len → w.cell? ⟨b, off + i, none⟩ = some (.int .u8 ((bs.getD i 0).toNat : Int)))
theorem bcell {B : Nat} {W w1 : World} (hb : Below B W w1) : (∀ b o, b < B → w1.cell? ⟨b, o, none⟩ = W.cell? ⟨b, o, none⟩) ∧ (∀ b o, b < B → w1.frozen? ⟨b, o, none⟩ = W.frozen? ⟨b, o, none⟩) :=
  ⟨fun b o h => hb.cell (p := ⟨b, o, none⟩) h, fun b o h => hb.frozen (p := ⟨b, o, none⟩) h⟩
theorem getD_take (bs : List (BitVec 8)) (k : Nat) (h : k < bs.length) : bs.take (k + 1) = bs.take k ++ [bs.getD k 0] := by
  rw [List.take_succ_eq_append_getElem h, List.getD_eq_getElem?_getD, List.getElem?_eq_getElem h]; rfl
theorem lt32 (x : BitVec 32) : x.toNat < 4294967296 := x.isLt
theorem lt8 (x : BitVec 8) : x.toNat < 256 := x.isLt
theorem ret_int {k : IntKind} {a b : Int} (h : a = b) : Ending.returned (.int k a) = .returned (.int k b) := by rw [h]
theorem val_int {k : IntKind} {a b : Int} (h : a = b) : Value.int k a = .int k b := by rw [h]
def V8 (c : BitVec 8) : Value := .int .u8 (c.toNat : Int)
def vals (bs : List (BitVec 8)) : List Value := bs.map V8
/-- The slice 'v' leads to a row of the call's own, from block 'base' on, and reads as 'bs'. -/
def Own (w : World) (base : Nat) (v : Value) (bs : List (BitVec 8)) : Prop := w.ownsRow base 5 1 v bs.length (vals bs)
theorem length_vals (bs : List (BitVec 8)) : (vals bs).length = bs.length := by simp [vals]
theorem getD_vals (bs : List (BitVec 8)) (i : Nat) (h : i < bs.length) : (vals bs)[i]? = some (.int .u8 ((bs.getD i 0).toNat : Int)) := by
  rw [vals, List.getElem?_map, List.getElem?_eq_getElem h, List.getD_eq_getElem?_getD, List.getElem?_eq_getElem h]; rfl
theorem Own.rd {w : World} {base g n cap : Nat} {bs : List (BitVec 8)} (h : Own w base (.slice (some ⟨g, 0, none⟩) n cap) bs) (hl : bs.length ≤ 140737488355328) : Rd w (some ⟨g, 0, none⟩) n bs := by
  have hn : n = bs.length := by
    rcases h.2 with ⟨h1, _⟩ | ⟨_, _, _, h1, _⟩
    · simp at h1
    · simp at h1; exact h1.2.1
  subst hn
  refine ⟨rfl, hl, fun hp => ⟨g, 0, rfl, (h.lt g rfl).2, fun i hi => ?_⟩⟩
  rw [Nat.zero_add, h.cellAt i (by omega), getD_vals bs i hi]
theorem take_eq_iff (xs ys : List (BitVec 8)) (k : Nat) (h1 : k < xs.length) (h2 : k < ys.length) (h : xs.take k = ys.take k) (e : xs.getD k 0 = ys.getD k 0) : xs.take (k + 1) = ys.take (k + 1) := by
  rw [getD_take xs k h1, getD_take ys k h2, h, e]
theorem ret_bool {a b : Bool} (h : a = b) : Ending.returned (.bool a) = .returned (.bool b) := by rw [h]
theorem below_drewN' (B : Nat) (w : World) (n : Nat) : Below B w (w.drewN n) := below_drewN (Below.refl _ _) n
theorem info8 : (Tryd.prog.info? 5).map (fun i => (i.zero, i.size, i.bytes)) = some (some (.int .u8 0), 1, 1) := by kernel_rfl
theorem vals_set (bs : List (BitVec 8)) (k : Nat) (c : BitVec 8) : (vals bs).set k (.int .u8 (c.toNat : Int)) = vals (bs.set k c) := by
  simp [vals, V8, List.map_set]
theorem Own.len {w : World} {base g n cap : Nat} {bs : List (BitVec 8)} (h : Own w base (.slice (some ⟨g, 0, none⟩) n cap) bs) : n = bs.length := by
  rcases h.2 with ⟨h1, _⟩ | ⟨_, _, _, h1, _⟩
  · simp at h1
  · simp at h1; exact h1.2.1
theorem Own.cell {w : World} {base g n cap : Nat} {bs : List (BitVec 8)} (h : Own w base (.slice (some ⟨g, 0, none⟩) n cap) bs) (k : Nat) (hk : k < n) :
    w.cell? ⟨g, k, none⟩ = some (.int .u8 ((bs.getD k 0).toNat : Int)) := by
  have hn := h.len
  subst hn
  rw [World.ownsRow.cellAt h k (by omega), getD_vals bs k hk]
theorem Own.frozen {w : World} {base g n cap : Nat} {bs : List (BitVec 8)} (h : Own w base (.slice (some ⟨g, 0, none⟩) n cap) bs) (k : Nat) : w.frozen? ⟨g, k, none⟩ = false := by
  have hn := h.len
  subst hn
  exact World.ownsRow.frozenAt h k
theorem Own.store {w : World} {base g n cap : Nat} {bs : List (BitVec 8)} (h : Own w base (.slice (some ⟨g, 0, none⟩) n cap) bs) (k : Nat) (c : BitVec 8) :
    Own (w.setCell ⟨g, k, none⟩ (.int .u8 (c.toNat : Int))) base (.slice (some ⟨g, 0, none⟩) n cap) (bs.set k c) ∧ w.grownBy (w.setCell ⟨g, k, none⟩ (.int .u8 (c.toNat : Int))) (some g) := by
  have hn : n = bs.length := by
    rcases h.2 with ⟨h1, _⟩ | ⟨_, _, _, h1, _⟩
    · simp at h1
    · simp at h1; exact h1.2.1
  subst hn
  have := World.ownsRow.stored h k (.int .u8 (c.toNat : Int))
  unfold Own
  rw [List.length_set, ← vals_set]
  exact this
theorem grown_trans {w0 w1 w2 : World} {r : Option Nat} (h : w0.grownBy w1 r) (k : w1.grownBy w2 r) : w0.grownBy w2 r :=
  ⟨k.os.trans h.os, k.tape.trans h.tape, k.output.trans h.output, Nat.le_trans h.size k.size, fun i hi hne => (k.block i (Nat.lt_of_lt_of_le hi h.size) hne).trans (h.block i hi hne)⟩
theorem own : ownKnob Tryd.prog.godebug = none := by kernel_rfl
theorem laidOut : laidOutB Tryd.prog = true := by kernel_rfl
theorem bytes8 : Tryd.prog.bytesOf 5 = 1 := by kernel_rfl
theorem rd_nil (w : World) : Rd w none 0 [] := ⟨rfl, by omega, fun h => absurd h (by omega)⟩
theorem rd_zero (w : World) (a : Option Addr) : Rd w a 0 [] := ⟨rfl, by omega, fun h => absurd h (by omega)⟩
theorem wf_u8 {n : Int} (h : (Lit.int .u8 n).wf = true) : 0 ≤ n ∧ n < 256 := by
  have := bounds_u8 h
  omega
theorem rd_row {w : World} {x : Addr} {l c : Nat} {zs : List Int} (hl : l ≤ c) (hz : zs.length = c) (hcell : ∀ i, i < zs.length → w.cell? (x.add i) = some (.int .u8 (zs.getD i 0)))
    (hwz : ∀ n ∈ zs, (Lit.int .u8 n).wf = true) (hc : c ≤ 140737488351232) : ∃ bs, Rd w (some x) l bs := by
  refine ⟨(zs.take l).map (BitVec.ofInt 8), by simp; omega, by omega, fun hp => ?_⟩
  obtain ⟨b, off, spot⟩ := x
  have h0 := hcell 0 (by omega)
  have hspot : spot = none := by simpa [Addr.add] using World.cell?_spot h0
  subst hspot
  refine ⟨b, off, rfl, ?_, fun i hi => ?_⟩
  · have := block_lt_of_cell h0
    simpa [Addr.add] using this
  · have h := hcell i (by omega)
    rw [show (⟨b, off, none⟩ : Addr).add i = ⟨b, off + i, none⟩ by simp [Addr.add]] at h
    rw [h]
    have hlt : i < zs.length := by omega
    have hm : zs.getD i 0 ∈ zs := by
      rw [List.getD_eq_getElem?_getD, List.getElem?_eq_getElem hlt]; exact List.getElem_mem hlt
    obtain ⟨n0, n1⟩ := wf_u8 (hwz _ hm)
    have e : ((zs.take l).map (BitVec.ofInt 8)).getD i 0 = BitVec.ofInt 8 (zs.getD i 0) := by
      rw [List.getD_eq_getElem?_getD, List.getElem?_map, List.getElem?_take, if_pos hi, List.getD_eq_getElem?_getD, List.getElem?_eq_getElem hlt]; rfl
    rw [e]
    generalize zs.getD i 0 = n at n0 n1
    obtain ⟨m, rfl⟩ := Int.eq_ofNat_of_zero_le n0
    rw [ofInt_u8 m (by omega)]
theorem Rd.below {w w' : World} {a : Option Addr} {len : Nat} {bs : List (BitVec 8)} (h : Rd w a len bs) (hb : Below w.heap.size w w') : Rd w' a len bs := by
  obtain ⟨h1, h2, h3⟩ := h
  refine ⟨h1, h2, fun hp => ?_⟩
  obtain ⟨b, off, rfl, hlt, hc⟩ := h3 hp
  refine ⟨b, off, rfl, Nat.lt_of_lt_of_le hlt hb.size, fun i hi => ?_⟩
  rw [hb.cell (p := ⟨b, off + i, none⟩) hlt]
  exact hc i hi
theorem below_grown {w w' : World} (hb : Below w.heap.size w w') : w.grownBy w' none :=
  ⟨hb.os, hb.tape, hb.output, hb.size, fun k hk _ => hb.block k hk⟩
theorem Own.below {w w' : World} {base : Nat} {v : Value} {bs : List (BitVec 8)} (h : Own w base v bs) (hb : Below w.heap.size w w') : Own w' base v bs := by
  refine World.ownsRow.kept (row := none) h (below_grown hb) ?_
  cases hv : v.ownBlock with
  | none => exact .inl rfl
  | some k => exact .inr (by simp)
theorem Own.other {w w' : World} {base g n cap g' : Nat} {bs : List (BitVec 8)} (h : Own w base (.slice (some ⟨g, 0, none⟩) n cap) bs) (hb : w.grownBy w' (some g')) (hne : g ≠ g') : Own w' base (.slice (some ⟨g, 0, none⟩) n cap) bs :=
  World.ownsRow.kept (row := some g') h hb (.inr (by simp [Value.ownBlock, hne]))
theorem Own.lt' {w : World} {base g n cap : Nat} {bs : List (BitVec 8)} (h : Own w base (.slice (some ⟨g, 0, none⟩) n cap) bs) : base ≤ g ∧ g < w.heap.size := World.ownsRow.lt h g rfl
theorem Own.mono {w : World} {base base' : Nat} {v : Value} {bs : List (BitVec 8)} (h : Own w base v bs) (hb : base' ≤ base) : Own w base' v bs := by
  obtain ⟨h1, h2⟩ := h
  refine ⟨h1, ?_⟩
  rcases h2 with h2 | ⟨g, cap, cur, e1, e2, e3⟩
  · exact .inl h2
  · exact .inr ⟨g, cap, cur, e1, Nat.le_trans hb e2, e3⟩
/-- The first m of an own slice: 'v[:m]'. -/
theorem Own.cut {w : World} {base g n cap : Nat} {bs : List (BitVec 8)} (h : Own w base (.slice (some ⟨g, 0, none⟩) n cap) bs) (m : Nat) (hm : m ≤ n) : Own w base (.slice (some ⟨g, 0, none⟩) m cap) (bs.take m) := by
  have hn := h.len
  subst hn
  obtain ⟨h1, h2⟩ := h
  have hl : (bs.take m).length = m := by rw [List.length_take]; omega
  unfold Own
  rw [hl]
  refine ⟨by rw [length_vals, hl]; omega, ?_⟩
  rcases h2 with ⟨h2, _⟩ | ⟨g', cap', cur, e1, e2, e3, e4, e5, e6, e7⟩
  · simp at h2
  · simp only [Value.slice.injEq, Option.some.injEq, Addr.mk.injEq, and_true, true_and] at e1
    obtain ⟨rfl, rfl⟩ := e1
    refine .inr ⟨g, cap, cur, rfl, e2, e3, by omega, e5, e6, ?_⟩
    rw [Nat.mul_one] at e7 ⊢
    have : (cur.toList.take bs.length).take m = (vals bs).take m := by rw [e7]
    rw [List.take_take, Nat.min_eq_left hm] at this
    rw [this, vals, vals, List.map_take]
theorem Own.cap {w : World} {base g n cap : Nat} {bs : List (BitVec 8)} (h : Own w base (.slice (some ⟨g, 0, none⟩) n cap) bs) : n ≤ cap := by
  rcases h.2 with ⟨h1, _⟩ | ⟨_, _, _, h1, _, _, h2, _⟩
  · simp at h1
  · simp at h1; omega
theorem grown_below {w0 w w' : World} {g : Nat} (hb : Below w0.heap.size w0 w) (hg : w.grownBy w' (some g)) (h : w0.heap.size ≤ g) : Below w0.heap.size w0 w' :=
  hb.grown hg hb.size (fun k e => by cases e; exact h)
theorem below_trans {w0 w w' : World} (hb : Below w0.heap.size w0 w) (hc : Below w.heap.size w w') : Below w0.heap.size w0 w' :=
  hb.trans (hc.mono hb.size)
theorem bv_u32 {n : Int} (h : (Lit.int .u32 n).wf = true) : ∃ x : BitVec 32, n = (x.toNat : Int) := by
  have hb := bounds_u32 h
  obtain ⟨m, rfl⟩ := Int.eq_ofNat_of_zero_le hb.1
  refine ⟨BitVec.ofNat 32 m, ?_⟩
  rw [BitVec.toNat_ofNat]
  omega
theorem rd_new (w : World) (bs : List (BitVec 8)) (fr : Nat × Nat) (h : bs.length ≤ 140737488355328) : Rd (w.alloc (.cells (vals bs).toArray 5 fr)) (some ⟨w.heap.size, 0, none⟩) bs.length bs := by
  refine ⟨rfl, h, fun _ => ⟨w.heap.size, 0, rfl, by simp, fun i hi => ?_⟩⟩
  rw [World.cell?_alloc_mark, Nat.zero_add]
  simpa using getD_vals bs i hi
theorem Got.rd {w : World} {base n cap : Nat} {a : Option Addr} {bs : List (BitVec 8)} (h : Own w base (.slice a n cap) bs) (hl : bs.length ≤ 140737488355328) : Rd w a n bs := by
  rcases h.2 with ⟨h1, h2⟩ | ⟨g, cap', cur, h1, _⟩
  · simp only [Value.slice.injEq] at h1
    obtain ⟨rfl, rfl, rfl⟩ := h1
    have : bs = [] := List.length_eq_zero_iff.1 h2
    subst this
    exact rd_nil _
  · simp only [Value.slice.injEq] at h1
    obtain ⟨rfl, h2, rfl⟩ := h1
    exact Own.rd h hl
theorem Got.nil {w : World} {base n cap : Nat} {a : Option Addr} {bs : List (BitVec 8)} (h : Own w base (.slice a n cap) bs) (ha : a = none) : n = 0 ∧ cap = 0 := by
  subst ha
  rcases h.2 with ⟨h1, h2⟩ | ⟨g, cap', cur, h1, _⟩
  · simp only [Value.slice.injEq, true_and] at h1
    exact h1
  · simp at h1
theorem Got.cap {w : World} {base n cap : Nat} {a : Option Addr} {bs : List (BitVec 8)} (h : Own w base (.slice a n cap) bs) : n ≤ cap ∧ n = bs.length := by
  rcases h.2 with ⟨h1, h2⟩ | ⟨g, cap', cur, h1, _, _, h3, _⟩
  · simp only [Value.slice.injEq] at h1
    omega
  · simp only [Value.slice.injEq] at h1
    omega
theorem Rd.cut {w : World} {a : Option Addr} {len : Nat} {bs : List (BitVec 8)} (h : Rd w a len bs) (m : Nat) (hm : m ≤ len) : Rd w a m (bs.take m) := by
  obtain ⟨h1, h2, h3⟩ := h
  refine ⟨by rw [List.length_take]; omega, by omega, fun hp => ?_⟩
  obtain ⟨b, off, rfl, hlt, hc⟩ := h3 (by omega)
  refine ⟨b, off, rfl, hlt, fun i hi => ?_⟩
  rw [hc i (by omega), List.getD_eq_getElem?_getD, List.getD_eq_getElem?_getD, List.getElem?_take, if_pos hi]
theorem Rd.from {w : World} {b off len : Nat} {bs : List (BitVec 8)} (h : Rd w (some ⟨b, off, none⟩) len bs) (m : Nat) (hm : m ≤ len) : Rd w (some ⟨b, off + m, none⟩) (len - m) (bs.drop m) := by
  obtain ⟨h1, h2, h3⟩ := h
  refine ⟨by rw [List.length_drop]; omega, by omega, fun hp => ?_⟩
  obtain ⟨b', off', e, hlt, hc⟩ := h3 (by omega)
  cases e
  refine ⟨b, off + m, rfl, hlt, fun i hi => ?_⟩
  rw [show off + m + i = off + (m + i) by omega, hc (m + i) (by omega), List.getD_eq_getElem?_getD, List.getD_eq_getElem?_getD, List.getElem?_drop]
theorem Own.heap {w : World} {base g n : Nat} {bs : List (BitVec 8)} (h : Own w base (.slice (some ⟨g, 0, none⟩) n n) bs) : w.heap[g]? = some (.cells (vals bs).toArray 5) := by
  have hn := h.len
  subst hn
  rcases h.2 with ⟨h1, _⟩ | ⟨g', cap', cur, e1, e2, e3, e4, e5, e6, e7⟩
  · simp at h1
  · simp only [Value.slice.injEq, Option.some.injEq, Addr.mk.injEq, and_true, true_and] at e1
    obtain ⟨rfl, rfl⟩ := e1
    rw [List.take_of_length_le (by simp; omega)] at e7
    rw [e3, ← e7]
theorem own_heap {w : World} {base g : Nat} {bs : List (BitVec 8)} (h : w.heap[g]? = some (.cells (vals bs).toArray 5)) (hb : base ≤ g) (hm : bs.length ≤ maxLen) : Own w base (.slice (some ⟨g, 0, none⟩) bs.length bs.length) bs :=
  ⟨by rw [length_vals]; omega, .inr ⟨g, bs.length, _, rfl, hb, h, Nat.le_refl _, hm, by simp [length_vals], by rw [List.take_of_length_le (by simp [length_vals])]⟩⟩
theorem info1 : (Tryd.prog.info? 5).map (·.size) = some 1 := by kernel_rfl
theorem vals_replicate (n : Nat) : (madeCells (Value.int .u8 0).cells (n * 1)).toList = vals (List.replicate n (BitVec.ofNat 8 0)) := by
  rw [show (Value.int .u8 0).cells = #[Value.int .u8 0] from rfl, toList_madeCells_one]
  simp [vals, V8]
theorem vals_one (bs : List (BitVec 8)) : ∀ v ∈ vals bs, v.oneCell' = true := by
  intro v hv
  simp only [vals, List.mem_map] at hv
  obtain ⟨c, _, rfl⟩ := hv
  rfl
theorem Rd.cells {w : World} {b off len : Nat} {bs : List (BitVec 8)} (h : Rd w (some ⟨b, off, none⟩) len bs) (j : Nat) (v : Value) (hv : (vals bs)[j]? = some v) : w.cell? ((⟨b, off, none⟩ : Addr).add j) = some v := by
  obtain ⟨h1, h2, h3⟩ := h
  have hj : j < bs.length := by
    have := (List.getElem?_eq_some_iff.1 hv).1
    rwa [length_vals] at this
  obtain ⟨b', off', e, hlt, hc⟩ := h3 (by omega)
  cases e
  rw [getD_vals bs j hj] at hv
  cases hv
  rw [show (⟨b, off, none⟩ : Addr).add j = ⟨b, off + j, none⟩ by simp [Addr.add]]
  exact hc j (by omega)
theorem splice_all (cur cs : List Value) (h : cs.length = cur.length) : splice cur 0 cs = cs := by
  unfold splice; rw [Nat.zero_add, h, List.drop_length]; simp
theorem Rd.cellsAt {w : World} {a : Option Addr} {len : Nat} {bs : List (BitVec 8)} (h : Rd w a len bs) (ad : Addr) (had : a = some ad) (j : Nat) (v : Value) (hv : (vals bs)[j]? = some v) : w.cell? (ad.add j) = some v := by
  obtain ⟨h1, h2, h3⟩ := h
  have hj : j < bs.length := by
    have := (List.getElem?_eq_some_iff.1 hv).1
    rwa [length_vals] at this
  obtain ⟨b', off', e, hlt, hc⟩ := h3 (by omega)
  rw [had] at e
  cases e
  rw [getD_vals bs j hj] at hv
  cases hv
  rw [show (⟨b', off', none⟩ : Addr).add j = ⟨b', off' + j, none⟩ by simp [Addr.add]]
  exact hc j (by omega)
/-- What is handed back: a slice of the call's own memory, or nil. -/
def Got (w : World) (base : Nat) (v : Value) (bs : List (BitVec 8)) : Prop := ∃ a n cap, v = .slice a n cap ∧ n = bs.length ∧ Own w base v bs
/-- The same, with no room to spare. -/
def Fit (w : World) (base : Nat) (v : Value) (bs : List (BitVec 8)) : Prop := ∃ a n, v = .slice a n n ∧ n = bs.length ∧ Own w base v bs
theorem vals_append (a b : List (BitVec 8)) : vals (a ++ b) = vals a ++ vals b := by simp [vals]
theorem own_append {w : World} {base n : Nat} {v : Value} {a b : List (BitVec 8)} (h : w.ownsRow base 5 1 v n (vals a ++ vals b)) (hn : n = a.length + b.length) : Own w base v (a ++ b) := by
  unfold Own
  rw [List.length_append, vals_append, ← hn]
  exact h
theorem own_shape {w : World} {base n : Nat} {v : Value} {xs : List Value} (h : w.ownsRow base 5 1 v (n + 1) xs) : ∃ g c, v = .slice (some ⟨g, 0, none⟩) (n + 1) c := by
  rcases h.2 with ⟨_, h2⟩ | ⟨g, c, cur, h1, _⟩
  · omega
  · exact ⟨g, c, h1⟩
theorem grown_new {w0 w w' : World} {r q : Option Nat} (h : w0.grownBy w r) (k : w.grownBy w' q) (hq : ∀ i, q = some i → w0.heap.size ≤ i) : w0.grownBy w' r :=
  ⟨k.os.trans h.os, k.tape.trans h.tape, k.output.trans h.output, Nat.le_trans h.size k.size, fun i hi hne => (k.block i (Nat.lt_of_lt_of_le hi h.size) (fun e => by have := hq i e.symm; omega)).trans (h.block i hi hne)⟩
theorem grown_alloc {w0 w : World} {r : Option Nat} (h : w0.grownBy w r) (o : Obj) : w0.grownBy (w.alloc o) r :=
  grown_new h (below_grown ((Below.refl _ _).alloc (Nat.le_refl _) o)) (fun i e => by cases e)
theorem own_empty (w : World) (base : Nat) (hb : base ≤ w.heap.size) : (w.alloc (.cells #[] 5)).ownsRow base 5 1 (.slice (some ⟨w.heap.size, 0, none⟩) 0 0) 0 [] :=
  World.ownsRow_lit w #[] 0 hb (by unfold maxLen; omega) rfl
theorem own_any_shape {w : World} {base n : Nat} {v : Value} {xs : List Value} (h : w.ownsRow base 5 1 v n xs) : ∃ a c, v = .slice a n c := by
  rcases h.2 with ⟨h1, h2⟩ | ⟨g, c, cur, h1, _⟩
  · subst h2; exact ⟨_, _, h1⟩
  · exact ⟨_, _, h1⟩
theorem keep {w w' : World} {base : Nat} {v : Value} {bs : List (BitVec 8)} {q : Option Nat} (h : Own w base v bs) (hg : w.grownBy w' q) (hne : ∀ i j, v.ownBlock = some i → q = some j → i ≠ j) : Own w' base v bs := by
  refine World.ownsRow.kept (row := q) h hg ?_
  cases hv : v.ownBlock with
  | none => exact .inl rfl
  | some i => exact .inr (fun e => hne i i hv e.symm rfl)
theorem blk {w : World} {base : Nat} {v : Value} {bs : List (BitVec 8)} (h : Own w base v bs) : ∀ i, v.ownBlock = some i → base ≤ i ∧ i < w.heap.size := fun i e => World.ownsRow.lt h i e
theorem blk_eq {g n c i : Nat} (e : (Value.slice (some ⟨g, 0, none⟩) n c).ownBlock = some i) : i = g := (Option.some.inj e).symm
/-- append onto a slice of the call's own, as one step of a region that draws its order. -/
theorem step_append_own {P : Program} {ops : Array Oper} {o : Oper} {a : Act} {w : World} {K : Act → World → Prop} {Q : Exit → Act → World → Prop} {E : Prop} (hg : o.guard = none) (s x : Operand) (t : TypeId)
    (ho : o.op = .call { callee := .builtin .append, args := #[s, x], argTypes := #[t, t] })
    (base : Nat) (e : TypeId) (i : TypeInfo) (z : Value) (size bytes : Nat) (ht : P.underlying t = some (.slice e)) (hi : P.info? e = some i) (hz : i.zero = some z)
    (hsize : i.size = size) (hby : i.bytes = bytes) (hzs : z.cells.size = size) (hsz : 0 < size)
    (v : Value) (n : Nat) (xs : List Value) (hs : a.eval s = v) (hown : w.ownsRow base e size v n xs)
    (ad : Addr) (m c : Nat) (news : List Value) (hx : a.eval x = .slice (some ad) m c) (hl : news.length = m * size) (hnews : ∀ j u, news[j]? = some u → w.cell? (ad.add j) = some u) (h1 : ∀ u ∈ news, u.oneCell' = true)
    (hmax : n + m ≤ maxLen) (hbytes : (n + m) * bytes ≤ 140737488355328) (hbase : base ≤ w.heap.size)
    (h : ∀ v' w', w'.ownsRow base e size v' (n + m) (xs ++ news) → w.grownBy w' v.ownBlock → (v' = .slice none 0 0 ↔ v = .slice none 0 0 ∧ m = 0) → K (a.put o.dst v') w') :
    if Region.wanted o (yielded ops a.tmps) = true then Oper.wp P o a w K Q else E := by
  have hw : Region.wanted o (yielded ops a.tmps) = true := by simp [Region.wanted, hg]
  rw [if_pos hw]
  exact wp_append_own w s x t ho base e i z size bytes ht hi hz hsize hby hzs hsz v n xs hs hown ad m c news hx hl hnews h1 hmax hbytes hbase h
theorem own_blk {w : World} {base : Nat} {v : Value} {bs : List (BitVec 8)} (h : Own w base v bs) : ∀ k, v.ownBlock = some k → base ≤ k := fun k e => (World.ownsRow.lt h k e).1
theorem bxor_u8 (x y : BitVec 8) : bits .xor .u8 (x.toNat : Int) (y.toNat : Int) = ((x ^^^ y).toNat : Int) := by
  rw [u8_xor_nat _ _ (lt8 x) (lt8 y), BitVec.toNat_xor]
theorem grown_cell {w0 w : World} {g : Nat} (h : w0.grownBy w (some g)) (k : Nat) (v : Value) : w0.grownBy (w.setCell ⟨g, k, none⟩ v) (some g) :=
  ⟨h.os, h.tape, h.output, by simp [World.setCell]; exact h.size, fun i hi hne => by
    rw [Below.heap_setCell _ _ _ _ (fun e => hne (by rw [e]))]; exact h.block i hi hne⟩
theorem grown_of_below {w w' : World} {r : Option Nat} (hb : Below w.heap.size w w') : w.grownBy w' r := ⟨hb.os, hb.tape, hb.output, hb.size, fun k hk _ => hb.block k hk⟩
theorem bv_u64 {n : Int} (h : (Lit.int .u64 n).wf = true) : ∃ x : BitVec 64, n = (x.toNat : Int) := by
  have hb := bounds_u64 h
  obtain ⟨m, rfl⟩ := Int.eq_ofNat_of_zero_le hb.1
  refine ⟨BitVec.ofNat 64 m, ?_⟩
  rw [BitVec.toNat_ofNat]
  omega
theorem own_none (w : World) (base : Nat) : Own w base (.slice none 0 0) [] := ⟨by simp [vals], .inl ⟨rfl, rfl⟩⟩
theorem Own.shape {w : World} {base : Nat} {v : Value} {bs : List (BitVec 8)} (h : Own w base v bs) : ∃ a c, v = .slice a bs.length c := own_any_shape h
theorem Own.room {w : World} {base n cap : Nat} {a : Option Addr} {bs : List (BitVec 8)} (h : Own w base (.slice a n cap) bs) : cap ≤ 9223372036854775807 := by
  rcases h.2 with ⟨h1, _⟩ | ⟨_, _, _, h1, _, _, _, h2, _⟩
  · simp only [Value.slice.injEq] at h1; omega
  · simp only [Value.slice.injEq] at h1; unfold maxLen at h2; omega
end Go.Proofs.YtgpfabblmoffiaaDoor.Base
