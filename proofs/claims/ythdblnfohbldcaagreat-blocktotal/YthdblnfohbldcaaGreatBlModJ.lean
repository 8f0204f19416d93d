/-
  What the walks share: slices that read as bytes, slices of the call's own memory, what becomes of them as memory grows.
-/
import Derived.Test.YthdblnfohbldcaaGreatProg
import Derived.WalkKit
import Derived.Deep.QuietTactic
import Derived.BigQuiet
import Derived.WalkSmall
import Derived.ProofKit
import Derived.OpenShut
import Derived.SizedLaws
import Derived.Below
import Derived.Maps.AppendAt
import Derived.Lib.SlBytesConst
import Derived.Laws.AppendOwnNone
import Derived.Laws.CopyOwn
import Derived.Deep.RegionLaw
import Derived.Deep.RegionHeld
import Derived.ArgAppend
import Derived.WalkArith
import Derived.Laws.ResultCell
import Derived.Test.YthdblnfohbldcaaGreatCrcHalvesJ
namespace Go.Proofs.YthdblnfohbldcaaGreat.Base
open Go.ChangeShapes Go.WideShapes Go.ChangeAt Go.RowKit
theorem hide {p : Prop} (h : p) : Hid p := h
theorem unhide {p : Prop} (h : Hid p) : p := h
/-- The slice 'a, len' reads as the bytes 'bs' in the world 'w'. -/
def Rd (w : World) (a : Option Addr) (len : Nat) (bs : List (BitVec 8)) : Prop :=
  bs.length = len ∧ len ≤ 140737488355328 ∧ (0 < len → ∃ b off, a = some ⟨b, off, none⟩ ∧ b < w.heap.size ∧ ∀ i, i < len → w.cell? ⟨b, off + i, none⟩ = some (.int .u8 ((bs.getD i 0).toNat : Int)))
theorem bcell {B : Nat} {W w1 : World} (hb : Below B W w1) : (∀ b o, b < B → w1.cell? ⟨b, o, none⟩ = W.cell? ⟨b, o, none⟩) ∧ (∀ b o, b < B → w1.frozen? ⟨b, o, none⟩ = W.frozen? ⟨b, o, none⟩) :=
  ⟨fun b o h => hb.cell (p := ⟨b, o, none⟩) h, fun b o h => hb.frozen (p := ⟨b, o, none⟩) h⟩
theorem getD_take (bs : List (BitVec 8)) (k : Nat) (h : k < bs.length) : bs.take (k + 1) = bs.take k ++ [bs.getD k 0] := by
  rw [List.take_succ_eq_append_getElem h, List.getD_eq_getElem?_getD, List.getElem?_eq_getElem h]; rfl
theorem lt32 (x : BitVec 32) : x.toNat < 4294967296 := x.isLt
theorem lt8 (x : BitVec 8) : x.toNat < 256 := x.isLt
theorem ret_int {k : IntKind} {a b : Int} (h : a = b) : Ending.returned (.int k a) = .returned (.int k b) := by rw [h]
theorem val_int {k : IntKind} {a b : Int} (h : a = b) : Value.int k a = .int k b := by rw [h]
def V8 (c : BitVec 8) : Value := .int .u8 (c.toNat : Int)
def vals (bs : List (BitVec 8)) : List Value := bs.map V8
/-- The slice 'v' leads to a row of the call's own, from block 'base' on, and reads as 'bs'. -/
def Own (w : World) (base : Nat) (v : Value) (bs : List (BitVec 8)) : Prop := w.ownsRow base 5 1 v bs.length (vals bs)
theorem length_vals (bs : List (BitVec 8)) : (vals bs).length = bs.length := by simp [vals]
theorem getD_vals (bs : List (BitVec 8)) (i : Nat) (h : i < bs.length) : (vals bs)[i]? = some (.int .u8 ((bs.getD i 0).toNat : Int)) := by
  rw [vals, List.getElem?_map, List.getElem?_eq_getElem h, List.getD_eq_getElem?_getD, List.getElem?_eq_getElem h]; rfl
theorem Own.rd {w : World} {base g n cap : Nat} {bs : List (BitVec 8)} (h : Own w base (.slice (some ⟨g, 0, none⟩) n cap) bs) (hl : bs.length ≤ 140737488355328) : Rd w (some ⟨g, 0, none⟩) n bs := by
  have hn : n = bs.length := by
    rcases h.2 with ⟨h1, _⟩ | ⟨_, _, _, h1, _⟩
    · simp at h1
    · simp at h1; exact h1.2.1
  subst hn
  refine ⟨rfl, hl, fun hp => ⟨g, 0, rfl, (h.lt g rfl).2, fun i hi => ?_⟩⟩
  rw [Nat.zero_add, h.cellAt i (by omega), getD_vals bs i hi]
theorem take_eq_iff (xs ys : List (BitVec 8)) (k : Nat) (h1 : k < xs.length) (h2 : k < ys.length) (h : xs.take k = ys.take k) (e : xs.getD k 0 = ys.getD k 0) : xs.take (k + 1) = ys.take (k + 1) := by
  rw [getD_take xs k h1, getD_take ys k h2, h, e]
theorem ret_bool {a b : Bool} (h : a = b) : Ending.returned (.bool a) = .returned (.bool b) := by rw [h]
theorem below_drewN' (B : Nat) (w : World) (n : Nat) : Below B w (w.drewN n) := below_drewN (Below.refl _ _) n
theorem info8 : (Tryz.prog.info? 5).map (fun i => (i.zero, i.size, i.bytes)) = some (some (.int .u8 0), 1, 1) := by kernel_rfl
theorem vals_set (bs : List (BitVec 8)) (k : Nat) (c : BitVec 8) : (vals bs).set k (.int .u8 (c.toNat : Int)) = vals (bs.set k c) := by
  simp [vals, V8, List.map_set]
theorem Own.len {w : World} {base g n cap : Nat} {bs : List (BitVec 8)} (h : Own w base (.slice (some ⟨g, 0, none⟩) n cap) bs) : n = bs.length := by
  rcases h.2 with ⟨h1, _⟩ | ⟨_, _, _, h1, _⟩
  · simp at h1
  · simp at h1; exact h1.2.1
theorem Own.cell {w : World} {base g n cap : Nat} {bs : List (BitVec 8)} (h : Own w base (.slice (some ⟨g, 0, none⟩) n cap) bs) (k : Nat) (hk : k < n) :
    w.cell? ⟨g, k, none⟩ = some (.int .u8 ((bs.getD k 0).toNat : Int)) := by
  have hn := h.len
  subst hn
  rw [World.ownsRow.cellAt h k (by omega), getD_vals bs k hk]
theorem Own.frozen {w : World} {base g n cap : Nat} {bs : List (BitVec 8)} (h : Own w base (.slice (some ⟨g, 0, none⟩) n cap) bs) (k : Nat) : w.frozen? ⟨g, k, none⟩ = false := by
  have hn := h.len
  subst hn
  exact World.ownsRow.frozenAt h k
theorem Own.store {w : World} {base g n cap : Nat} {bs : List (BitVec 8)} (h : Own w base (.slice (some ⟨g, 0, none⟩) n cap) bs) (k : Nat) (c : BitVec 8) :
    Own (w.setCell ⟨g, k, none⟩ (.int .u8 (c.toNat : Int))) base (.slice (some ⟨g, 0, none⟩) n cap) (bs.set k c) ∧ w.grownBy (w.setCell ⟨g, k, none⟩ (.int .u8 (c.toNat : Int))) (some g) := by
  have hn : n = bs.length := by
    rcases h.2 with ⟨h1, _⟩ | ⟨_, _, _, h1, _⟩
    · simp at h1
    · simp at h1; exact h1.2.1
  subst hn
  have := World.ownsRow.stored h k (.int .u8 (c.toNat : Int))
  unfold Own
  rw [List.length_set, ← vals_set]
  exact this
theorem grown_trans {w0 w1 w2 : World} {r : Option Nat} (h : w0.grownBy w1 r) (k : w1.grownBy w2 r) : w0.grownBy w2 r :=
  ⟨k.os.trans h.os, k.tape.trans h.tape, k.output.trans h.output, Nat.le_trans h.size k.size, fun i hi hne => (k.block i (Nat.lt_of_lt_of_le hi h.size) hne).trans (h.block i hi hne)⟩
theorem own : ownKnob Tryz.prog.godebug = none := by kernel_rfl
theorem laidOut : laidOutB Tryz.prog = true := by kernel_rfl
theorem bytes8 : Tryz.prog.bytesOf 5 = 1 := by kernel_rfl
theorem rd_nil (w : World) : Rd w none 0 [] := ⟨rfl, by omega, fun h => absurd h (by omega)⟩
theorem rd_zero (w : World) (a : Option Addr) : Rd w a 0 [] := ⟨rfl, by omega, fun h => absurd h (by omega)⟩
theorem wf_u8 {n : Int} (h : (Lit.int .u8 n).wf = true) : 0 ≤ n ∧ n < 256 := by
  have := bounds_u8 h
  omega
theorem rd_row {w : World} {x : Addr} {l c : Nat} {zs : List Int} (hl : l ≤ c) (hz : zs.length = c) (hcell : ∀ i, i < zs.length → w.cell? (x.add i) = some (.int .u8 (zs.getD i 0)))
    (hwz : ∀ n ∈ zs, (Lit.int .u8 n).wf = true) (hc : c ≤ 140737488351232) : ∃ bs, Rd w (some x) l bs := by
  refine ⟨(zs.take l).map (BitVec.ofInt 8), by simp; omega, by omega, fun hp => ?_⟩
  obtain ⟨b, off, spot⟩ := x
  have h0 := hcell 0 (by omega)
  have hspot : spot = none := by simpa [Addr.add] using World.cell?_spot h0
  subst hspot
  refine ⟨b, off, rfl, ?_, fun i hi => ?_⟩
  · have := block_lt_of_cell h0
    simpa [Addr.add] using this
  · have h := hcell i (by omega)
    rw [show (⟨b, off, none⟩ : Addr).add i = ⟨b, off + i, none⟩ by simp [Addr.add]] at h
    rw [h]
    have hlt : i < zs.length := by omega
    have hm : zs.getD i 0 ∈ zs := by
      rw [List.getD_eq_getElem?_getD, List.getElem?_eq_getElem hlt]; exact List.getElem_mem hlt
    obtain ⟨n0, n1⟩ := wf_u8 (hwz _ hm)
    have e : ((zs.take l).map (BitVec.ofInt 8)).getD i 0 = BitVec.ofInt 8 (zs.getD i 0) := by
      rw [List.getD_eq_getElem?_getD, List.getElem?_map, List.getElem?_take, if_pos hi, List.getD_eq_getElem?_getD, List.getElem?_eq_getElem hlt]; rfl
    rw [e]
    generalize zs.getD i 0 = n at n0 n1
    obtain ⟨m, rfl⟩ := Int.eq_ofNat_of_zero_le n0
    rw [ofInt_u8 m (by omega)]
theorem Rd.below {w w' : World} {a : Option Addr} {len : Nat} {bs : List (BitVec 8)} (h : Rd w a len bs) (hb : Below w.heap.size w w') : Rd w' a len bs := by
  obtain ⟨h1, h2, h3⟩ := h
  refine ⟨h1, h2, fun hp => ?_⟩
  obtain ⟨b, off, rfl, hlt, hc⟩ := h3 hp
  refine ⟨b, off, rfl, Nat.lt_of_lt_of_le hlt hb.size, fun i hi => ?_⟩
  rw [hb.cell (p := ⟨b, off + i, none⟩) hlt]
  exact hc i hi
theorem below_grown {w w' : World} (hb : Below w.heap.size w w') : w.grownBy w' none :=
  ⟨hb.os, hb.tape, hb.output, hb.size, fun k hk _ => hb.block k hk⟩
theorem Own.below {w w' : World} {base : Nat} {v : Value} {bs : List (BitVec 8)} (h : Own w base v bs) (hb : Below w.heap.size w w') : Own w' base v bs := by
  refine World.ownsRow.kept (row := none) h (below_grown hb) ?_
  cases hv : v.ownBlock with
  | none => exact .inl rfl
  | some k => exact .inr (by simp)
theorem Own.other {w w' : World} {base g n cap g' : Nat} {bs : List (BitVec 8)} (h : Own w base (.slice (some ⟨g, 0, none⟩) n cap) bs) (hb : w.grownBy w' (some g')) (hne : g ≠ g') : Own w' base (.slice (some ⟨g, 0, none⟩) n cap) bs :=
  World.ownsRow.kept (row := some g') h hb (.inr (by simp [Value.ownBlock, hne]))
theorem Own.lt' {w : World} {base g n cap : Nat} {bs : List (BitVec 8)} (h : Own w base (.slice (some ⟨g, 0, none⟩) n cap) bs) : base ≤ g ∧ g < w.heap.size := World.ownsRow.lt h g rfl
theorem Own.mono {w : World} {base base' : Nat} {v : Value} {bs : List (BitVec 8)} (h : Own w base v bs) (hb : base' ≤ base) : Own w base' v bs := by
  obtain ⟨h1, h2⟩ := h
  refine ⟨h1, ?_⟩
  rcases h2 with h2 | ⟨g, cap, cur, e1, e2, e3⟩
  · exact .inl h2
  · exact .inr ⟨g, cap, cur, e1, Nat.le_trans hb e2, e3⟩
/-- The first m of an own slice: 'v[:m]'. -/
theorem Own.cut {w : World} {base g n cap : Nat} {bs : List (BitVec 8)} (h : Own w base (.slice (some ⟨g, 0, none⟩) n cap) bs) (m : Nat) (hm : m ≤ n) : Own w base (.slice (some ⟨g, 0, none⟩) m cap) (bs.take m) := by
  have hn := h.len
  subst hn
  obtain ⟨h1, h2⟩ := h
  have hl : (bs.take m).length = m := by rw [List.length_take]; omega
  unfold Own
  rw [hl]
  refine ⟨by rw [length_vals, hl]; omega, ?_⟩
  rcases h2 with ⟨h2, _⟩ | ⟨g', cap', cur, e1, e2, e3, e4, e5, e6, e7⟩
  · simp at h2
  · simp only [Value.slice.injEq, Option.some.injEq, Addr.mk.injEq, and_true, true_and] at e1
    obtain ⟨rfl, rfl⟩ := e1
    refine .inr ⟨g, cap, cur, rfl, e2, e3, by omega, e5, e6, ?_⟩
    rw [Nat.mul_one] at e7 ⊢
    have : (cur.toList.take bs.length).take m = (vals bs).take m := by rw [e7]
    rw [List.take_take, Nat.min_eq_left hm] at this
    rw [this, vals, vals, List.map_take]
theorem Own.cap {w : World} {base g n cap : Nat} {bs : List (BitVec 8)} (h : Own w base (.slice (some ⟨g, 0, none⟩) n cap) bs) : n ≤ cap := by
  rcases h.2 with ⟨h1, _⟩ | ⟨_, _, _, h1, _, _, h2, _⟩
  · simp at h1
  · simp at h1; omega
theorem grown_below {w0 w w' : World} {g : Nat} (hb : Below w0.heap.size w0 w) (hg : w.grownBy w' (some g)) (h : w0.heap.size ≤ g) : Below w0.heap.size w0 w' :=
  hb.grown hg hb.size (fun k e => by cases e; exact h)
theorem below_trans {w0 w w' : World} (hb : Below w0.heap.size w0 w) (hc : Below w.heap.size w w') : Below w0.heap.size w0 w' :=
  hb.trans (hc.mono hb.size)
theorem bv_u32 {n : Int} (h : (Lit.int .u32 n).wf = true) : ∃ x : BitVec 32, n = (x.toNat : Int) := by
  have hb := bounds_u32 h
  obtain ⟨m, rfl⟩ := Int.eq_ofNat_of_zero_le hb.1
  refine ⟨BitVec.ofNat 32 m, ?_⟩
  rw [BitVec.toNat_ofNat]
  omega
theorem rd_new (w : World) (bs : List (BitVec 8)) (fr : Nat × Nat) (h : bs.length ≤ 140737488355328) : Rd (w.alloc (.cells (vals bs).toArray 5 fr)) (some ⟨w.heap.size, 0, none⟩) bs.length bs := by
  refine ⟨rfl, h, fun _ => ⟨w.heap.size, 0, rfl, by simp, fun i hi => ?_⟩⟩
  rw [World.cell?_alloc_mark, Nat.zero_add]
  simpa using getD_vals bs i hi
theorem Got.rd {w : World} {base n cap : Nat} {a : Option Addr} {bs : List (BitVec 8)} (h : Own w base (.slice a n cap) bs) (hl : bs.length ≤ 140737488355328) : Rd w a n bs := by
  rcases h.2 with ⟨h1, h2⟩ | ⟨g, cap', cur, h1, _⟩
  · simp only [Value.slice.injEq] at h1
    obtain ⟨rfl, rfl, rfl⟩ := h1
    have : bs = [] := List.length_eq_zero_iff.1 h2
    subst this
    exact rd_nil _
  · simp only [Value.slice.injEq] at h1
    obtain ⟨rfl, h2, rfl⟩ := h1
    exact Own.rd h hl
theorem Got.nil {w : World} {base n cap : Nat} {a : Option Addr} {bs : List (BitVec 8)} (h : Own w base (.slice a n cap) bs) (ha : a = none) : n = 0 ∧ cap = 0 := by
  subst ha
  rcases h.2 with ⟨h1, h2⟩ | ⟨g, cap', cur, h1, _⟩
  · simp only [Value.slice.injEq, true_and] at h1
    exact h1
  · simp at h1
theorem Got.cap {w : World} {base n cap : Nat} {a : Option Addr} {bs : List (BitVec 8)} (h : Own w base (.slice a n cap) bs) : n ≤ cap ∧ n = bs.length := by
  rcases h.2 with ⟨h1, h2⟩ | ⟨g, cap', cur, h1, _, _, h3, _⟩
  · simp only [Value.slice.injEq] at h1
    omega
  · simp only [Value.slice.injEq] at h1
    omega
theorem Rd.cut {w : World} {a : Option Addr} {len : Nat} {bs : List (BitVec 8)} (h : Rd w a len bs) (m : Nat) (hm : m ≤ len) : Rd w a m (bs.take m) := by
  obtain ⟨h1, h2, h3⟩ := h
  refine ⟨by rw [List.length_take]; omega, by omega, fun hp => ?_⟩
  obtain ⟨b, off, rfl, hlt, hc⟩ := h3 (by omega)
  refine ⟨b, off, rfl, hlt, fun i hi => ?_⟩
  rw [hc i (by omega), List.getD_eq_getElem?_getD, List.getD_eq_getElem?_getD, List.getElem?_take, if_pos hi]
theorem Rd.from {w : World} {b off len : Nat} {bs : List (BitVec 8)} (h : Rd w (some ⟨b, off, none⟩) len bs) (m : Nat) (hm : m ≤ len) : Rd w (some ⟨b, off + m, none⟩) (len - m) (bs.drop m) := by
  obtain ⟨h1, h2, h3⟩ := h
  refine ⟨by rw [List.length_drop]; omega, by omega, fun hp => ?_⟩
  obtain ⟨b', off', e, hlt, hc⟩ := h3 (by omega)
  cases e
  refine ⟨b, off + m, rfl, hlt, fun i hi => ?_⟩
  rw [show off + m + i = off + (m + i) by omega, hc (m + i) (by omega), List.getD_eq_getElem?_getD, List.getD_eq_getElem?_getD, List.getElem?_drop]
theorem Own.heap {w : World} {base g n : Nat} {bs : List (BitVec 8)} (h : Own w base (.slice (some ⟨g, 0, none⟩) n n) bs) : w.heap[g]? = some (.cells (vals bs).toArray 5) := by
  have hn := h.len
  subst hn
  rcases h.2 with ⟨h1, _⟩ | ⟨g', cap', cur, e1, e2, e3, e4, e5, e6, e7⟩
  · simp at h1
  · simp only [Value.slice.injEq, Option.some.injEq, Addr.mk.injEq, and_true, true_and] at e1
    obtain ⟨rfl, rfl⟩ := e1
    rw [List.take_of_length_le (by simp; omega)] at e7
    rw [e3, ← e7]
theorem own_heap {w : World} {base g : Nat} {bs : List (BitVec 8)} (h : w.heap[g]? = some (.cells (vals bs).toArray 5)) (hb : base ≤ g) (hm : bs.length ≤ maxLen) : Own w base (.slice (some ⟨g, 0, none⟩) bs.length bs.length) bs :=
  ⟨by rw [length_vals]; omega, .inr ⟨g, bs.length, _, rfl, hb, h, Nat.le_refl _, hm, by simp [length_vals], by rw [List.take_of_length_le (by simp [length_vals])]⟩⟩
theorem info1 : (Tryz.prog.info? 5).map (·.size) = some 1 := by kernel_rfl
theorem vals_replicate (n : Nat) : (madeCells (Value.int .u8 0).cells (n * 1)).toList = vals (List.replicate n (BitVec.ofNat 8 0)) := by
  rw [show (Value.int .u8 0).cells = #[Value.int .u8 0] from rfl, toList_madeCells_one]
  simp [vals, V8]
theorem vals_one (bs : List (BitVec 8)) : ∀ v ∈ vals bs, v.oneCell' = true := by
  intro v hv
  simp only [vals, List.mem_map] at hv
  obtain ⟨c, _, rfl⟩ := hv
  rfl
theorem Rd.cells {w : World} {b off len : Nat} {bs : List (BitVec 8)} (h : Rd w (some ⟨b, off, none⟩) len bs) (j : Nat) (v : Value) (hv : (vals bs)[j]? = some v) : w.cell? ((⟨b, off, none⟩ : Addr).add j) = some v := by
  obtain ⟨h1, h2, h3⟩ := h
  have hj : j < bs.length := by
    have := (List.getElem?_eq_some_iff.1 hv).1
    rwa [length_vals] at this
  obtain ⟨b', off', e, hlt, hc⟩ := h3 (by omega)
  cases e
  rw [getD_vals bs j hj] at hv
  cases hv
  rw [show (⟨b, off, none⟩ : Addr).add j = ⟨b, off + j, none⟩ by simp [Addr.add]]
  exact hc j (by omega)
theorem splice_all (cur cs : List Value) (h : cs.length = cur.length) : splice cur 0 cs = cs := by
  unfold splice; rw [Nat.zero_add, h, List.drop_length]; simp
theorem Rd.cellsAt {w : World} {a : Option Addr} {len : Nat} {bs : List (BitVec 8)} (h : Rd w a len bs) (ad : Addr) (had : a = some ad) (j : Nat) (v : Value) (hv : (vals bs)[j]? = some v) : w.cell? (ad.add j) = some v := by
  obtain ⟨h1, h2, h3⟩ := h
  have hj : j < bs.length := by
    have := (List.getElem?_eq_some_iff.1 hv).1
    rwa [length_vals] at this
  obtain ⟨b', off', e, hlt, hc⟩ := h3 (by omega)
  rw [had] at e
  cases e
  rw [getD_vals bs j hj] at hv
  cases hv
  rw [show (⟨b', off', none⟩ : Addr).add j = ⟨b', off' + j, none⟩ by simp [Addr.add]]
  exact hc j (by omega)
/-- 'copy' into a row that the call itself made, as long as it is. -/
theorem copy_into {w0 w1 : World} {base g n b off sLen cap : Nat} {zs bs : List (BitVec 8)} (ho : Own w1 base (.slice (some ⟨g, 0, none⟩) n n) zs) (hr : Rd w1 (some ⟨b, off, none⟩) n bs) (hs : n ≤ sLen)
    (hb : Below base w0 w1) (hm : n ≤ maxLen) : ∃ w2, (∀ ty, (Builtin.copy_ #[24, 24] ty #[.slice (some ⟨g, 0, none⟩) n n, .slice (some ⟨b, off, none⟩) sLen cap]).run Tryz.prog w1 = .ok (.int .i64 n) w2) ∧
      Hid (Own w2 base (.slice (some ⟨g, 0, none⟩) n n) bs) ∧ Hid (Below base w0 w2) := by
  have hn := ho.len
  have hl := hr.1
  have hg := ho.heap
  have hgb := ho.lt'
  refine ⟨w1.setRow g (vals bs).toArray, fun ty => ?_, ?_, below_setRow hb hgb.1 _⟩
  · have h := run_copy_row Tryz.prog w1 24 24 ty 5 g 0 n n ⟨b, off, none⟩ sLen cap (vals zs).toArray 5 (vals bs) Tryz.underlying24 info1 hg
      (by rw [length_vals, hl]; exact (Nat.min_eq_right hs).symm) (fun j v hv => hr.cells j v hv) (by simp [length_vals]; omega) (vals_one _)
    rw [h]
    have e1 : List.take 0 (vals zs).toArray.toList ++ vals bs ++ List.drop (0 + (vals bs).length) (vals zs).toArray.toList = vals bs := by
      have : List.drop (0 + (vals bs).length) (vals zs).toArray.toList = [] := List.drop_eq_nil_of_le (by simp [length_vals]; omega)
      rw [this]; simp
    rw [e1, length_vals, hl]
    rfl
  · have h := own_heap (base := base) (bs := bs) (setRow_heap w1 g _ (vals bs).toArray _ _ hg) hgb.1 (by omega)
    rw [hl] at h
    exact h
/-- What is handed back: a slice of the call's own memory, or nil. -/
def Got (w : World) (base : Nat) (v : Value) (bs : List (BitVec 8)) : Prop := ∃ a n cap, v = .slice a n cap ∧ n = bs.length ∧ Own w base v bs
/-- The same, with no room to spare. -/
def Fit (w : World) (base : Nat) (v : Value) (bs : List (BitVec 8)) : Prop := ∃ a n, v = .slice a n n ∧ n = bs.length ∧ Own w base v bs
theorem vals_append (a b : List (BitVec 8)) : vals (a ++ b) = vals a ++ vals b := by simp [vals]
theorem own_append {w : World} {base n : Nat} {v : Value} {a b : List (BitVec 8)} (h : w.ownsRow base 5 1 v n (vals a ++ vals b)) (hn : n = a.length + b.length) : Own w base v (a ++ b) := by
  unfold Own
  rw [List.length_append, vals_append, ← hn]
  exact h
theorem own_shape {w : World} {base n : Nat} {v : Value} {xs : List Value} (h : w.ownsRow base 5 1 v (n + 1) xs) : ∃ g c, v = .slice (some ⟨g, 0, none⟩) (n + 1) c := by
  rcases h.2 with ⟨_, h2⟩ | ⟨g, c, cur, h1, _⟩
  · omega
  · exact ⟨g, c, h1⟩
theorem grown_new {w0 w w' : World} {r q : Option Nat} (h : w0.grownBy w r) (k : w.grownBy w' q) (hq : ∀ i, q = some i → w0.heap.size ≤ i) : w0.grownBy w' r :=
  ⟨k.os.trans h.os, k.tape.trans h.tape, k.output.trans h.output, Nat.le_trans h.size k.size, fun i hi hne => (k.block i (Nat.lt_of_lt_of_le hi h.size) (fun e => by have := hq i e.symm; omega)).trans (h.block i hi hne)⟩
theorem grown_alloc {w0 w : World} {r : Option Nat} (h : w0.grownBy w r) (o : Obj) : w0.grownBy (w.alloc o) r :=
  grown_new h (below_grown ((Below.refl _ _).alloc (Nat.le_refl _) o)) (fun i e => by cases e)
theorem own_empty (w : World) (base : Nat) (hb : base ≤ w.heap.size) : (w.alloc (.cells #[] 5)).ownsRow base 5 1 (.slice (some ⟨w.heap.size, 0, none⟩) 0 0) 0 [] :=
  World.ownsRow_lit w #[] 0 hb (by unfold maxLen; omega) rfl
theorem own_any_shape {w : World} {base n : Nat} {v : Value} {xs : List Value} (h : w.ownsRow base 5 1 v n xs) : ∃ a c, v = .slice a n c := by
  rcases h.2 with ⟨h1, h2⟩ | ⟨g, c, cur, h1, _⟩
  · subst h2; exact ⟨_, _, h1⟩
  · exact ⟨_, _, h1⟩
theorem keep {w w' : World} {base : Nat} {v : Value} {bs : List (BitVec 8)} {q : Option Nat} (h : Own w base v bs) (hg : w.grownBy w' q) (hne : ∀ i j, v.ownBlock = some i → q = some j → i ≠ j) : Own w' base v bs := by
  refine World.ownsRow.kept (row := q) h hg ?_
  cases hv : v.ownBlock with
  | none => exact .inl rfl
  | some i => exact .inr (fun e => hne i i hv e.symm rfl)
theorem blk {w : World} {base : Nat} {v : Value} {bs : List (BitVec 8)} (h : Own w base v bs) : ∀ i, v.ownBlock = some i → base ≤ i ∧ i < w.heap.size := fun i e => World.ownsRow.lt h i e
theorem blk_eq {g n c i : Nat} (e : (Value.slice (some ⟨g, 0, none⟩) n c).ownBlock = some i) : i = g := (Option.some.inj e).symm
/-- append onto a slice of the call's own, as one step of a region that draws its order. -/
theorem step_append_own {P : Program} {ops : Array Oper} {o : Oper} {a : Act} {w : World} {K : Act → World → Prop} {Q : Exit → Act → World → Prop} {E : Prop} (hg : o.guard = none) (s x : Operand) (t : TypeId)
    (ho : o.op = .call { callee := .builtin .append, args := #[s, x], argTypes := #[t, t] })
    (base : Nat) (e : TypeId) (i : TypeInfo) (z : Value) (size bytes : Nat) (ht : P.underlying t = some (.slice e)) (hi : P.info? e = some i) (hz : i.zero = some z)
    (hsize : i.size = size) (hby : i.bytes = bytes) (hzs : z.cells.size = size) (hsz : 0 < size)
    (v : Value) (n : Nat) (xs : List Value) (hs : a.eval s = v) (hown : w.ownsRow base e size v n xs)
    (ad : Addr) (m c : Nat) (news : List Value) (hx : a.eval x = .slice (some ad) m c) (hl : news.length = m * size) (hnews : ∀ j u, news[j]? = some u → w.cell? (ad.add j) = some u) (h1 : ∀ u ∈ news, u.oneCell' = true)
    (hmax : n + m ≤ maxLen) (hbytes : (n + m) * bytes ≤ 140737488355328) (hbase : base ≤ w.heap.size)
    (h : ∀ v' w', w'.ownsRow base e size v' (n + m) (xs ++ news) → w.grownBy w' v.ownBlock → (v' = .slice none 0 0 ↔ v = .slice none 0 0 ∧ m = 0) → K (a.put o.dst v') w') :
    if Region.wanted o (yielded ops a.tmps) = true then Oper.wp P o a w K Q else E := by
  have hw : Region.wanted o (yielded ops a.tmps) = true := by simp [Region.wanted, hg]
  rw [if_pos hw]
  exact wp_append_own w s x t ho base e i z size bytes ht hi hz hsize hby hzs hsz v n xs hs hown ad m c news hx hl hnews h1 hmax hbytes hbase h
theorem own_blk {w : World} {base : Nat} {v : Value} {bs : List (BitVec 8)} (h : Own w base v bs) : ∀ k, v.ownBlock = some k → base ≤ k := fun k e => (World.ownsRow.lt h k e).1
theorem bxor_u8 (x y : BitVec 8) : bits .xor .u8 (x.toNat : Int) (y.toNat : Int) = ((x ^^^ y).toNat : Int) := by
  rw [u8_xor_nat _ _ (lt8 x) (lt8 y), BitVec.toNat_xor]
theorem grown_cell {w0 w : World} {g : Nat} (h : w0.grownBy w (some g)) (k : Nat) (v : Value) : w0.grownBy (w.setCell ⟨g, k, none⟩ v) (some g) :=
  ⟨h.os, h.tape, h.output, by simp [World.setCell]; exact h.size, fun i hi hne => by
    rw [Below.heap_setCell _ _ _ _ (fun e => hne (by rw [e]))]; exact h.block i hi hne⟩
theorem grown_of_below {w w' : World} {r : Option Nat} (hb : Below w.heap.size w w') : w.grownBy w' r := ⟨hb.os, hb.tape, hb.output, hb.size, fun k hk _ => hb.block k hk⟩
theorem bv_u64 {n : Int} (h : (Lit.int .u64 n).wf = true) : ∃ x : BitVec 64, n = (x.toNat : Int) := by
  have hb := bounds_u64 h
  obtain ⟨m, rfl⟩ := Int.eq_ofNat_of_zero_le hb.1
  refine ⟨BitVec.ofNat 64 m, ?_⟩
  rw [BitVec.toNat_ofNat]
  omega
theorem own_none (w : World) (base : Nat) : Own w base (.slice none 0 0) [] := ⟨by simp [vals], .inl ⟨rfl, rfl⟩⟩
theorem Own.shape {w : World} {base : Nat} {v : Value} {bs : List (BitVec 8)} (h : Own w base v bs) : ∃ a c, v = .slice a bs.length c := own_any_shape h
theorem Own.room {w : World} {base n cap : Nat} {a : Option Addr} {bs : List (BitVec 8)} (h : Own w base (.slice a n cap) bs) : cap ≤ 9223372036854775807 := by
  rcases h.2 with ⟨h1, _⟩ | ⟨_, _, _, h1, _, _, _, h2, _⟩
  · simp only [Value.slice.injEq] at h1; omega
  · simp only [Value.slice.injEq] at h1; unfold maxLen at h2; omega
/-- append of one byte onto a slice of the call's own. -/
theorem push {ops : Array Oper} {rest : List Oper} {o : Oper} {a : Act} {Q : Exit → Act → World → Prop} (w : World) (hgd : o.guard = none) (s x : Operand)
    (ho : o.op = .call { callee := .builtin .append, args := #[s, x], argTypes := #[24, 24] })
    (base : Nat) (v : Value) (bs : List (BitVec 8)) (hs : a.eval s = v) (hown : Own w base v bs) (ad : Addr) (cap : Nat) (c : BitVec 8) (hx : a.eval x = .slice (some ad) 1 cap)
    (hc : w.cell? (ad.add 0) = some (.int .u8 (c.toNat : Int))) (hl : bs.length + 1 ≤ 140737488355328) (hbase : base ≤ w.heap.size)
    (h : ∀ v' w', Own w' base v' (bs ++ [c]) → w.grownBy w' v.ownBlock → wpList Tryz.prog ops Q rest (a.put o.dst v') w') : wpList Tryz.prog ops Q (o :: rest) a w := by
  obtain ⟨i0, hi, hz0, hz1, hz2⟩ := info_parts info8
  refine wpList_append_own w hgd s x 24 ho base 5 i0 (.int .u8 0) 1 1 Tryz.underlying24 hi hz0 hz1 hz2 rfl (by omega) v bs.length (vals bs) hs hown ad 1 cap [.int .u8 (c.toNat : Int)] hx rfl ?_ (vals_one [c]) (by unfold maxLen; omega) (by omega) hbase ?_
  · intro j u hu
    cases j with
    | zero => simp at hu; subst hu; exact hc
    | succ j => simp at hu
  · intro v' w' h1 h2 _
    exact h v' w' (own_append (b := [c]) h1 rfl) h2
/-- append of a whole slice onto a slice of the call's own. -/
theorem join {ops : Array Oper} {rest : List Oper} {o : Oper} {a : Act} {Q : Exit → Act → World → Prop} (w : World) (hgd : o.guard = none) (s x : Operand)
    (ho : o.op = .call { callee := .builtin .append, args := #[s, x], argTypes := #[24, 24] })
    (base : Nat) (v : Value) (bs : List (BitVec 8)) (hs : a.eval s = v) (hown : Own w base v bs) (xa : Option Addr) (m cap : Nat) (cs : List (BitVec 8)) (hx : a.eval x = .slice xa m cap)
    (hr : Rd w xa m cs) (hnil : xa = none → m = 0 ∧ cap = 0) (hl : bs.length + m ≤ 140737488355328) (hbase : base ≤ w.heap.size)
    (h : ∀ v' w', Own w' base v' (bs ++ cs) → w.grownBy w' v.ownBlock → wpList Tryz.prog ops Q rest (a.put o.dst v') w') : wpList Tryz.prog ops Q (o :: rest) a w := by
  obtain ⟨i0, hi, hz0, hz1, hz2⟩ := info_parts info8
  have hcl := hr.1
  cases xa with
  | none =>
    obtain ⟨rfl, rfl⟩ := hnil rfl
    have : cs = [] := List.length_eq_zero_iff.1 hcl
    subst this
    refine wpList_append_own_none hgd s x 24 ho base 5 i0 1 Tryz.underlying24 hi v bs.length (vals bs) hs hown hx ?_
    exact h v w (by rw [List.append_nil]; exact hown) (World.grownBy.refl _ _)
  | some ad =>
    refine wpList_append_own w hgd s x 24 ho base 5 i0 (.int .u8 0) 1 1 Tryz.underlying24 hi hz0 hz1 hz2 rfl (by omega) v bs.length (vals bs) hs hown ad m cap (vals cs) hx (by rw [length_vals]; omega) (fun j u hu => hr.cellsAt ad rfl j u hu) (vals_one _) (by unfold maxLen; omega) (by omega) hbase ?_
    intro v' w' h1 h2 _
    exact h v' w' (own_append h1 (by omega)) h2
end Go.Proofs.YthdblnfohbldcaaGreat.Base
/-
  Short numbers and fixed words, said of lists of bytes.
-/
namespace Go.Proofs.YthdblnfohbldcaaGreat.Nums
open Go.Proofs.YthdblnfohbldcaaGreat.Base
def B8 (n : Nat) : BitVec 8 := BitVec.ofNat 8 n
theorem B8_toNat (n : Nat) (h : n < 256) : (B8 n).toNat = n := by unfold B8; rw [BitVec.toNat_ofNat]; omega
theorem B8_val (c : BitVec 8) : B8 c.toNat = c := by unfold B8; simp
/-- A short number, by at most so many digits. -/
def putF : Nat → Nat → List (BitVec 8)
  | 0, _ => []
  | f + 1, v => if v < 128 then [B8 v] else B8 (v % 128 + 128) :: putF f (v / 128)
theorem putF_any : ∀ (f g v : Nat), v < f → v < g → putF f v = putF g v
  | 0, _, _, h, _ => absurd h (by omega)
  | _ + 1, 0, _, _, h => absurd h (by omega)
  | f + 1, g + 1, v, h1, h2 => by
    unfold putF
    by_cases h : v < 128
    · rw [if_pos h, if_pos h]
    · rw [if_neg h, if_neg h, putF_any f g (v / 128) (by omega) (by omega)]
/-- A short number. -/
def put (v : Nat) : List (BitVec 8) := putF (v + 1) v
theorem put_small (v : Nat) (h : v < 128) : put v = [B8 v] := by
  unfold put putF
  rw [if_pos h]
theorem put_large (v : Nat) (h : 128 ≤ v) : put v = B8 (v % 128 + 128) :: put (v / 128) := by
  unfold put
  rw [show putF (v + 1) v = B8 (v % 128 + 128) :: putF v (v / 128) by unfold putF; rw [if_neg (by omega)]; cases v <;> rfl, putF_any v (v / 128 + 1) (v / 128) (by omega) (by omega)]
theorem put_length (n : Nat) : ∀ v, v < 128 ^ (n + 1) → 1 ≤ (put v).length ∧ (put v).length ≤ n + 1 := by
  induction n with
  | zero => intro v h; rw [put_small v (by simpa using h)]; simp
  | succ n ih =>
    intro v h
    by_cases hv : v < 128
    · rw [put_small v hv]; simp
    · rw [put_large v (by omega)]
      have := ih (v / 128) (by rw [Nat.div_lt_iff_lt_mul (by omega)]; rw [Nat.pow_succ] at h; exact h)
      simp only [List.length_cons]; omega
theorem put_nine (v : Nat) (h : v < 9223372036854775808) : 1 ≤ (put v).length ∧ (put v).length ≤ 9 := put_length 8 v (by omega)
/-- The number at the head: its value, how many bytes, the error. -/
def getFrom : Nat → Nat → List (BitVec 8) → Nat × Nat × Nat
  | i, _, [] => if 9 ≤ i then (0, 0, 21) else (0, 0, 20)
  | i, v, c :: cs => if 9 ≤ i then (0, 0, 21) else if c.toNat < 128 then (if c.toNat = 0 ∧ 0 < i then (0, 0, 21) else (v + c.toNat * 128 ^ i, i + 1, 0)) else getFrom (i + 1) (v + c.toNat % 128 * 128 ^ i) cs
def get (bs : List (BitVec 8)) : Nat × Nat × Nat := getFrom 0 0 bs
theorem lt_pow (i v d : Nat) (hv : v < 128 ^ i) (hd : d < 128) : v + d * 128 ^ i < 128 ^ (i + 1) := by
  rw [Nat.pow_succ]
  have : (d + 1) * 128 ^ i ≤ 128 * 128 ^ i := Nat.mul_le_mul_right _ (by omega)
  rw [Nat.add_mul] at this
  omega
/-- What is written is read, whatever stands behind it. -/
theorem getFrom_put (u : Nat) : ∀ (i v : Nat) (rest : List (BitVec 8)), (0 < i → 0 < u) → v < 128 ^ i → v + u * 128 ^ i < 9223372036854775808 →
    getFrom i v (put u ++ rest) = (v + u * 128 ^ i, i + (put u).length, 0) := by
  induction u using Nat.strongRecOn with
  | _ u ih =>
    intro i v rest h0 hv hm
    have hi : u = 0 ∨ ¬ 9 ≤ i := by
      by_cases hu : u = 0
      · exact .inl hu
      · right; intro h9
        have h1 : 128 ^ 9 ≤ 128 ^ i := Nat.pow_le_pow_right (by omega) h9
        have h2 : 1 * 128 ^ i ≤ u * 128 ^ i := Nat.mul_le_mul_right _ (by omega)
        have h3 : (128 : Nat) ^ 9 = 9223372036854775808 := by decide
        omega
    have hi9 : ¬ 9 ≤ i := by
      rcases hi with hu | h
      · intro h9; have := h0 (by omega); omega
      · exact h
    by_cases hu : u < 128
    · rw [put_small u hu]
      have e := B8_toNat u (by omega)
      simp only [List.cons_append, List.nil_append, getFrom, if_neg hi9, e, if_pos hu, List.length_cons, List.length_nil]
      rw [if_neg (by intro h; have := h0 h.2; omega)]
    · rw [put_large u (by omega)]
      have e := B8_toNat (u % 128 + 128) (by omega)
      have e2 : (u % 128 + 128) % 128 = u % 128 := by omega
      simp only [List.cons_append, getFrom, if_neg hi9, e, List.length_cons]
      rw [if_neg (by omega), e2]
      have key : v + u % 128 * 128 ^ i + u / 128 * 128 ^ (i + 1) = v + u * 128 ^ i := by
        have hu' : u = u % 128 + 128 * (u / 128) := by omega
        generalize u % 128 = r at hu' ⊢
        generalize u / 128 = q at hu' ⊢
        subst hu'
        rw [Nat.pow_succ, Nat.add_mul, Nat.mul_comm 128 q, Nat.mul_assoc, Nat.mul_comm (128 ^ i) 128]
        omega
      rw [ih (u / 128) (by omega) (i + 1) (v + u % 128 * 128 ^ i) rest (fun _ => by omega) (lt_pow i v _ hv (by omega)) (by rw [key]; exact hm), key]
      congr 2; omega
theorem get_put (u : Nat) (rest : List (BitVec 8)) (h : u < 9223372036854775808) : get (put u ++ rest) = (u, (put u).length, 0) := by
  have := getFrom_put u 0 0 rest (by omega) (by simp) (by simpa using h)
  simpa [get] using this
/-- Each answer of the reading, from the place i on. -/
theorem getFrom_cases (bs : List (BitVec 8)) : ∀ (i v : Nat), v < 128 ^ i →
    (∃ u m, getFrom i v bs = (v + u * 128 ^ i, i + m, 0) ∧ 1 ≤ m ∧ i + m ≤ 9 ∧ m ≤ bs.length ∧ put u = bs.take m ∧ u < 128 ^ m ∧ (0 < i → 0 < u)) ∨
    (getFrom i v bs = (0, 0, 20) ∧ i + bs.length ≤ 8 ∧ ∃ m k, getFrom i v (bs ++ [B8 1]) = (m, i + bs.length + 1, k) ∧ k = 0) ∨
    (getFrom i v bs = (0, 0, 21) ∧ getFrom i v (bs ++ [B8 1]) = (0, 0, 21)) := by
  induction bs with
  | nil =>
    intro i v hv
    have e := B8_toNat 1 (by omega)
    by_cases h9 : 9 ≤ i
    · right; right
      simp [getFrom, h9]
    · right; left
      refine ⟨by simp [getFrom, h9], by simp; omega, v + 1 * 128 ^ i, 0, ?_, rfl⟩
      simp [getFrom, h9, e]
  | cons c cs ih =>
    intro i v hv
    have hc := lt8 c
    by_cases h9 : 9 ≤ i
    · right; right
      simp [getFrom, h9]
    · by_cases h1 : c.toNat < 128
      · by_cases h0 : c.toNat = 0 ∧ 0 < i
        · right; right
          simp [getFrom, h9, h0]
        · left
          refine ⟨c.toNat, 1, by simp only [getFrom, if_neg h9, if_pos h1, if_neg h0], by omega, by omega, by simp, ?_, by omega, fun hi => by omega⟩
          rw [put_small _ h1, B8_val]; simp
      · have hlt := lt_pow i v (c.toNat % 128) hv (by omega)
        have e1 : getFrom i v (c :: cs) = getFrom (i + 1) (v + c.toNat % 128 * 128 ^ i) cs := by simp only [getFrom, if_neg h9, if_neg h1]
        have e2 : getFrom i v (c :: cs ++ [B8 1]) = getFrom (i + 1) (v + c.toNat % 128 * 128 ^ i) (cs ++ [B8 1]) := by
          rw [List.cons_append]; simp only [getFrom, if_neg h9, if_neg h1]
        rw [e1, e2]
        rcases ih (i + 1) _ hlt with ⟨u, m, g1, g2, g3, g4, g5, g6, g7⟩ | ⟨g1, g2, m, k, g3, g4⟩ | ⟨g1, g2⟩
        · left
          refine ⟨c.toNat % 128 + 128 * u, m + 1, ?_, by omega, by omega, by simp; omega, ?_, ?_, fun _ => by have := g7 (by omega); omega⟩
          · rw [g1]
            have : v + c.toNat % 128 * 128 ^ i + u * 128 ^ (i + 1) = v + (c.toNat % 128 + 128 * u) * 128 ^ i := by
              rw [Nat.pow_succ, Nat.add_mul, Nat.mul_comm 128 u, Nat.mul_assoc, Nat.mul_comm (128 ^ i) 128]; omega
            rw [this]; congr 2; omega
          · have hu := g7 (by omega)
            rw [put_large _ (by omega)]
            have a1 : (c.toNat % 128 + 128 * u) % 128 + 128 = c.toNat := by omega
            have a2 : (c.toNat % 128 + 128 * u) / 128 = u := by omega
            rw [a1, a2, g5, B8_val]; simp
          · rw [Nat.pow_succ]; omega
        · right; left
          refine ⟨g1, by simp; omega, m, k, ?_, g4⟩
          rw [g3]; congr 2; simp; omega
        · right; right
          exact ⟨g1, g2⟩
theorem pow_nine (m : Nat) (h : m ≤ 9) : 128 ^ m ≤ 9223372036854775808 := by
  have := Nat.pow_le_pow_right (n := 128) (by omega) h
  have e : (128 : Nat) ^ 9 = 9223372036854775808 := by decide
  omega
theorem get_cases (bs : List (BitVec 8)) :
    (∃ u m, get bs = (u, m, 0) ∧ 1 ≤ m ∧ m ≤ 9 ∧ m ≤ bs.length ∧ put u = bs.take m ∧ u < 9223372036854775808) ∨
    (get bs = (0, 0, 20) ∧ bs.length ≤ 8 ∧ ∃ m, get (bs ++ [B8 1]) = (m, bs.length + 1, 0)) ∨
    (get bs = (0, 0, 21) ∧ get (bs ++ [B8 1]) = (0, 0, 21)) := by
  rcases getFrom_cases bs 0 0 (by simp) with ⟨u, m, g1, g2, g3, g4, g5, g6, _⟩ | ⟨g1, g2, m, k, g3, g4⟩ | ⟨g1, g2⟩
  · left
    refine ⟨u, m, by simpa [get] using g1, g2, by omega, g4, g5, ?_⟩
    have := pow_nine m (by omega)
    omega
  · right; left
    subst g4
    exact ⟨g1, by omega, m, by simpa [get] using g3⟩
  · right; right
    exact ⟨g1, g2⟩
/-- A fixed word. -/
def fixed (v n : Nat) : List (BitVec 8) := (List.range n).map fun i => B8 (v / 256 ^ i)
def wordFrom : Nat → List (BitVec 8) → Nat
  | _, [] => 0
  | i, c :: cs => c.toNat * 256 ^ i + wordFrom (i + 1) cs
/-- The number whose bytes are these, of more than 8 the first 8. -/
def word (bs : List (BitVec 8)) : Nat := wordFrom 0 (bs.take 8)
theorem wordFrom_snoc (bs : List (BitVec 8)) (c : BitVec 8) : ∀ i, wordFrom i (bs ++ [c]) = wordFrom i bs + c.toNat * 256 ^ (i + bs.length) := by
  induction bs with
  | nil => intro i; simp [wordFrom]
  | cons x xs ih => intro i; simp only [List.cons_append, wordFrom, ih, List.length_cons]; rw [show i + 1 + xs.length = i + (xs.length + 1) by omega]; omega
theorem wordFrom_lt (bs : List (BitVec 8)) : ∀ i, wordFrom i bs + 256 ^ i ≤ 256 ^ (i + bs.length) := by
  induction bs with
  | nil => intro i; simp [wordFrom]
  | cons x xs ih =>
    intro i
    have h := ih (i + 1)
    have hx := lt8 x
    simp only [wordFrom, List.length_cons]
    rw [show i + (xs.length + 1) = i + 1 + xs.length by omega]
    have : (x.toNat + 1) * 256 ^ i ≤ 256 * 256 ^ i := Nat.mul_le_mul_right _ (by omega)
    rw [Nat.pow_succ, Nat.mul_comm (256 ^ i) 256] at h
    rw [Nat.add_mul] at this
    omega
theorem word_lt (bs : List (BitVec 8)) : word bs < 18446744073709551616 := by
  have h := wordFrom_lt (bs.take 8) 0
  have h2 : (bs.take 8).length ≤ 8 := by rw [List.length_take]; omega
  have h3 := Nat.pow_le_pow_right (n := 256) (by omega) h2
  have e : (256 : Nat) ^ 8 = 18446744073709551616 := by decide
  unfold word
  simp only [Nat.pow_zero, Nat.zero_add] at h
  omega
theorem length_fixed (v n : Nat) : (fixed v n).length = n := by simp [fixed]
theorem fixed_succ (v n : Nat) : fixed v (n + 1) = fixed v n ++ [B8 (v / 256 ^ n)] := by
  simp [fixed, List.range_succ]
theorem fixed_word (v : Nat) : ∀ n, wordFrom 0 (fixed v n) = v % 256 ^ n := by
  intro n
  induction n with
  | zero => simp [fixed, wordFrom, Nat.mod_one]
  | succ n ih =>
    rw [fixed_succ, wordFrom_snoc, ih, length_fixed, Nat.zero_add]
    have e : (B8 (v / 256 ^ n)).toNat = v / 256 ^ n % 256 := by unfold B8; rw [BitVec.toNat_ofNat]
    rw [e, Nat.pow_succ, Nat.mod_mul, Nat.mul_comm (256 ^ n)]
theorem word_fixed (v : Nat) (n : Nat) (h : n ≤ 8) : word (fixed v n) = v % 256 ^ n := by
  unfold word; rw [List.take_of_length_le (by rw [length_fixed]; exact h), fixed_word]
theorem fixed_cons (c v n : Nat) (hc : c < 256) : fixed (c + 256 * v) (n + 1) = B8 c :: fixed v n := by
  unfold fixed
  rw [List.range_succ_eq_map, List.map_cons, List.map_map]
  congr 1
  · unfold B8; apply BitVec.eq_of_toNat_eq; simp [BitVec.toNat_ofNat]
  · apply List.map_congr_left
    intro i _
    simp only [Function.comp, Nat.succ_eq_add_one]
    rw [Nat.pow_succ', ← Nat.div_div_eq_div_mul]
    rw [show (c + 256 * v) / 256 = v by omega]
theorem wordFrom_scale (bs : List (BitVec 8)) : ∀ i, wordFrom (i + 1) bs = 256 * wordFrom i bs := by
  induction bs with
  | nil => intro i; rfl
  | cons x xs ih => intro i; simp only [wordFrom, ih (i + 1), Nat.pow_succ]; rw [Nat.mul_add, ← Nat.mul_assoc, Nat.mul_comm _ 256]
theorem fixed_back (bs : List (BitVec 8)) : fixed (wordFrom 0 bs) bs.length = bs := by
  induction bs with
  | nil => rfl
  | cons x xs ih =>
    simp only [wordFrom, Nat.pow_zero, Nat.mul_one, List.length_cons]
    rw [wordFrom_scale xs 0, fixed_cons _ _ _ (lt8 x), ih, B8_val]
theorem fixed_word_back (bs : List (BitVec 8)) (h : bs.length ≤ 8) : fixed (word bs) bs.length = bs := by
  unfold word; rw [List.take_of_length_le h, fixed_back]
end Go.Proofs.YthdblnfohbldcaaGreat.Nums
/-
  What the program tells of Put, Get, Fixed and Word.
-/
namespace Go.Proofs.YthdblnfohbldcaaGreat.Nums
set_option linter.unusedVariables false
open Go.ChangeShapes Go.WideShapes Go.ChangeAt Go.RowKit
open Go.Proofs.YthdblnfohbldcaaGreat.Base
/-- The bytes of any number. -/
def putI (n : Int) : List (BitVec 8) := if n < 0 then [] else put n.toNat
theorem putI_neg (n : Int) (h : n < 0) : putI n = [] := by unfold putI; rw [if_pos h]
theorem putI_nat (m : Nat) : putI (m : Int) = put m := by unfold putI; rw [if_neg (by omega)]; simp
theorem or128 : ∀ c : BitVec 8, (c ||| BitVec.ofNat 8 128).toNat = c.toNat % 128 + 128 := by decide +kernel
theorem put_step (m : Nat) : ∃ d : BitVec 8, bits .or .u8 ((m : Int) % 256) 128 = (d.toNat : Int) ∧ Hid (d = B8 (m % 128 + 128)) := by
  refine ⟨B8 (m % 128 + 128), ?_, rfl⟩
  have e : ((m : Int) % 256) = ((B8 m).toNat : Int) := by unfold B8; rw [BitVec.toNat_ofNat]; omega
  have e2 : (128 : Int) = ((BitVec.ofNat 8 128).toNat : Int) := by decide
  rw [e, e2, u8_or_nat _ _ (lt8 _) (by decide), ← BitVec.toNat_or, or128, B8_toNat (m % 128 + 128) (by omega)]
  unfold B8; rw [BitVec.toNat_ofNat]; omega
theorem last_step (m : Nat) (h : m < 128) : ∃ d : BitVec 8, (m : Int) % 256 = (d.toNat : Int) ∧ Hid (d = B8 m) := by
  refine ⟨B8 m, ?_, rfl⟩
  rw [B8_toNat m (by omega)]; omega
set_option maxHeartbeats 1000000 in
set_option maxRecDepth 10000 in
theorem put_any (n : Int) (w : World) (hw : (Lit.int .i64 n).wf = true) :
    Calls Tryz.prog 94 #[.int .i64 n] w fun e w' => ∃ v, e = .returned v ∧ Own w' w.heap.size v (putI n) ∧ Below w.heap.size w w' := by
  have hbd := bounds_i64 hw
  obtain ⟨i0, hi, hz0, hz1, hz2⟩ := info_parts info8
  by_cases h0 : n < 0
  · have HP := hide (putI_neg n h0)
    go_enter Tryz.func94, Tryz.ntmps94
    go_wp2
    go_ret
    exact ⟨_, rfl, by rw [HP.out]; exact own_none _ _, Below.refl _ _⟩
  · obtain ⟨m, rfl⟩ := Int.eq_ofNat_of_zero_le (by omega : 0 ≤ n)
    have HP := hide (putI_nat m)
    have hm : m < 9223372036854775808 := by omega
    have HL := hide (put_nine m hm)
    go_enter Tryz.func94, Tryz.ntmps94
    go_wp2_with (at_make; refine wpList_make_own _ rfl _ _ 24 rfl w.heap.size 5 i0 (.int .u8 0) 1 Tryz.underlying24 hi hz0 hz1 .i64 .i64 _ 9 rfl rfl (by omega) (by rw [hz2]; omega) (by unfold maxLen; omega) (Nat.le_refl _) ?_
                 intro w1 hown1 hgrow1
                 have HO1 := hide hown1
                 have HB1 : Hid (Below w.heap.size w w1) := (Below.refl _ _).grown hgrow1 (Nat.le_refl _) (by intro k h; cases h)
                 clear hown1 hgrow1)
    go_loopw [0, 3] (fun x o wr => ∃ (k : Nat) (pre : List (BitVec 8)) (a : Option Addr) (c : Nat), x = .int .i64 (k : Int) ∧ o = .slice a pre.length c ∧ k < 9223372036854775808 ∧ Hid (pre ++ put k = put m) ∧ Hid (Own wr w.heap.size (.slice a pre.length c) pre) ∧ Hid (Below w.heap.size w wr)) (fun x _ _ => (intOf x).toNat)
    case atStart => exact ⟨m, [], _, _, rfl, rfl, hm, rfl, HO1.out, HB1⟩
    case round =>
      clear HO1 HB1
      obtain ⟨k, pre, a, c, rfl, rfl, hk, HE, HO, HB⟩ := hrel
      have hsz := HB.out.size
      have hlen : pre.length + (put k).length ≤ 9 := by
        have h := congrArg List.length HE.out
        rw [List.length_append] at h
        have := HL.out.2
        omega
      by_cases hlt : 128 ≤ k
      · obtain ⟨d, hd, HD⟩ := put_step k
        go_wp2_with (at_builtin; refine push _ rfl _ _ rfl w.heap.size _ pre rfl (HO.out.below ((Below.refl wr.heap.size wr).alloc (Nat.le_refl _) _)) ⟨wr.heap.size, 0, none⟩ 1 d rfl ?_ (by omega) (by simp; omega) ?_
                     · exact cell_one_new _ _ _ 0 _ rfl
                     intro v' w4 hown4 hgrow4
                     have HO4 := hide hown4
                     have HG4 := hide hgrow4
                     clear hown4 hgrow4)
        obtain ⟨a', c', hv'⟩ := HO4.out.shape
        subst hv'
        go_roundw
        case rel =>
          refine ⟨k / 128, pre ++ [d], a', c', by go_num, by rw [List.length_append], by omega, ?_, ?_, ?_⟩
          · show pre ++ [d] ++ put (k / 128) = put m
            rw [← HE.out, put_large k hlt, HD.out, List.append_assoc]; rfl
          · show Own _ _ _ _
            exact HO4.out
          · exact ((HB.out.alloc hsz _).grown HG4.out (by simp; omega) (own_blk HO.out))
        case measure => simp [intOf]; omega
      · have hkk : k < 128 := by omega
        have hki : (k : Int) < 128 := by omega
        go_wp2_with (at_builtin; refine push _ rfl _ _ rfl w.heap.size _ pre rfl (HO.out.below ((Below.refl wr.heap.size wr).alloc (Nat.le_refl _) _)) ⟨wr.heap.size, 0, none⟩ 1 (B8 k) rfl ?_ (by omega) (by simp; omega) ?_
                     · rw [B8_toNat k (by omega)]; exact cell_one_new _ _ _ 0 _ rfl
                     intro v' w4 hown4 hgrow4
                     have HO4 := hide hown4
                     have HG4 := hide hgrow4
                     clear hown4 hgrow4)
        obtain ⟨a', c', hv'⟩ := HO4.out.shape
        subst hv'
        go_ret
        refine ⟨_, rfl, ?_, ?_⟩
        · rw [HP.out, ← HE.out, put_small k (by omega)]; exact HO4.out
        · exact ((HB.out.alloc hsz _).grown HG4.out (by simp; omega) (own_blk HO.out))
end Go.Proofs.YthdblnfohbldcaaGreat.Nums
/-
  More of what the walks share: append, by where the bytes come to lie.
-/
namespace Go.Proofs.YthdblnfohbldcaaGreat.Base
set_option linter.unusedVariables false
open Go.ChangeShapes Go.WideShapes Go.ChangeAt Go.RowKit
theorem grown_any {w w' : World} (h : w.grownBy w' none) (r : Option Nat) : w.grownBy w' r := ⟨h.os, h.tape, h.output, h.size, fun i hi _ => h.block i hi (by simp)⟩
/-- append of one byte: it is laid behind the others in their block, or all are laid into a new one. -/
theorem push2 {ops : Array Oper} {rest : List Oper} {o : Oper} {a : Act} {Q : Exit → Act → World → Prop} (w : World) (hgd : o.guard = none) (s x : Operand)
    (ho : o.op = .call { callee := .builtin .append, args := #[s, x], argTypes := #[24, 24] })
    (base : Nat) (v : Value) (bs : List (BitVec 8)) (hs : a.eval s = v) (hown : Own w base v bs) (ad : Addr) (cap : Nat) (c : BitVec 8) (hx : a.eval x = .slice (some ad) 1 cap)
    (hc : w.cell? (ad.add 0) = some (.int .u8 (c.toNat : Int))) (hl : bs.length + 1 ≤ 140737488355328) (hbase : base ≤ w.heap.size)
    (h : ∀ g' c' w', Own w' base (.slice (some ⟨g', 0, none⟩) (bs.length + 1) c') (bs ++ [c]) → (v.ownBlock = some g' ∧ w.grownBy w' (some g') ∨ w.heap.size ≤ g' ∧ w.grownBy w' none) → wpList Tryz.prog ops Q rest (a.put o.dst (.slice (some ⟨g', 0, none⟩) (bs.length + 1) c')) w') : wpList Tryz.prog ops Q (o :: rest) a w := by
  obtain ⟨i0, hi, hz0, hz1, hz2⟩ := info_parts info8
  have hnews : ∀ (j : Nat) (u : Value), [Value.int .u8 (c.toNat : Int)][j]? = some u → w.cell? (ad.add j) = some u := by
    intro j u hu
    cases j with
    | zero => simp at hu; subst hu; exact hc
    | succ j => simp at hu
  have hgrow : ∀ (ao : Option Addr) (cp : Nat), v = .slice ao bs.length cp → cp < bs.length + 1 → wpList Tryz.prog ops Q (o :: rest) a w := by
    intro ao cp hv hcp
    subst hv
    refine wpList_append_grows w hgd s x 24 ho 5 i0 (.int .u8 0) 1 1 Tryz.underlying24 hi hz0 hz1 hz2 rfl (by omega) ao bs.length cp (vals bs) hs (fun e => Got.nil hown e) (by rw [length_vals]; omega) (fun b e j u hu => (Got.rd hown (by omega)).cellsAt b e j u hu) ad 1 cap [.int .u8 (c.toNat : Int)] hx rfl hnews (vals_one [c]) (by omega) (by unfold maxLen; omega) (by omega) ?_
    intro v' w' h1 h2
    have h3 : Own w' w.heap.size v' (bs ++ [c]) := own_append (b := [c]) h1 rfl
    obtain ⟨g, c', rfl⟩ := own_shape h1
    exact h g c' w' (h3.mono hbase) (.inr ⟨(World.ownsRow.lt h1 g rfl).1, h2⟩)
  rcases hown.2 with ⟨hv, hn⟩ | ⟨g, cp, cur, hv, _⟩
  · rw [← hn] at hv
    exact hgrow none bs.length hv (by omega)
  · by_cases hcp : bs.length + 1 ≤ cp
    · subst hv
      refine wpList_append_fits w hgd s x 24 ho base 5 i0 1 Tryz.underlying24 hi hz1 g bs.length cp (vals bs) hs hown ad 1 cap [.int .u8 (c.toNat : Int)] hx rfl hnews (vals_one [c]) hcp ?_
      intro w' h1 h2
      exact h g cp w' (own_append (b := [c]) h1 rfl) (.inl ⟨rfl, h2⟩)
    · exact hgrow (some ⟨g, 0, none⟩) cp hv (by omega)
/-- Nothing of what was there has turned, but the blocks p and q. -/
structure Kept2 (w w' : World) (p q : Option Nat) : Prop where
  os : w'.os = w.os
  tape : w'.tape = w.tape
  output : w'.output = w.output
  size : w.heap.size ≤ w'.heap.size
  block : ∀ i, i < w.heap.size → some i ≠ p → some i ≠ q → w'.heap[i]? = w.heap[i]?
theorem Kept2.refl (w : World) (p q : Option Nat) : Kept2 w w p q := ⟨rfl, rfl, rfl, Nat.le_refl _, fun _ _ _ _ => rfl⟩
theorem Kept2.grown {w w' w'' : World} {p q r : Option Nat} (h : Kept2 w w' p q) (g : w'.grownBy w'' r) (hr : ∀ i, r = some i → r = p ∨ r = q ∨ w.heap.size ≤ i) : Kept2 w w'' p q :=
  ⟨g.os.trans h.os, g.tape.trans h.tape, g.output.trans h.output, Nat.le_trans h.size g.size, fun i hi hp hq => (g.block i (Nat.lt_of_lt_of_le hi h.size) (fun e => by
    rcases hr i e.symm with e2 | e2 | e2
    · exact hp (e.trans e2)
    · exact hq (e.trans e2)
    · omega)).trans (h.block i hi hp hq)⟩
theorem Kept2.below {w0 w w' : World} {p q : Option Nat} (hb : Below w0.heap.size w0 w) (h : Kept2 w w' p q) (hp : ∀ i, p = some i → w0.heap.size ≤ i) (hq : ∀ i, q = some i → w0.heap.size ≤ i) : Below w0.heap.size w0 w' :=
  ⟨h.os.trans hb.os, h.tape.trans hb.tape, h.output.trans hb.output, Nat.le_trans hb.size h.size, fun i hi => (h.block i (Nat.lt_of_lt_of_le hi hb.size) (fun e => by have := hp i e.symm; omega) (fun e => by have := hq i e.symm; omega)).trans (hb.block i hi)⟩
theorem Own.kept2 {w w' : World} {base : Nat} {v : Value} {bs : List (BitVec 8)} {p q : Option Nat} (h : Own w base v bs) (k : Kept2 w w' p q) (hp : ∀ i, v.ownBlock = some i → p ≠ some i) (hq : ∀ i, v.ownBlock = some i → q ≠ some i) : Own w' base v bs := by
  have hlt := blk h
  obtain ⟨h1, h2⟩ := h
  refine ⟨h1, ?_⟩
  rcases h2 with h2 | ⟨g, cap, cur, e1, e2, e3, e4⟩
  · exact .inl h2
  · have hb : v.ownBlock = some g := by rw [e1]; rfl
    exact .inr ⟨g, cap, cur, e1, e2, by rw [k.block g (hlt g hb).2 (fun e => hp g hb e.symm) (fun e => hq g hb e.symm)]; exact e3, e4⟩
theorem Rd.grown {w w' : World} {a : Option Addr} {len : Nat} {bs : List (BitVec 8)} {r : Option Nat} (h : Rd w a len bs) (g : w.grownBy w' r) (hr : ∀ ad, a = some ad → r ≠ some ad.block) : Rd w' a len bs := by
  obtain ⟨h1, h2, h3⟩ := h
  refine ⟨h1, h2, fun hp => ?_⟩
  obtain ⟨b, off, rfl, hlt, hc⟩ := h3 hp
  refine ⟨b, off, rfl, Nat.lt_of_lt_of_le hlt g.size, fun i hi => ?_⟩
  exact g.cell (hc i hi) (fun e => hr _ rfl e.symm)
/-- What 'O' was has been added to: v reads as O and X, the slice a, la still as O. -/
def Grown (base n0 : Nat) (a : Option Addr) (la ca : Nat) (O X : List (BitVec 8)) (w : World) (v : Value) : Prop :=
  Own w base v (O ++ X) ∧ Rd w a la O ∧ (v.ownBlock = (Value.slice a la ca).ownBlock ∨ ∀ i, v.ownBlock = some i → n0 ≤ i) ∧ (∀ ad, a = some ad → ad.off = 0 ∧ ad.spot = none)
theorem Grown.keep {base n0 la ca : Nat} {a : Option Addr} {O X : List (BitVec 8)} {w w' : World} {v : Value} {r : Option Nat} (h : Grown base n0 a la ca O X w v) (g : w.grownBy w' r)
    (h1 : ∀ i, r = some i → v.ownBlock ≠ some i) (h2 : ∀ i, r = some i → (Value.slice a la ca).ownBlock ≠ some i) : Grown base n0 a la ca O X w' v := by
  obtain ⟨p1, p2, p3, p4⟩ := h
  refine ⟨Base.keep p1 g (fun i j e1 e2 e => h1 j e2 (by rw [e1, e])), p2.grown g (fun ad e e2 => h2 ad.block e2 (by rw [e]; rfl)), p3, p4⟩
theorem Grown.push {base n0 la ca g' c' n : Nat} {a : Option Addr} {O X : List (BitVec 8)} {w w' : World} {v : Value} {c : BitVec 8} (h : Grown base n0 a la ca O X w v) (hn : n0 ≤ w.heap.size) (hl : la = O.length) (hll : la ≤ 140737488355328) (hnn : n = (O ++ (X ++ [c])).length)
    (ho : Own w' base (.slice (some ⟨g', 0, none⟩) n c') (O ++ (X ++ [c])))
    (hw : v.ownBlock = some g' ∧ w.grownBy w' (some g') ∨ w.heap.size ≤ g' ∧ w.grownBy w' none) : Grown base n0 a la ca O (X ++ [c]) w' (.slice (some ⟨g', 0, none⟩) n c') := by
  obtain ⟨p1, p2, p3, p4⟩ := h
  refine ⟨ho, ?_, ?_, p4⟩
  · rcases hw with ⟨e, g⟩ | ⟨e, g⟩
    · by_cases hv : ∃ ad, a = some ad ∧ ad.block = g'
      · obtain ⟨ad, rfl, hb⟩ := hv
        obtain ⟨q1, q2⟩ := p4 ad rfl
        obtain ⟨b, off, sp⟩ := ad
        simp only at hb q1 q2
        subst hb q1 q2
        have hle : la ≤ n := by rw [hnn, List.length_append]; omega
        have h := ho.cut la hle
        rw [hl, List.take_left] at h
        rw [← hl] at h
        exact Got.rd h (by omega)
      · exact p2.grown g (fun ad e1 e2 => hv ⟨ad, e1, (Option.some.inj e2).symm⟩)
    · exact p2.grown g (fun ad e1 e2 => by cases e2)
  · rcases hw with ⟨e, g⟩ | ⟨e, g⟩
    · rcases p3 with p3 | p3
      · left; rw [← p3, e]; rfl
      · right; intro i hi; exact p3 i (by rw [e]; exact hi)
    · right; intro i hi; cases hi; show n0 ≤ g'; omega
/-- What 'append' does to the memory: v's block is g, and it alone has turned; or g is new. -/
def Put1 (W w' : World) (v : Value) (g : Nat) : Prop := v.ownBlock = some g ∧ W.grownBy w' (some g) ∨ W.heap.size ≤ g ∧ W.grownBy w' none
theorem Grown.beside {base n0 lb cb g : Nat} {b : Option Addr} {O X : List (BitVec 8)} {W w' : World} {vx vy : Value} (h : Grown base n0 b lb cb O X W vy) (hx : Put1 W w' vx g)
    (hxy : ∀ i, vx.ownBlock = some i → vy.ownBlock ≠ some i) (hxb : ∀ i, vx.ownBlock = some i → (Value.slice b lb cb).ownBlock ≠ some i) : Grown base n0 b lb cb O X w' vy := by
  rcases hx with ⟨e, k⟩ | ⟨e, k⟩
  · exact h.keep k (fun i e2 => by cases e2; exact hxy g e) (fun i e2 => by cases e2; exact hxb g e)
  · exact h.keep k (fun i e2 => by cases e2) (fun i e2 => by cases e2)
theorem Kept2.beside {w W w' : World} {p q : Option Nat} {vx : Value} {g : Nat} (h : Kept2 w W p q) (hx : Put1 W w' vx g) (hp : ∀ i, vx.ownBlock = some i → vx.ownBlock = p ∨ vx.ownBlock = q ∨ w.heap.size ≤ i) : Kept2 w w' p q := by
  rcases hx with ⟨e, k⟩ | ⟨e, k⟩
  · exact h.grown k (fun i e2 => by cases e2; have := hp g e; rw [e] at this; exact this)
  · exact h.grown k (fun i e2 => by cases e2)
theorem Put1.size {W w' : World} {v : Value} {g : Nat} (h : Put1 W w' v g) : W.heap.size ≤ w'.heap.size := by
  rcases h with ⟨_, k⟩ | ⟨_, k⟩ <;> exact k.size
theorem Put1.apart {W w' : World} {vx vy : Value} {g n c : Nat} (h : Put1 W w' vx g) (hxy : ∀ i, vx.ownBlock = some i → vy.ownBlock ≠ some i) (hy : ∀ i, vy.ownBlock = some i → i < W.heap.size) :
    ∀ i, (Value.slice (some ⟨g, 0, none⟩) n c).ownBlock = some i → vy.ownBlock ≠ some i := by
  intro i e
  have e' : g = i := Option.some.inj e
  subst e'
  rcases h with ⟨e1, _⟩ | ⟨e1, _⟩
  · exact hxy g e1
  · intro e2; have := hy g e2; omega
theorem Grown.apart {base n0 la ca : Nat} {a : Option Addr} {O X : List (BitVec 8)} {w : World} {v vb : Value} (h : Grown base n0 a la ca O X w v) (hne : ∀ i, (Value.slice a la ca).ownBlock = some i → vb.ownBlock ≠ some i) (hb : ∀ i, vb.ownBlock = some i → i < n0) :
    ∀ i, v.ownBlock = some i → vb.ownBlock ≠ some i := by
  intro i e
  rcases h.2.2.1 with p | p
  · exact hne i (by rw [← p]; exact e)
  · intro e2; have := p i e; have := hb i e2; omega
theorem Grown.where {base n0 la ca : Nat} {a : Option Addr} {O X : List (BitVec 8)} {w w0 : World} {v : Value} (h : Grown base n0 a la ca O X w v) (hn : w0.heap.size ≤ n0) : ∀ i, v.ownBlock = some i → v.ownBlock = (Value.slice a la ca).ownBlock ∨ w0.heap.size ≤ i := by
  intro i e
  rcases h.2.2.1 with p | p
  · exact .inl p
  · exact .inr (by have := p i e; omega)
theorem Grown.lt {base n0 la ca : Nat} {a : Option Addr} {O X : List (BitVec 8)} {w : World} {v : Value} (h : Grown base n0 a la ca O X w v) : ∀ i, v.ownBlock = some i → i < w.heap.size := fun i e => (blk h.1 i e).2
theorem ne_symm {vx vy : Value} (h : ∀ i, vx.ownBlock = some i → vy.ownBlock ≠ some i) : ∀ i, vy.ownBlock = some i → vx.ownBlock ≠ some i := fun i e e2 => h i e2 e
/-- append of a whole slice: where what comes back lies. -/
theorem join2 {ops : Array Oper} {rest : List Oper} {o : Oper} {a : Act} {Q : Exit → Act → World → Prop} (w : World) (hgd : o.guard = none) (s x : Operand)
    (ho : o.op = .call { callee := .builtin .append, args := #[s, x], argTypes := #[24, 24] })
    (base : Nat) (v : Value) (bs : List (BitVec 8)) (hs : a.eval s = v) (hown : Own w base v bs) (xa : Option Addr) (m cap : Nat) (cs : List (BitVec 8)) (hx : a.eval x = .slice xa m cap)
    (hr : Rd w xa m cs) (hnil : xa = none → m = 0 ∧ cap = 0) (hl : bs.length + m ≤ 140737488355328) (hbase : base ≤ w.heap.size)
    (h : ∀ v' w', Own w' base v' (bs ++ cs) → w.grownBy w' v.ownBlock → (v'.ownBlock = v.ownBlock ∨ ∃ g, v'.ownBlock = some g ∧ w.heap.size ≤ g) → wpList Tryz.prog ops Q rest (a.put o.dst v') w') : wpList Tryz.prog ops Q (o :: rest) a w := by
  obtain ⟨i0, hi, hz0, hz1, hz2⟩ := info_parts info8
  have hcl := hr.1
  cases xa with
  | none =>
    obtain ⟨rfl, rfl⟩ := hnil rfl
    have : cs = [] := List.length_eq_zero_iff.1 hcl
    subst this
    refine wpList_append_own_none hgd s x 24 ho base 5 i0 1 Tryz.underlying24 hi v bs.length (vals bs) hs hown hx ?_
    exact h v w (by rw [List.append_nil]; exact hown) (World.grownBy.refl _ _) (.inl rfl)
  | some ad =>
    have hgrow : ∀ (ao : Option Addr) (cp : Nat), v = .slice ao bs.length cp → cp < bs.length + m → wpList Tryz.prog ops Q (o :: rest) a w := by
      intro ao cp hv hcp
      subst hv
      refine wpList_append_grows w hgd s x 24 ho 5 i0 (.int .u8 0) 1 1 Tryz.underlying24 hi hz0 hz1 hz2 rfl (by omega) ao bs.length cp (vals bs) hs (fun e => Got.nil hown e) (by rw [length_vals]; omega) (fun b e j u hu => (Got.rd hown (by omega)).cellsAt b e j u hu) ad m cap (vals cs) hx (by rw [length_vals]; omega) (fun j u hu => hr.cellsAt ad rfl j u hu) (vals_one _) (by omega) (by unfold maxLen; omega) (by omega) ?_
      intro v' w' h1 h2
      have h3 : Own w' w.heap.size v' (bs ++ cs) := own_append h1 (by omega)
      refine h v' w' (h3.mono hbase) (grown_any h2 _) ?_
      cases hb : v'.ownBlock with
      | none =>
        rcases h3.2 with ⟨e1, e2⟩ | ⟨g, cp', cur, e1, _⟩
        · rw [List.length_append] at e2
          cases hao : ao with
          | none => left; rfl
          | some ad2 =>
            exfalso
            rcases hown.2 with ⟨q1, _⟩ | ⟨g, cp', cur, q1, _⟩
            · rw [hao] at q1; simp at q1
            · simp only [Value.slice.injEq] at q1; omega
        · rw [e1] at hb; simp [Value.ownBlock] at hb
      | some g => exact .inr ⟨g, rfl, (blk h3 g hb).1⟩
    rcases hown.2 with ⟨hv, hn⟩ | ⟨g, cp, cur, hv, _⟩
    · by_cases hm : m = 0
      · subst hm
        refine wpList_append_own w hgd s x 24 ho base 5 i0 (.int .u8 0) 1 1 Tryz.underlying24 hi hz0 hz1 hz2 rfl (by omega) v bs.length (vals bs) hs hown ad 0 cap (vals cs) hx (by rw [length_vals]; omega) (fun j u hu => hr.cellsAt ad rfl j u hu) (vals_one _) (by unfold maxLen; omega) (by omega) hbase ?_
        intro v' w' h1 h2 h3
        have hv' := h3.2 ⟨hv, rfl⟩
        exact h v' w' (own_append h1 (by omega)) h2 (.inl (by rw [hv', hv]))
      · rw [← hn] at hv
        exact hgrow none bs.length hv (by omega)
    · by_cases hcp : bs.length + m ≤ cp
      · subst hv
        refine wpList_append_fits w hgd s x 24 ho base 5 i0 1 Tryz.underlying24 hi hz1 g bs.length cp (vals bs) hs hown ad m cap (vals cs) hx (by rw [length_vals]; omega) (fun j u hu => hr.cellsAt ad rfl j u hu) (vals_one _) hcp ?_
        intro w' h1 h2
        exact h _ w' (own_append h1 (by omega)) h2 (.inl rfl)
      · exact hgrow (some ⟨g, 0, none⟩) cp hv (by omega)
end Go.Proofs.YthdblnfohbldcaaGreat.Base
/-
  What the program tells of Get.
-/
namespace Go.Proofs.YthdblnfohbldcaaGreat.Nums
set_option linter.unusedVariables false
open Go.ChangeShapes Go.WideShapes Go.ChangeAt Go.RowKit
open Go.Proofs.YthdblnfohbldcaaGreat.Base
theorem getFrom_step (bs : List (BitVec 8)) (k V : Nat) (h : k < bs.length) (h9 : k < 9) :
    getFrom k V (bs.drop k) = if (bs.getD k 0).toNat < 128 then (if (bs.getD k 0).toNat = 0 ∧ 0 < k then (0, 0, 21) else (V + (bs.getD k 0).toNat * 128 ^ k, k + 1, 0)) else getFrom (k + 1) (V + (bs.getD k 0).toNat % 128 * 128 ^ k) (bs.drop (k + 1)) := by
  have e : bs.drop k = bs.getD k 0 :: bs.drop (k + 1) := by
    rw [List.drop_eq_getElem_cons h, List.getD_eq_getElem?_getD, List.getElem?_eq_getElem h]; rfl
  rw [e]
  simp only [getFrom, if_neg (show ¬ 9 ≤ k by omega)]
theorem i64_or_nat (a b : Nat) (ha : a < 9223372036854775808) (hb : b < 9223372036854775808) : bits .or .i64 (a : Int) (b : Int) = ((a ||| b : Nat) : Int) := by
  have hx : a ||| b < 2 ^ 63 := Nat.or_lt_two_pow (by omega) (by omega)
  show IntKind.i64.wrap ((BitVec.ofInt 64 (a : Int) ||| BitVec.ofInt 64 (b : Int)).toNat : Int) = _
  rw [BitVec.toNat_or, ofInt_u64 a (by omega), ofInt_u64 b (by omega)]
  rw [IntKind.wrap_i64]; omega
theorem clear128 : ∀ c : BitVec 8, c.toNat &&& (255 - 128) = c.toNat % 128 := by decide +kernel
theorem or_add (k V d : Nat) (hV : V < 128 ^ k) : V ||| d * 128 ^ k = V + d * 128 ^ k := by
  have e : (128 : Nat) ^ k = 2 ^ (7 * k) := by rw [Nat.pow_mul]
  rw [e] at hV ⊢
  have := Nat.two_pow_add_eq_or_of_lt hV d
  rw [Nat.mul_comm d, Nat.or_comm, ← this]; omega
theorem ret3 {t : Nat × Nat × Nat} {x y z : Nat} {a b c : Int} (h : t = (x, y, z)) (ha : a = (x : Int)) (hb : b = (y : Int)) (hc : c = (z : Int)) :
    Ending.returned (.tuple #[.int .i64 a, .int .i64 b, .int .i64 c]) = .returned (.tuple #[.int .i64 (t.1 : Nat), .int .i64 (t.2.1 : Nat), .int .i64 (t.2.2 : Nat)]) := by
  subst h ha hb hc; rfl
theorem get_step (c : BitVec 8) (k V : Nat) (hk : k < 9) (hV : V < 128 ^ k) : ∃ d X V' : Nat, bits .andNot .u8 (c.toNat : Int) 128 = (d : Int) ∧ (d : Int) < 128 ∧ (d : Int) * (2 : Int) ^ (7 * k) = (X : Int) ∧ (X : Int) ≤ 9223372036854775807 ∧
    bits .or .i64 (V : Int) (X : Int) = (V' : Int) ∧ Hid (V' = V + c.toNat % 128 * 128 ^ k) ∧ Hid (V' < 128 ^ (k + 1)) ∧ (V' : Int) ≤ 9223372036854775807 := by
  have hlt := lt_pow k V (c.toNat % 128) hV (by omega)
  have h9 := pow_nine (k + 1) (by omega)
  have hX : c.toNat % 128 * 128 ^ k < 9223372036854775808 := by omega
  refine ⟨c.toNat % 128, c.toNat % 128 * 128 ^ k, V + c.toNat % 128 * 128 ^ k, ?_, by omega, ?_, by omega, ?_, rfl, hlt, by omega⟩
  · have h := u8_andNot_nat c.toNat 128 (lt8 c) (by omega)
    rw [clear128] at h
    exact h
  · have e : (128 : Nat) ^ k = 2 ^ (7 * k) := by rw [Nat.pow_mul]
    rw [e, Int.natCast_mul, Int.natCast_pow]; rfl
  · rw [i64_or_nat V _ (by omega) hX, or_add k V _ hV]
set_option maxHeartbeats 1000000 in
set_option maxRecDepth 10000 in
theorem get_any (a : Option Addr) (len cap : Nat) (bs : List (BitVec 8)) (w : World) (hr : Rd w a len bs) (hcap : len ≤ cap) (hm : cap ≤ 9223372036854775807) :
    Calls Tryz.prog 90 #[.slice a len cap] w fun e w' => e = .returned (.tuple #[.int .i64 ((get bs).1 : Nat), .int .i64 ((get bs).2.1 : Nat), .int .i64 ((get bs).2.2 : Nat)]) ∧ Below w.heap.size w w' := by
  obtain ⟨hl, _, hc⟩ := hr
  have HL := hide hl
  have HC := hide hc
  clear hl hc
  rcases Nat.lt_or_ge 9 len with h9 | h9
  all_goals
    go_enter Tryz.func90, Tryz.ntmps90
    go_wp2
    go_loopw [5, 14] (fun v i wr => ∃ k V : Nat, k ≤ len ∧ k ≤ 9 ∧ i = .int .i64 k ∧ v = .int .i64 V ∧ Hid (V < 128 ^ k) ∧ Hid (getFrom k V (bs.drop k) = get bs) ∧ wr = w) (fun _ i _ => len - (intOf i).toNat)
    case atStart => exact ⟨0, 0, Nat.zero_le _, Nat.zero_le _, rfl, rfl, show 0 < 128 ^ 0 by decide, rfl, rfl⟩
    case round =>
      obtain ⟨k, V, hk, hk9, rfl, rfl, HV, HG, rfl⟩ := hrel
      by_cases hlt : k < len ∧ k < 9
      · obtain ⟨h1, h2⟩ := hlt
        obtain ⟨b1, o1, rfl, hb1, hc1⟩ := unhide HC (by omega)
        have g1 := hc1 k h1
        clear hc1
        have HS := hide (getFrom_step bs k V (by have := HL.out; omega) h2)
        generalize bs.getD k 0 = c at g1 HS
        obtain ⟨d, X, V', q1, q2, q3, q4, q5, HV', HVL, q6⟩ := get_step c k V h2 HV.out
        have hki : (k : Int) < 9 := by omega
        have hkl : (k : Int) < (len : Int) := by omega
        by_cases hc : c.toNat < 128
        · by_cases h0 : c.toNat = 0 ∧ 0 < k
          · have HE : Hid (get bs = (0, 0, 21)) := by
              have := HG.out
              rw [HS.out, if_pos hc, if_pos h0] at this
              exact this.symm
            obtain ⟨h01, h02⟩ := h0
            go_wp2
            go_ret3
            exact ⟨ret3 HE.out rfl rfl rfl, Below.refl _ _⟩
          · have HE : Hid (get bs = (V', k + 1, 0)) := by
              have := HG.out
              rw [HS.out, if_pos hc, if_neg h0] at this
              have e := HV'.out
              rw [Nat.mod_eq_of_lt hc] at e
              rw [e]
              exact this.symm
            by_cases h01 : c.toNat = 0
            · have h02 : ¬ 0 < k := by omega
              have h04 : ((c.toNat : Int) == 0) = true := by rw [beq_iff_eq]; omega
              clear h01
              have h03 : ((k : Nat) : Int) ≤ 0 := by omega
              go_wp2
              go_ret3
              exact ⟨ret3 HE.out rfl (by omega) rfl, Below.refl _ _⟩
            · have h02 : ((c.toNat : Int) == 0) = false := by rw [beq_eq_false_iff_ne]; omega
              go_wp2
              go_ret3
              exact ⟨ret3 HE.out rfl (by omega) rfl, Below.refl _ _⟩
        · have HE : Hid (getFrom (k + 1) V' (bs.drop (k + 1)) = get bs) := by
            have := HG.out
            rw [HS.out, if_neg hc] at this
            rw [HV'.out]
            exact this
          have hci : (128 : Int) ≤ (c.toNat : Int) := by omega
          go_wp2
          go_roundw
          case rel => exact ⟨k + 1, V', by omega, by omega, by go_num, rfl, HVL, HE, by first | trivial | rfl⟩
          case measure => simp [intOf]; omega
      · have HE : Hid (get bs = if len < 9 then (0, 0, 20) else (0, 0, 21)) := by
          have h := HG.out
          have hl := HL.out
          show get bs = _
          rw [← h]
          by_cases hn : len < 9
          · rw [if_pos hn, show bs.drop k = [] from List.drop_eq_nil_of_le (by omega)]
            simp only [getFrom]; rw [if_neg (by omega)]
          · rw [if_neg hn]
            cases bs.drop k with
            | nil => simp only [getFrom]; rw [if_pos (by omega)]
            | cons x xs => simp only [getFrom]; rw [if_pos (by omega)]
        by_cases hn : len < 9
        · have hE2 : Hid (get bs = (0, 0, 20)) := by have := HE.out; rw [if_pos hn] at this; exact this
          have hki : ¬ (k : Int) < (len : Int) := by omega
          clear HE
          first
          | (exfalso; omega)
          | (go_wp2
             go_ret3
             exact ⟨ret3 hE2.out rfl rfl rfl, Below.refl _ _⟩)
        · have hE2 : Hid (get bs = (0, 0, 21)) := by have := HE.out; rw [if_neg hn] at this; exact this
          have hki : ¬ (k : Int) < 9 := by omega
          clear HE
          go_wp2
          go_ret3
          exact ⟨ret3 hE2.out rfl rfl rfl, Below.refl _ _⟩
end Go.Proofs.YthdblnfohbldcaaGreat.Nums
/-
  What the program tells of Fixed and Word.
-/
namespace Go.Proofs.YthdblnfohbldcaaGreat.Nums
set_option linter.unusedVariables false
open Go.ChangeShapes Go.WideShapes Go.ChangeAt Go.RowKit
open Go.Proofs.YthdblnfohbldcaaGreat.Base
theorem width_any (n : Int) (w : World) : Calls Tryz.prog 131 #[.int .i64 n] w fun e w' => e = .returned (.bool (decide (1 ≤ n ∧ n ≤ 8))) ∧ w' = w := by
  by_cases h1 : 1 ≤ n
  · by_cases h2 : n ≤ 8
    · go_enter Tryz.func131, Tryz.ntmps131
      go_wp2
      go_ret
      exact ⟨ret_bool (by simp; omega), rfl⟩
    · go_enter Tryz.func131, Tryz.ntmps131
      go_wp2
      go_ret
      exact ⟨ret_bool (by simp; omega), rfl⟩
  · go_enter Tryz.func131, Tryz.ntmps131
    go_wp2
    go_ret
    exact ⟨ret_bool (by simp; omega), rfl⟩
/-- The bytes of a number, as many as may be asked for. -/
def fixI (v : Nat) (n : Int) : List (BitVec 8) := if 1 ≤ n ∧ n ≤ 8 then fixed v n.toNat else []
theorem fixI_out (v : Nat) (n : Int) (h : ¬ (1 ≤ n ∧ n ≤ 8)) : fixI v n = [] := by unfold fixI; rw [if_neg h]
theorem fixI_nat (v m : Nat) (h : 1 ≤ m ∧ m ≤ 8) : fixI v (m : Int) = fixed v m := by unfold fixI; rw [if_pos (by omega)]; simp
/-- What is laid behind k rounds. -/
def fixTo (v n k : Nat) : List (BitVec 8) := fixed v k ++ List.replicate (n - k) (BitVec.ofNat 8 0)
theorem length_fixTo (v n k : Nat) (h : k ≤ n) : (fixTo v n k).length = n := by simp [fixTo, length_fixed]; omega
theorem fixTo_step (v n k : Nat) (h : k < n) : (fixTo v n k).set k (B8 (v / 256 ^ k)) = fixTo v n (k + 1) := by
  unfold fixTo
  rw [List.set_append_right _ _ (by rw [length_fixed]; omega), length_fixed, Nat.sub_self, show n - k = (n - (k + 1)) + 1 by omega, List.replicate_succ, List.set_cons_zero, fixed_succ, List.append_assoc]
  rfl
theorem fixTo_end (v n : Nat) : fixTo v n n = fixed v n := by simp [fixTo]
theorem byte_step (v k : Nat) (hk : k < 8) : ∃ X : Nat, ∃ d : BitVec 8, (v : Int) / (2 : Int) ^ (8 * k) = (X : Int) ∧ (X : Int) % 256 = (d.toNat : Int) ∧ Hid (d = B8 (v / 256 ^ k)) := by
  refine ⟨v / 256 ^ k, B8 (v / 256 ^ k), ?_, ?_, rfl⟩
  · have e : (256 : Nat) ^ k = 2 ^ (8 * k) := by rw [Nat.pow_mul]
    rw [e, Int.natCast_ediv, Int.natCast_pow]; rfl
  · unfold B8; rw [BitVec.toNat_ofNat]; omega
set_option maxHeartbeats 1000000 in
set_option maxRecDepth 10000 in
theorem fixed_any (v : Nat) (n : Int) (w : World) (hv : v < 18446744073709551616) (hw : (Lit.int .i64 n).wf = true) :
    Calls Tryz.prog 118 #[.int .u64 (v : Int), .int .i64 n] w fun e w' => ∃ u, e = .returned u ∧ Own w' w.heap.size u (fixI v n) ∧ Below w.heap.size w w' := by
  obtain ⟨i0, hi, hz0, hz1, hz2⟩ := info_parts info8
  have hv' : (v : Int) ≤ 18446744073709551615 := by omega
  clear hv
  by_cases hn : 1 ≤ n ∧ n ≤ 8
  · obtain ⟨m, rfl⟩ := Int.eq_ofNat_of_zero_le (by omega : 0 ≤ n)
    have hm : 1 ≤ m ∧ m ≤ 8 := by omega
    have HP := hide (fixI_nat v m hm)
    have hd : decide ((1 : Int) ≤ (m : Int) ∧ (m : Int) ≤ 8) = true := by simpa using hn
    obtain ⟨hm1, hm2⟩ := hm
    clear hn hw
    go_enter Tryz.func118, Tryz.ntmps118
    go_wp2_with fail
    refine (width_any _ _).mono ?_
    rintro e w ⟨rfl, rfl⟩
    rw [hd]
    go_wp2_with (
      at_make; refine wpList_make_full _ rfl _ _ 24 rfl w.heap.size 5 i0 (.int .u8 0) 1 Tryz.underlying24 hi hz0 hz1 .i64 .i64 _ _ m rfl rfl (by omega) (by omega) (by rw [hz2]; omega) (by unfold maxLen; omega) (Nat.le_refl _) ?_
      intro w1 hown hgrow
      have HB1 : Hid (Below w.heap.size w w1) := (Below.refl _ _).grown hgrow (Nat.le_refl _) (by intro k h; cases h)
      have HO1 : Hid (Own w1 w.heap.size (.slice (some ⟨w.heap.size, 0, none⟩) m m) (fixTo v m 0)) := by
        show Own _ _ _ _
        unfold Own
        rw [length_fixTo _ _ _ (by omega)]
        have e : vals (fixTo v m 0) = (madeCells (Value.int .u8 0).cells (m * 1)).toList := by
          rw [vals_replicate]; simp [fixTo, fixed]
        rw [e]; exact hown
      clear hown hgrow)
    go_loopw [14] (fun i wr => ∃ k : Nat, k ≤ m ∧ i = .int .i64 k ∧ Hid (Own wr w.heap.size (.slice (some ⟨w.heap.size, 0, none⟩) m m) (fixTo v m k)) ∧ Hid (Below w.heap.size w wr)) (fun i _ => m - (intOf i).toNat)
    case atStart => exact ⟨0, Nat.zero_le _, rfl, HO1, HB1⟩
    case round =>
      clear HO1 HB1
      obtain ⟨k, hk, rfl, HO, HB⟩ := hrel
      by_cases hlt : k < m
      · have g1 := HO.out.cell k hlt
        generalize (fixTo v m k).getD k 0 = c0 at g1
        have g2 := HO.out.frozen k
        obtain ⟨X, d, h1, h2, HD⟩ := byte_step v k (by omega)
        obtain ⟨ho', hg'⟩ := HO.out.store k d
        have HO' := hide ho'
        have HG' := hide hg'
        clear ho' hg'
        have hki : (k : Int) < (m : Int) := by omega
        go_wp2
        go_roundw
        case rel =>
          refine ⟨k + 1, by omega, by go_num, ?_, HB.out.setCell (Nat.le_refl _) _⟩
          have h := HO'.out
          rw [HD.out, fixTo_step v m k hlt, ← HD.out] at h
          exact h
        case measure => simp [intOf]; omega
      · have hk' : k = m := by omega
        subst hk'
        go_wp2
        go_ret
        refine ⟨_, rfl, ?_, HB.out⟩
        rw [HP.out, ← fixTo_end]
        exact HO.out
  · have HP := hide (fixI_out v n hn)
    have hd : decide ((1 : Int) ≤ n ∧ n ≤ 8) = false := by simpa using hn
    clear hn
    go_enter Tryz.func118, Tryz.ntmps118
    go_wp2_with fail
    refine (width_any _ _).mono ?_
    rintro e w ⟨rfl, rfl⟩
    rw [hd]
    go_wp2
    go_ret
    exact ⟨_, rfl, by rw [HP.out]; exact own_none _ _, Below.refl _ _⟩
theorem word_take (bs : List (BitVec 8)) (k : Nat) (h : k < bs.length) : wordFrom 0 (bs.take (k + 1)) = wordFrom 0 (bs.take k) + (bs.getD k 0).toNat * 256 ^ k := by
  rw [getD_take bs k h, wordFrom_snoc, List.length_take, Nat.zero_add, Nat.min_eq_left (by omega)]
theorem or_add8 (k V d : Nat) (hV : V < 256 ^ k) : V ||| d * 256 ^ k = V + d * 256 ^ k := by
  have e : (256 : Nat) ^ k = 2 ^ (8 * k) := by rw [Nat.pow_mul]
  rw [e] at hV ⊢
  have := Nat.two_pow_add_eq_or_of_lt hV d
  rw [Nat.mul_comm d, Nat.or_comm, ← this]; omega
theorem lt_pow8 (i v d : Nat) (hv : v < 256 ^ i) (hd : d < 256) : v + d * 256 ^ i < 256 ^ (i + 1) := by
  rw [Nat.pow_succ]
  have : (d + 1) * 256 ^ i ≤ 256 * 256 ^ i := Nat.mul_le_mul_right _ (by omega)
  rw [Nat.add_mul] at this
  omega
theorem pow_eight (m : Nat) (h : m ≤ 8) : 256 ^ m ≤ 18446744073709551616 := by
  have := Nat.pow_le_pow_right (n := 256) (by omega) h
  have e : (256 : Nat) ^ 8 = 18446744073709551616 := by decide
  omega
theorem word_step (c : BitVec 8) (k V : Nat) (hk : k < 8) (hV : V < 256 ^ k) : ∃ X V' : Nat, (c.toNat : Int) * (2 : Int) ^ (8 * k) = (X : Int) ∧ (X : Int) ≤ 18446744073709551615 ∧
    bits .or .u64 (V : Int) (X : Int) = (V' : Int) ∧ Hid (V' = V + c.toNat * 256 ^ k) ∧ Hid (V' < 256 ^ (k + 1)) ∧ (V' : Int) ≤ 18446744073709551615 := by
  have hlt := lt_pow8 k V c.toNat hV (lt8 c)
  have h9 := pow_eight (k + 1) (by omega)
  have hX : c.toNat * 256 ^ k < 18446744073709551616 := by omega
  refine ⟨c.toNat * 256 ^ k, V + c.toNat * 256 ^ k, ?_, by omega, ?_, rfl, hlt, by omega⟩
  · have e : (256 : Nat) ^ k = 2 ^ (8 * k) := by rw [Nat.pow_mul]
    rw [e, Int.natCast_mul, Int.natCast_pow]; rfl
  · rw [u64_or_nat V _ (by omega) hX, or_add8 k V _ hV]
set_option maxHeartbeats 1000000 in
set_option maxRecDepth 10000 in
theorem word_any (a : Option Addr) (len cap : Nat) (bs : List (BitVec 8)) (w : World) (hr : Rd w a len bs) (hcap : len ≤ cap) (hm : cap ≤ 9223372036854775807) :
    Calls Tryz.prog 18 #[.slice a len cap] w fun e w' => e = .returned (.int .u64 (word bs : Nat)) ∧ Below w.heap.size w w' := by
  obtain ⟨hl, _, hc⟩ := hr
  have HL := hide hl
  have HC := hide hc
  clear hl hc
  rcases Nat.lt_or_ge 8 len with h9 | h9
  all_goals
    go_enter Tryz.func18, Tryz.ntmps18
    go_wp2
    go_loopw [3, 12] (fun v i wr => ∃ k V : Nat, k ≤ len ∧ k ≤ 8 ∧ i = .int .i64 k ∧ v = .int .u64 V ∧ Hid (V < 256 ^ k) ∧ Hid (V = wordFrom 0 (bs.take k)) ∧ wr = w) (fun _ i _ => len - (intOf i).toNat)
    case atStart => exact ⟨0, 0, Nat.zero_le _, Nat.zero_le _, rfl, rfl, show 0 < 256 ^ 0 by decide, rfl, rfl⟩
    case round =>
      obtain ⟨k, V, hk, hk9, rfl, rfl, HV, HG, rfl⟩ := hrel
      by_cases hlt : k < len ∧ k < 8
      · obtain ⟨h1, h2⟩ := hlt
        obtain ⟨b1, o1, rfl, hb1, hc1⟩ := unhide HC (by omega)
        have g1 := hc1 k h1
        clear hc1
        have HS := hide (word_take bs k (by have := HL.out; omega))
        generalize bs.getD k 0 = c at g1 HS
        obtain ⟨X, V', q3, q4, q5, HV', HVL, q6⟩ := word_step c k V h2 HV.out
        have HE : Hid (V' = wordFrom 0 (bs.take (k + 1))) := by
          show V' = _
          rw [HS.out, HV'.out, HG.out]
        have hki : (k : Int) < 8 := by omega
        have hkl : (k : Int) < (len : Int) := by omega
        go_wp2
        go_roundw
        case rel => exact ⟨k + 1, V', by omega, by omega, by go_num, rfl, HVL, HE, by first | trivial | rfl⟩
        case measure => simp [intOf]; omega
      · have HE : Hid (V = word bs) := by
          show V = _
          rw [HG.out]
          unfold word
          have hl := HL.out
          by_cases hk8 : k = 8
          · rw [hk8]
          · rw [List.take_of_length_le (by omega), List.take_of_length_le (by omega)]
        have hki : ¬ ((k : Int) < (len : Int) ∧ (k : Int) < 8) := by omega
        go_wp2
        go_ret
        exact ⟨ret_int (by rw [← HE.out]), Below.refl _ _⟩
end Go.Proofs.YthdblnfohbldcaaGreat.Nums
/-
  Numbers and texts as bytes, said of lists: short numbers, fixed words, the order of texts.
-/
namespace Go.Proofs.YthdblnfohbldcaaGreat.Nums
/-- How many first bytes are alike. -/
def common : List UInt8 → List UInt8 → Nat
  | x :: xs, y :: ys => if x = y then common xs ys + 1 else 0
  | _, _ => 0
/-- The order, byte by byte. -/
def order : List UInt8 → List UInt8 → Int
  | [], [] => 0
  | [], _ :: _ => -1
  | _ :: _, [] => 1
  | x :: xs, y :: ys => if x = y then order xs ys else if x.toNat < y.toNat then -1 else 1
theorem common_app (c a b : List UInt8) : common (c ++ a) (c ++ b) = c.length + common a b := by
  induction c with
  | nil => simp
  | cons x xs ih => simp [common, ih]; omega
theorem order_app (c a b : List UInt8) : order (c ++ a) (c ++ b) = order a b := by
  induction c with
  | nil => rfl
  | cons x xs ih => simp [order, ih]
theorem u8_ne {x y : UInt8} (h : x ≠ y) : x.toNat ≠ y.toNat := fun e => h (UInt8.toNat_inj.1 e)
theorem order_swap (a b : List UInt8) : order b a = - order a b := by
  induction a generalizing b with
  | nil => cases b <;> simp [order]
  | cons x xs ih =>
    cases b with
    | nil => simp [order]
    | cons y ys =>
      by_cases h : x = y
      · subst h; simp [order, ih]
      · have hn := u8_ne h
        have h' : ¬ y = x := fun e => h e.symm
        simp only [order, if_neg h, if_neg h']
        split <;> split <;> omega
theorem order_zero (a b : List UInt8) : order a b = 0 ↔ a = b := by
  induction a generalizing b with
  | nil => cases b <;> simp [order]
  | cons x xs ih =>
    cases b with
    | nil => simp [order]
    | cons y ys =>
      by_cases h : x = y
      · subst h; simp [order, ih]
      · have hne : ¬ x :: xs = y :: ys := fun e => h (List.cons.inj e).1
        simp only [order, if_neg h, hne, iff_false]
        by_cases hl : x.toNat < y.toNat
        · rw [if_pos hl]; decide
        · rw [if_neg hl]; decide
theorem order_range (a b : List UInt8) : order a b = -1 ∨ order a b = 0 ∨ order a b = 1 := by
  induction a generalizing b with
  | nil => cases b <;> simp [order]
  | cons x xs ih =>
    cases b with
    | nil => simp [order]
    | cons y ys =>
      by_cases h : x = y
      · simp only [order, if_pos h]; exact ih ys
      · simp only [order, if_neg h]; split <;> omega
/-- Below, and below or alike, makes below. -/
theorem order_trans (a b c : List UInt8) : (order a b ≤ 0 → order b c ≤ 0 → order a c ≤ 0) ∧ (order a b < 0 → order b c ≤ 0 → order a c < 0) ∧ (order a b ≤ 0 → order b c < 0 → order a c < 0) := by
  induction a generalizing b c with
  | nil =>
    cases b with
    | nil => cases c <;> simp [order]
    | cons y ys => cases c <;> simp [order]
  | cons x xs ih =>
    cases b with
    | nil => cases c <;> simp [order]
    | cons y ys =>
      cases c with
      | nil =>
        simp only [order]
        refine ⟨fun _ h => ?_, fun _ h => ?_, fun _ h => ?_⟩ <;> omega
      | cons z zs =>
        have ih' := ih ys zs
        by_cases h1 : x = y
        · subst h1
          by_cases h2 : x = z
          · subst h2; simpa only [order, if_true] using ih'
          · simp only [order, if_true, if_neg h2]
            refine ⟨fun _ h => h, fun _ h => ?_, fun _ h => h⟩
            split at h <;> simp_all
        · have n1 := u8_ne h1
          by_cases h2 : y = z
          · subst h2
            simp only [order, if_true, if_neg h1]
            refine ⟨fun h _ => h, fun h _ => h, fun h _ => ?_⟩
            split at h <;> simp_all
          · have n2 := u8_ne h2
            by_cases h3 : x = z
            · subst h3
              have n3 : ¬ y = x := fun e => h1 e.symm
              simp only [order, if_true, if_neg h1, if_neg n3]
              refine ⟨fun h h' => ?_, fun h h' => ?_, fun h h' => ?_⟩ <;> (split at h <;> split at h' <;> omega)
            · simp only [order, if_neg h1, if_neg h2, if_neg h3]
              refine ⟨fun h h' => ?_, fun h h' => ?_, fun h h' => ?_⟩ <;> (split at h <;> split at h' <;> split <;> omega)
theorem common_le (a b : List UInt8) : common a b ≤ a.length ∧ common a b ≤ b.length := by
  induction a generalizing b with
  | nil => simp [common]
  | cons x xs ih =>
    cases b with
    | nil => simp [common]
    | cons y ys =>
      have := ih ys
      by_cases h : x = y
      · simp only [common, if_pos h, List.length_cons]; omega
      · simp only [common, if_neg h, List.length_cons]; omega
theorem common_take (a b : List UInt8) : a.take (common a b) = b.take (common a b) := by
  induction a generalizing b with
  | nil => simp [common]
  | cons x xs ih =>
    cases b with
    | nil => simp [common]
    | cons y ys =>
      by_cases h : x = y
      · subst h; simp [common, ih]
      · simp [common, if_neg h]
theorem common_part (a b : List UInt8) (h1 : common a b < a.length) (h2 : common a b < b.length) : a.getD (common a b) 0 ≠ b.getD (common a b) 0 := by
  induction a generalizing b with
  | nil => simp at h1
  | cons x xs ih =>
    cases b with
    | nil => simp at h2
    | cons y ys =>
      by_cases h : x = y
      · subst h
        simp only [common, if_true, List.length_cons] at h1 h2 ⊢
        simpa using ih ys (by omega) (by omega)
      · simpa [common, if_neg h] using h
/-- The first place where two part tells the order. -/
theorem order_common (a b : List UInt8) : order (a.drop (common a b)) (b.drop (common a b)) = order a b := by
  have h := order_app (a.take (common a b)) (a.drop (common a b)) (b.drop (common a b))
  rw [List.take_append_drop, common_take a b, List.take_append_drop] at h
  exact h.symm
theorem split_at (a : List UInt8) (k : Nat) (h : k < a.length) : a = a.take k ++ a.getD k 0 :: a.drop (k + 1) := by
  rw [List.getD_eq_getElem?_getD, List.getElem?_eq_getElem h]
  simp
theorem order_at (a b : List UInt8) (k : Nat) (h1 : k < a.length) (h2 : k < b.length) (ht : a.take k = b.take k) (hn : a.getD k 0 ≠ b.getD k 0) :
    order a b = (if (a.getD k 0).toNat < (b.getD k 0).toNat then -1 else 1) ∧ common a b = k := by
  constructor
  · conv => lhs; rw [split_at a k h1, split_at b k h2, ht, order_app]
    simp only [order, if_neg hn]
  · conv => lhs; rw [split_at a k h1, split_at b k h2, ht, common_app]
    simp only [common, if_neg hn, List.length_take]; omega
theorem order_end (a b : List UInt8) (k : Nat) (hk : k = min a.length b.length) (ht : a.take k = b.take k) :
    order a b = (if a.length < b.length then -1 else if a.length = b.length then 0 else 1) ∧ common a b = k := by
  by_cases h : a.length ≤ b.length
  · have hk' : k = a.length := by omega
    subst hk'
    rw [List.take_length] at ht
    have hb : b = a ++ b.drop a.length := by
      conv => lhs; rw [← List.take_append_drop a.length b, ← ht]
    constructor
    · conv => lhs; rw [hb]
      have := order_app a [] (b.drop a.length)
      rw [List.append_nil] at this
      rw [this]
      cases hd : b.drop a.length with
      | nil =>
        have : (b.drop a.length).length = 0 := by rw [hd]; rfl
        rw [List.length_drop] at this
        rw [if_neg (by omega), if_pos (by omega)]; rfl
      | cons y ys =>
        have : (b.drop a.length).length = ys.length + 1 := by rw [hd]; rfl
        rw [List.length_drop] at this
        rw [if_pos (by omega)]; rfl
    · conv => lhs; rw [hb]
      have := common_app a [] (b.drop a.length)
      rw [List.append_nil] at this
      rw [this]; simp [common]
  · have hk' : k = b.length := by omega
    subst hk'
    rw [List.take_length] at ht
    have ha : a = b ++ a.drop b.length := by
      conv => lhs; rw [← List.take_append_drop b.length a, ht]
    rw [if_neg (by omega), if_neg (by omega)]
    constructor
    · conv => lhs; rw [ha]
      have := order_app b (a.drop b.length) []
      rw [List.append_nil] at this
      rw [this]
      cases hd : a.drop b.length with
      | nil =>
        have : (a.drop b.length).length = 0 := by rw [hd]; rfl
        rw [List.length_drop] at this
        omega
      | cons y ys => rfl
    · conv => lhs; rw [ha]
      have := common_app b (a.drop b.length) []
      rw [List.append_nil] at this
      rw [this]
      cases a.drop b.length <;> simp [common]
end Go.Proofs.YthdblnfohbldcaaGreat.Nums
/-
  What the program and the document's answer tell of two texts: Compare and Common.
-/
namespace Go.Proofs.YthdblnfohbldcaaGreat.Nums
set_option linter.unusedVariables false
open Go.ChangeShapes Go.WideShapes Go.ChangeAt Go.RowKit
open Go.Proofs.YthdblnfohbldcaaGreat.Base
def sgn (a b : Int) : Int := if a < b then -1 else if b < a then 1 else 0
theorem nan8_any (k : Int) (w : World) : Calls Tryz.prog 143 #[.int .u8 k] w fun e w' => e = .returned (.bool false) ∧ w' = w := by
  have h : (k != k) = false := by simp
  go_enter Tryz.func143, Tryz.ntmps143
  go_wp2
  go_ret
  exact ⟨rfl, rfl⟩
theorem nanI_any (k : Int) (w : World) : Calls Tryz.prog 144 #[.int .i64 k] w fun e w' => e = .returned (.bool false) ∧ w' = w := by
  have h : (k != k) = false := by simp
  go_enter Tryz.func144, Tryz.ntmps144
  go_wp2
  go_ret
  exact ⟨rfl, rfl⟩
theorem cmp8_any (a b : Int) (w : World) : Calls Tryz.prog 105 #[.int .u8 a, .int .u8 b] w fun e w' => e = .returned (.int .i64 (sgn a b)) ∧ w' = w := by
  go_enter Tryz.func105, Tryz.ntmps105
  go_wp2_with fail
  refine (nan8_any _ _).mono ?_
  rintro e w1 ⟨rfl, rfl⟩
  go_wp2_with fail
  refine (nan8_any _ _).mono ?_
  rintro e w1 ⟨rfl, rfl⟩
  by_cases h1 : a < b
  · go_wp2
    go_ret
    exact ⟨ret_int (by unfold sgn; rw [if_pos (by omega)]), rfl⟩
  · by_cases h2 : b < a
    · go_wp2
      go_ret
      exact ⟨ret_int (by unfold sgn; rw [if_neg (by omega), if_pos (by omega)]), rfl⟩
    · go_wp2
      go_ret
      exact ⟨ret_int (by unfold sgn; rw [if_neg (by omega), if_neg (by omega)]), rfl⟩
theorem cmpI_any (a b : Int) (w : World) : Calls Tryz.prog 106 #[.int .i64 a, .int .i64 b] w fun e w' => e = .returned (.int .i64 (sgn a b)) ∧ w' = w := by
  go_enter Tryz.func106, Tryz.ntmps106
  go_wp2_with fail
  refine (nanI_any _ _).mono ?_
  rintro e w1 ⟨rfl, rfl⟩
  go_wp2_with fail
  refine (nanI_any _ _).mono ?_
  rintro e w1 ⟨rfl, rfl⟩
  by_cases h1 : a < b
  · go_wp2
    go_ret
    exact ⟨ret_int (by unfold sgn; rw [if_pos (by omega)]), rfl⟩
  · by_cases h2 : b < a
    · go_wp2
      go_ret
      exact ⟨ret_int (by unfold sgn; rw [if_neg (by omega), if_pos (by omega)]), rfl⟩
    · go_wp2
      go_ret
      exact ⟨ret_int (by unfold sgn; rw [if_neg (by omega), if_neg (by omega)]), rfl⟩
/-- A text's bytes. -/
def txt (s : ByteArray) : List UInt8 := s.data.toList
theorem length_txt (s : ByteArray) : (txt s).length = s.size := Array.length_toList
theorem txt_get (s : ByteArray) (k : Nat) (h : k < s.size) : (txt s).getD k 0 = s[k] := by
  have hl : k < (txt s).length := by rw [length_txt]; exact h
  rw [List.getD_eq_getElem?_getD, List.getElem?_eq_getElem hl]
  rfl
theorem txt_take (s : ByteArray) (k : Nat) (h : k < s.size) : (txt s).take (k + 1) = (txt s).take k ++ [s[k]] := by
  have hl : k < (txt s).length := by rw [length_txt]; exact h
  rw [List.take_succ_eq_append_getElem hl]
  rfl
theorem sgn_byte (a b : UInt8) (h : a ≠ b) : sgn (a.toNat : Int) (b.toNat : Int) = if a.toNat < b.toNat then -1 else 1 := by
  have := u8_ne h
  unfold sgn
  by_cases h1 : a.toNat < b.toNat
  · rw [if_pos (by omega), if_pos h1]
  · rw [if_neg (by omega), if_pos (by omega), if_neg h1]
theorem sgn_len (m n : Nat) : sgn (m : Int) (n : Int) = if m < n then -1 else if m = n then 0 else 1 := by
  unfold sgn
  by_cases h1 : m < n
  · rw [if_pos (by omega), if_pos h1]
  · by_cases h2 : m = n
    · rw [if_neg (by omega), if_neg (by omega), if_neg h1, if_pos h2]
    · rw [if_neg (by omega), if_pos (by omega), if_neg h1, if_neg h2]
theorem cond_take {s t : ByteArray} {k : Nat} (h1 : k < s.size) (h2 : k < t.size) (ht : (txt s).take k = (txt t).take k) (h : s[k] = t[k]) : (txt s).take (k + 1) = (txt t).take (k + 1) := by
  rw [txt_take s k h1, txt_take t k h2, ht, h]
theorem order_here {s t : ByteArray} {k : Nat} (h1 : k < s.size) (h2 : k < t.size) (ht : (txt s).take k = (txt t).take k) (h : ¬ s[k] = t[k]) : order (txt s) (txt t) = sgn (s[k].toNat : Int) (t[k].toNat : Int) ∧ common (txt s) (txt t) = k := by
  have := order_at (txt s) (txt t) k (by rw [length_txt]; exact h1) (by rw [length_txt]; exact h2) ht (by rw [txt_get s k h1, txt_get t k h2]; exact h)
  rw [txt_get s k h1, txt_get t k h2] at this
  rw [sgn_byte _ _ h]; exact this
theorem order_stop {s t : ByteArray} {k : Nat} (hk : k = min s.size t.size) (ht : (txt s).take k = (txt t).take k) : order (txt s) (txt t) = sgn (s.size : Int) (t.size : Int) ∧ common (txt s) (txt t) = k := by
  have := order_end (txt s) (txt t) k (by rw [length_txt, length_txt]; exact hk) ht
  rw [length_txt, length_txt] at this
  rw [sgn_len]; exact this
set_option maxHeartbeats 1000000 in
theorem compare_any (s t : ByteArray) (w : World) (hs : s.size ≤ 9223372036854775807) (ht : t.size ≤ 9223372036854775807) :
    Calls Tryz.prog 59 #[.string s, .string t] w fun e w' => e = .returned (.int .i64 (order (txt s) (txt t))) ∧ Below w.heap.size w w' := by
  rcases Nat.lt_or_ge t.size s.size with hle | hle
  all_goals
    go_enter Tryz.func59, Tryz.ntmps59
    go_wp2
    go_loopw [11] (fun i wr => ∃ k : Nat, k ≤ s.size ∧ k ≤ t.size ∧ i = .int .i64 k ∧ Hid ((txt s).take k = (txt t).take k) ∧ ∃ n, wr = w.drewN n) (fun i _ => s.size - (intOf i).toNat)
    case atStart => exact ⟨0, Nat.zero_le _, Nat.zero_le _, rfl, rfl, 0, rfl⟩
    case round =>
      obtain ⟨k, hk, hk2, rfl, HT, n, rfl⟩ := hrel
      by_cases hlt : k < s.size ∧ k < t.size
      · obtain ⟨h1, h2⟩ := hlt
        have h1i : (k : Int) < (s.size : Int) := by omega
        have h2i : (k : Int) < (t.size : Int) := by omega
        by_cases hne : s[k] = t[k]
        · have hq : ((s[k].toNat : Int) != (t[k].toNat : Int)) = false := by rw [hne]; simp
          have HN := hide (cond_take h1 h2 HT.out hne)
          clear hne
          go_wp2
          go_quiet (fail)
          go_wp2
          go_roundw
          case rel => exact ⟨k + 1, by omega, by omega, by go_num, HN, n + nq, rfl⟩
          case measure => simp [intOf]; omega
        · have hq : ((s[k].toNat : Int) != (t[k].toNat : Int)) = true := by
            rw [bne_iff_ne]; intro h; exact u8_ne hne (by omega)
          have HN := hide (order_here h1 h2 HT.out hne)
          clear hne
          go_wp2
          go_quiet (fail)
          go_wp2
          go_region_held (fun _ => True) (trivial) (first | (go_at_call 105; refine (cmp8_any _ _ _).mono ?_; rintro e w1 ⟨rfl, rfl⟩))
          all_goals
            go_wp2
            go_ret
            exact ⟨ret_int HN.out.1.symm, below_drewN' _ _ _⟩
      · have HE := hide (order_stop (k := k) (by omega) HT.out)
        go_wp2_with fail
        refine (cmpI_any _ _ _).mono ?_
        rintro e w1 ⟨rfl, rfl⟩
        go_wp2
        go_ret
        exact ⟨ret_int HE.out.1.symm, below_drewN' _ _ _⟩
set_option maxHeartbeats 1000000 in
theorem common_any (s t : ByteArray) (w : World) (hs : s.size ≤ 9223372036854775807) (ht : t.size ≤ 9223372036854775807) :
    Calls Tryz.prog 61 #[.string s, .string t] w fun e w' => e = .returned (.int .i64 (common (txt s) (txt t) : Nat)) ∧ Below w.heap.size w w' := by
  rcases Nat.lt_or_ge t.size s.size with hle | hle
  all_goals
    go_enter Tryz.func61, Tryz.ntmps61
    go_wp2
    go_loopw [13] (fun i wr => ∃ k : Nat, k ≤ s.size ∧ k ≤ t.size ∧ i = .int .i64 k ∧ Hid ((txt s).take k = (txt t).take k) ∧ ∃ n, wr = w.drewN n) (fun i _ => s.size - (intOf i).toNat)
    case atStart => exact ⟨0, Nat.zero_le _, Nat.zero_le _, rfl, rfl, 0, rfl⟩
    case round =>
      obtain ⟨k, hk, hk2, rfl, HT, n, rfl⟩ := hrel
      by_cases hlt : k < s.size ∧ k < t.size
      · obtain ⟨h1, h2⟩ := hlt
        have h1i : (k : Int) < (s.size : Int) := by omega
        have h2i : (k : Int) < (t.size : Int) := by omega
        by_cases hne : s[k] = t[k]
        · have hq : ((s[k].toNat : Int) != (t[k].toNat : Int)) = false := by rw [hne]; simp
          have HN := hide (cond_take h1 h2 HT.out hne)
          clear hne
          go_wp2
          go_quiet (fail)
          go_wp2
          go_roundw
          case rel => exact ⟨k + 1, by omega, by omega, by go_num, HN, n + nq, rfl⟩
          case measure => simp [intOf]; omega
        · have hq : ((s[k].toNat : Int) != (t[k].toNat : Int)) = true := by
            rw [bne_iff_ne]; intro h; exact u8_ne hne (by omega)
          have HN := hide (order_here h1 h2 HT.out hne)
          clear hne
          go_wp2
          go_quiet (fail)
          go_wp2
          go_ret
          exact ⟨ret_int (by rw [HN.out.2]), (below_drewN' _ _ _).trans (below_drewN' _ _ _)⟩
      · have HE := hide (order_stop (k := k) (by omega) HT.out)
        go_wp2
        go_ret
        exact ⟨ret_int (by rw [HE.out.2]; omega), below_drewN' _ _ _⟩
theorem common_sizes (s t : ByteArray) : common (txt s) (txt t) ≤ s.size ∧ common (txt s) (txt t) ≤ t.size := by
  have := common_le (txt s) (txt t)
  rw [length_txt, length_txt] at this
  exact this
end Go.Proofs.YthdblnfohbldcaaGreat.Nums
/-
  Slice expressions on bytes, whose capacity may come to nothing.
-/
namespace Go.Proofs.YthdblnfohbldcaaGreat.Base
open Go.ChangeShapes Go.WideShapes Go.ChangeAt Go.RowKit
set_option linter.unusedVariables false
theorem el8 : Tryz.prog.underlying 24 = some (.slice (Tryz.prog.elem 24)) := by kernel_rfl
theorem sz8 (W : World) : (sizeOf (Tryz.prog.elem 24)).run Tryz.prog W = .ok 1 W := by
  have h : (Tryz.prog.info? (Tryz.prog.elem 24)).map (·.size) = some 1 := by kernel_rfl
  cases hq : Tryz.prog.info? (Tryz.prog.elem 24) with
  | none => simp [hq] at h
  | some i => simp [hq] at h; simp [sizeOf, typeInfo, hq, h]
theorem cut_l (b off len cap e : Nat) (h : e ≤ len) (hc : len ≤ cap) : ∃ la : Addr, (∀ W, (Instr.sliceAt 24 (.slice (some ⟨b, off, none⟩) len cap) (some (.int .i64 (e : Int))) none none).run Tryz.prog W = .ok (.slice (some la) (len - e) (cap - e)) W) ∧
    (e < len → la = ⟨b, off + e, none⟩) ∧ la.spot = none ∧ la.block = b := by
  refine ⟨if cap = e then ⟨b, off, none⟩ else ⟨b, off + e, none⟩, fun W => ?_, fun hc => by rw [if_neg (by omega)], by split <;> rfl, by split <;> rfl⟩
  rw [run_sliceAt_slice (h := el8), run_slice_l (ht := el8) (h0 := by omega) (h1 := by omega), sz8]
  simp only [Result.andThen, sliced, Int.toNat_natCast]
  by_cases hc : cap = e
  · rw [if_pos hc, if_pos hc]
  · rw [if_neg hc, if_neg hc]
    simp [Addr.add]
/-- What stands behind the first e bytes. -/
theorem Rd.past {w : World} {b off len : Nat} {bs : List (BitVec 8)} (h : Rd w (some ⟨b, off, none⟩) len bs) (e : Nat) (he : e ≤ len) (la : Addr) (hla : e < len → la = ⟨b, off + e, none⟩) : Rd w (some la) (len - e) (bs.drop e) := by
  by_cases hlt : e < len
  · rw [hla hlt]; exact h.from e he
  · obtain rfl : e = len := by omega
    rw [Nat.sub_self, List.drop_eq_nil_of_le (by rw [h.1]; exact Nat.le_refl _)]
    exact rd_zero _ _
end Go.Proofs.YthdblnfohbldcaaGreat.Base
/-
  Tokens, their text, their bytes, and the reading of bytes: said of lists.
-/
namespace Go.Proofs.YthdblnfohbldcaaGreat.Lz
open Go.Proofs.YthdblnfohbldcaaGreat.Base Go.Proofs.YthdblnfohbldcaaGreat.Nums
set_option linter.unusedVariables false
structure Tok where
  lit : List (BitVec 8)
  dist : Int
  len : Int
/-- A token without a match. -/
abbrev Tok.bare (t : Tok) : Prop := t.dist = 0 ∧ t.len = 0
/-- May the token stand where m bytes are in the text behind its Lit? -/
def right (t : Tok) (m : Nat) (last : Bool) : Bool := if t.bare then last && decide (0 < t.lit.length) else decide (4 ≤ t.len ∧ t.len ≤ 259 ∧ 1 ≤ t.dist ∧ t.dist ≤ 32768 ∧ t.dist ≤ (m : Int))
/-- How many bytes the text of tokens has, and the error. -/
def measure : Nat → List Tok → Nat × Nat
  | h, [] => (h, 0)
  | h, t :: r => if right t (h + t.lit.length) r.isEmpty = true then (if 65536 < h + t.lit.length + t.len.toNat then (0, 2) else measure (h + t.lit.length + t.len.toNat) r) else (0, 31)
/-- n bytes once more, from d places ahead of the end. -/
def copyN (d : Nat) : Nat → List (BitVec 8) → List (BitVec 8)
  | 0, x => x
  | n + 1, x => copyN d n (x ++ [x.getD (x.length - d) 0])
def grow (x : List (BitVec 8)) (t : Tok) : List (BitVec 8) := copyN t.dist.toNat t.len.toNat (x ++ t.lit)
def expand (x : List (BitVec 8)) (ts : List Tok) : List (BitVec 8) := ts.foldl grow x
theorem length_copyN (d n : Nat) : ∀ x, (copyN d n x).length = x.length + n := by
  induction n with
  | zero => intro x; rfl
  | succ n ih => intro x; simp only [copyN]; rw [ih]; simp; omega
theorem copyN_snoc (d n : Nat) : ∀ x, copyN d (n + 1) x = copyN d n x ++ [(copyN d n x).getD ((copyN d n x).length - d) 0] := by
  induction n with
  | zero => intro x; rfl
  | succ n ih => intro x; rw [copyN, ih]; rfl
theorem length_grow (x : List (BitVec 8)) (t : Tok) : (grow x t).length = x.length + t.lit.length + t.len.toNat := by
  unfold grow; rw [length_copyN, List.length_append]
/-- A token's bytes. -/
def putTok (t : Tok) : List (BitVec 8) := put t.lit.length ++ (t.lit ++ (if t.bare then [] else put (t.len - 4).toNat ++ put t.dist.toNat))
def bytesOf (ts : List Tok) : List (BitVec 8) := ts.flatMap putTok
theorem bytesOf_cons (t : Tok) (r : List Tok) : bytesOf (t :: r) = putTok t ++ bytesOf r := by simp [bytesOf]
theorem bytesOf_append (r s : List Tok) : bytesOf (r ++ s) = bytesOf r ++ bytesOf s := by simp [bytesOf]
/-- The number at the head, of at most so much: its value, how many bytes (0: there is none). -/
def number (b : List (BitVec 8)) (most : Int) : Nat × Nat := if (get b).2.2 ≠ 0 ∨ most < ((get b).1 : Int) then (0, 0) else ((get b).1, (get b).2.1)
/-- The token at the head of bytes, where h bytes of a text of n stand. -/
def first (b : List (BitVec 8)) (h n : Nat) : Option (Tok × Nat) :=
  if (number b ((n : Int) - h)).2 = 0 ∨ b.length - (number b ((n : Int) - h)).2 < (number b ((n : Int) - h)).1 then none
  else if h + (number b ((n : Int) - h)).1 = n then some (⟨(b.drop (number b ((n : Int) - h)).2).take (number b ((n : Int) - h)).1, 0, 0⟩, (number b ((n : Int) - h)).2 + (number b ((n : Int) - h)).1)
  else
    if (number (b.drop ((number b ((n : Int) - h)).2 + (number b ((n : Int) - h)).1)) (min 259 ((n : Int) - (h + (number b ((n : Int) - h)).1)) - 4)).2 = 0 then none
    else
      if (number (b.drop ((number b ((n : Int) - h)).2 + (number b ((n : Int) - h)).1 + (number (b.drop ((number b ((n : Int) - h)).2 + (number b ((n : Int) - h)).1)) (min 259 ((n : Int) - (h + (number b ((n : Int) - h)).1)) - 4)).2)) (min 32768 ((h : Int) + (number b ((n : Int) - h)).1))).2 = 0 ∨ (number (b.drop ((number b ((n : Int) - h)).2 + (number b ((n : Int) - h)).1 + (number (b.drop ((number b ((n : Int) - h)).2 + (number b ((n : Int) - h)).1)) (min 259 ((n : Int) - (h + (number b ((n : Int) - h)).1)) - 4)).2)) (min 32768 ((h : Int) + (number b ((n : Int) - h)).1))).1 = 0 then none
      else some (⟨(b.drop (number b ((n : Int) - h)).2).take (number b ((n : Int) - h)).1,
        ((number (b.drop ((number b ((n : Int) - h)).2 + (number b ((n : Int) - h)).1 + (number (b.drop ((number b ((n : Int) - h)).2 + (number b ((n : Int) - h)).1)) (min 259 ((n : Int) - (h + (number b ((n : Int) - h)).1)) - 4)).2)) (min 32768 ((h : Int) + (number b ((n : Int) - h)).1))).1 : Int),
        ((number (b.drop ((number b ((n : Int) - h)).2 + (number b ((n : Int) - h)).1)) (min 259 ((n : Int) - (h + (number b ((n : Int) - h)).1)) - 4)).1 : Int) + 4⟩,
        (number b ((n : Int) - h)).2 + (number b ((n : Int) - h)).1 + (number (b.drop ((number b ((n : Int) - h)).2 + (number b ((n : Int) - h)).1)) (min 259 ((n : Int) - (h + (number b ((n : Int) - h)).1)) - 4)).2 + (number (b.drop ((number b ((n : Int) - h)).2 + (number b ((n : Int) - h)).1 + (number (b.drop ((number b ((n : Int) - h)).2 + (number b ((n : Int) - h)).1)) (min 259 ((n : Int) - (h + (number b ((n : Int) - h)).1)) - 4)).2)) (min 32768 ((h : Int) + (number b ((n : Int) - h)).1))).2)
theorem number_none (b : List (BitVec 8)) (most : Int) (h : (number b most).2 = 0) : number b most = (0, 0) := by
  unfold number at h ⊢
  split at h
  · rename_i hc; rw [if_pos hc]
  · rename_i hc
    simp only [not_or, Decidable.not_not] at hc
    rcases get_cases b with ⟨u, m, g1, g2, _⟩ | ⟨g1, _⟩ | ⟨g1, _⟩
    · rw [g1] at h; simp at h; omega
    · rw [g1] at hc; simp at hc
    · rw [g1] at hc; simp at hc
theorem number_some (b : List (BitVec 8)) (most : Int) (h : (number b most).2 ≠ 0) : ∃ u rest, number b most = (u, (put u).length) ∧ b = put u ++ rest ∧ (u : Int) ≤ most ∧ u < 9223372036854775808 := by
  unfold number at h ⊢
  split at h
  · simp at h
  · rename_i hc
    rw [if_neg hc]
    simp only [not_or, Decidable.not_not] at hc
    rcases get_cases b with ⟨u, m, g1, g2, _, g4, g5, g6⟩ | ⟨g1, _⟩ | ⟨g1, _⟩
    · rw [g1] at hc ⊢
      refine ⟨u, b.drop m, ?_, ?_, by simp at hc; omega, g6⟩
      · rw [g5, List.length_take, Nat.min_eq_left g4]
      · rw [g5, List.take_append_drop]
    · rw [g1] at hc; simp at hc
    · rw [g1] at hc; simp at hc
theorem number_put (u : Nat) (rest : List (BitVec 8)) (most : Int) (h : (u : Int) ≤ most) (hu : u < 9223372036854775808) : number (put u ++ rest) most = (u, (put u).length) := by
  unfold number
  rw [get_put u rest hu, if_neg (by simp; omega)]
theorem number_cases (b : List (BitVec 8)) (most : Int) : number b most = (0, 0) ∨ ∃ u rest, number b most = (u, (put u).length) ∧ b = put u ++ rest ∧ (u : Int) ≤ most ∧ u < 9223372036854775808 := by
  by_cases h : (number b most).2 = 0
  · exact .inl (number_none b most h)
  · exact .inr (number_some b most h)
theorem put_pos (u : Nat) : 1 ≤ (put u).length := by
  rw [put, putF]; split <;> simp
/-- The token stands rightly where h bytes of a text of n stand. -/
def Ok (t : Tok) (h n : Nat) : Prop :=
  (t.bare ∧ h + t.lit.length = n) ∨ (h + t.lit.length < n ∧ 4 ≤ t.len ∧ t.len ≤ 259 ∧ (h : Int) + t.lit.length + t.len ≤ n ∧ 1 ≤ t.dist ∧ t.dist ≤ 32768 ∧ t.dist ≤ (h : Int) + t.lit.length)
theorem putTok_bare (t : Tok) (h : t.bare) : putTok t = put t.lit.length ++ t.lit := by unfold putTok; rw [if_pos h]; simp
theorem putTok_match (t : Tok) (h : ¬ t.bare) : putTok t = put t.lit.length ++ (t.lit ++ (put (t.len - 4).toNat ++ put t.dist.toNat)) := by unfold putTok; rw [if_neg h]
theorem not_bare (t : Tok) (h : 4 ≤ t.len) : ¬ t.bare := fun e => by have := e.2; omega
theorem putTok_pos (t : Tok) : 1 ≤ (putTok t).length := by
  unfold putTok; rw [List.length_append]; have := put_pos t.lit.length; omega
/-- What is read is a right token, and its bytes stand there. -/
theorem first_some (b : List (BitVec 8)) (h n : Nat) (t : Tok) (s : Nat) (hn : n ≤ 65536) (e : first b h n = some (t, s)) : Ok t h n ∧ s = (putTok t).length ∧ ∃ rest, b = putTok t ++ rest := by
  unfold first at e
  rcases number_cases b ((n : Int) - h) with h0 | ⟨c, r1, h0, hb, hc, hc2⟩
  · rw [h0] at e; simp at e
  · rw [h0] at e
    have hl : b.length = (put c).length + r1.length := by rw [hb, List.length_append]
    have hp := put_pos c
    have hd : b.drop (put c).length = r1 := by rw [hb, List.drop_left]
    simp only at e
    by_cases h1 : c ≤ r1.length
    · rw [if_neg (by omega), hd] at e
      obtain ⟨lit, r2, rfl, hlit⟩ : ∃ lit r2, r1 = lit ++ r2 ∧ lit.length = c := ⟨r1.take c, r1.drop c, by simp, by simp; omega⟩
      have ht : (lit ++ r2).take c = lit := by rw [← hlit, List.take_left]
      have hd2 : b.drop ((put c).length + c) = r2 := by rw [← List.drop_drop, hd, ← hlit, List.drop_left]
      rw [ht, hd2] at e
      by_cases h2 : h + c = n
      · rw [if_pos h2] at e
        simp only [Option.some.injEq, Prod.mk.injEq] at e
        obtain ⟨rfl, rfl⟩ := e
        have hbare : Tok.bare ⟨lit, 0, 0⟩ := ⟨rfl, rfl⟩
        rw [putTok_bare _ hbare]
        exact ⟨.inl ⟨hbare, by simp only [hlit]; exact h2⟩, by simp [hlit], r2, by rw [hb]; simp [hlit]⟩
      · rw [if_neg h2] at e
        rcases number_cases r2 (min 259 ((n : Int) - (h + c)) - 4) with h3 | ⟨m, r3, h3, hr2, hm, hm2⟩
        · rw [h3] at e; simp at e
        · rw [h3] at e
          have hp2 := put_pos m
          rw [if_neg (by simp only; omega)] at e
          have hd3 : b.drop ((put c).length + c + (put m).length) = r3 := by rw [← List.drop_drop, hd2, hr2, List.drop_left]
          simp only [hd3] at e
          rcases number_cases r3 (min 32768 ((h : Int) + c)) with h4 | ⟨d, r4, h4, hr3, hdm, hdm2⟩
          · rw [h4] at e; simp at e
          · rw [h4] at e
            have hp3 := put_pos d
            simp only at e
            by_cases h5 : d = 0
            · rw [if_pos (by omega)] at e; simp at e
            · rw [if_neg (by omega)] at e
              simp only [Option.some.injEq, Prod.mk.injEq] at e
              obtain ⟨rfl, rfl⟩ := e
              have hnb : ¬ Tok.bare ⟨lit, (d : Int), (m : Int) + 4⟩ := not_bare _ (by simp only; omega)
              rw [putTok_match _ hnb]
              have e1 : ((m : Int) + 4 - 4).toNat = m := by omega
              have e2 : ((d : Int)).toNat = d := by omega
              simp only [e1, e2]
              refine ⟨.inr ⟨by simp only [hlit]; omega, by simp only; omega, by simp only; omega, by simp only [hlit]; omega, by simp only; omega, by simp only; omega, by simp only [hlit]; omega⟩, by simp [hlit]; omega, r4, ?_⟩
              rw [hb, hr2, hr3]; simp [hlit]
    · rw [if_pos (by omega)] at e; simp at e
/-- A right token's bytes are read as it. -/
theorem first_put (t : Tok) (h n : Nat) (rest : List (BitVec 8)) (hn : n ≤ 65536) (hh : h ≤ n) (ok : Ok t h n) : first (putTok t ++ rest) h n = some (t, (putTok t).length) := by
  have hlit : h + t.lit.length ≤ n := by rcases ok with ⟨_, h1⟩ | ⟨h1, _⟩ <;> omega
  obtain ⟨lit, dist, len⟩ := t
  simp only at hlit
  rcases ok with ⟨hb, h1⟩ | ⟨h1, h2, h3, h4, h5, h6, h7⟩
  · simp only at h1
    rw [putTok_bare _ hb]
    obtain ⟨rfl, rfl⟩ : dist = 0 ∧ len = 0 := hb
    have e1 : number (put lit.length ++ lit ++ rest) ((n : Int) - h) = (lit.length, (put lit.length).length) := by
      rw [List.append_assoc]; exact number_put _ _ _ (by omega) (by omega)
    unfold first
    have hp := put_pos lit.length
    have e2 : (put lit.length ++ lit ++ rest).length - (put lit.length).length = lit.length + rest.length := by simp
    rw [e1]
    simp only
    rw [e2, if_neg (by omega), if_pos h1, List.append_assoc, List.drop_left, List.take_left, List.length_append]
  · simp only at h1 h2 h3 h4 h5 h6 h7
    have hnb : ¬ Tok.bare ⟨lit, dist, len⟩ := not_bare _ h2
    rw [putTok_match _ hnb]
    simp only
    obtain ⟨m, rfl⟩ : ∃ m : Nat, len = (m : Int) + 4 := ⟨(len - 4).toNat, by omega⟩
    obtain ⟨d, rfl⟩ := Int.eq_ofNat_of_zero_le (by omega : 0 ≤ dist)
    have em : ((m : Int) + 4 - 4).toNat = m := by omega
    rw [em, Int.toNat_natCast]
    have e1 : number (put lit.length ++ (lit ++ (put m ++ put d)) ++ rest) ((n : Int) - h) = (lit.length, (put lit.length).length) := by
      rw [List.append_assoc]; exact number_put _ _ _ (by omega) (by omega)
    unfold first
    have hp := put_pos lit.length
    have hp2 := put_pos m
    have hp3 := put_pos d
    have e2 : (put lit.length ++ (lit ++ (put m ++ put d)) ++ rest).length - (put lit.length).length = lit.length + ((put m).length + (put d).length) + rest.length := by simp; omega
    have e3 : (put lit.length ++ (lit ++ (put m ++ put d)) ++ rest).drop ((put lit.length).length + lit.length) = put m ++ (put d ++ rest) := by
      rw [← List.drop_drop, List.append_assoc, List.drop_left, List.append_assoc, List.drop_left, List.append_assoc]
    have e4 : number (put m ++ (put d ++ rest)) (min 259 ((n : Int) - (h + lit.length)) - 4) = (m, (put m).length) := number_put _ _ _ (by omega) (by omega)
    have e5 : (put lit.length ++ (lit ++ (put m ++ put d)) ++ rest).drop ((put lit.length).length + lit.length + (put m).length) = put d ++ rest := by
      rw [← List.drop_drop, e3, List.drop_left]
    have e6 : number (put d ++ rest) (min 32768 ((h : Int) + lit.length)) = (d, (put d).length) := number_put _ _ _ (by omega) (by omega)
    rw [e1]
    simp only
    rw [e2, if_neg (by omega), if_neg (by omega), e3, e4]
    simp only
    rw [if_neg (by omega), e5, e6]
    simp only
    rw [if_neg (by omega)]
    have e7 : (put lit.length ++ (lit ++ (put m ++ put d)) ++ rest).drop (put lit.length).length = lit ++ (put m ++ put d) ++ rest := by rw [List.append_assoc, List.drop_left]
    rw [e7, List.append_assoc, List.take_left]
    congr 2
    simp; omega
theorem ok_adv (t : Tok) (h n : Nat) (ok : Ok t h n) (hn : h < n) : h < h + t.lit.length + t.len.toNat ∧ h + t.lit.length + t.len.toNat ≤ n := by
  rcases ok with ⟨⟨_, hb⟩, h1⟩ | ⟨h1, h2, h3, h4, _⟩ <;> omega
theorem first_adv {b : List (BitVec 8)} {h n : Nat} {t : Tok} {s : Nat} (hn : h < n ∧ n ≤ 65536) (e : first b h n = some (t, s)) : h < h + t.lit.length + t.len.toNat ∧ h + t.lit.length + t.len.toNat ≤ n :=
  ok_adv t h n (first_some b h n t s hn.2 e).1 hn.1
/-- The tokens that are read, and the error, by at most so many tokens. -/
def readF : Nat → List (BitVec 8) → Nat → Nat → List Tok × Nat
  | 0, b, _, _ => ([], if b = [] then 0 else 30)
  | f + 1, b, h, n =>
    if h < n ∧ n ≤ 65536 then
      match first b h n with
      | none => ([], 30)
      | some (t, s) => (t :: (readF f (b.drop s) (h + t.lit.length + t.len.toNat) n).1, (readF f (b.drop s) (h + t.lit.length + t.len.toNat) n).2)
    else ([], if b = [] then 0 else 30)
theorem readF_next (f : Nat) (b : List (BitVec 8)) (h n : Nat) (t : Tok) (s : Nat) (hn : h < n ∧ n ≤ 65536) (hf : first b h n = some (t, s)) :
    readF (f + 1) b h n = (t :: (readF f (b.drop s) (h + t.lit.length + t.len.toNat) n).1, (readF f (b.drop s) (h + t.lit.length + t.len.toNat) n).2) := by
  rw [readF, if_pos hn, hf]
theorem readF_any : ∀ (f g : Nat) (b : List (BitVec 8)) (h n : Nat), n - h < f → n - h < g → readF f b h n = readF g b h n
  | 0, _, _, _, _, h1, _ => absurd h1 (by omega)
  | _ + 1, 0, _, _, _, _, h2 => absurd h2 (by omega)
  | f + 1, g + 1, b, h, n, h1, h2 => by
    by_cases hn : h < n ∧ n ≤ 65536
    · cases hf : first b h n with
      | none => rw [readF, readF, if_pos hn, hf, if_pos hn]
      | some p =>
        obtain ⟨t, s⟩ := p
        have ha := first_adv hn hf
        rw [readF_next f b h n t s hn hf, readF_next g b h n t s hn hf, readF_any f g (b.drop s) _ n (by omega) (by omega)]
    · rw [readF, readF, if_neg hn, if_neg hn]
/-- The tokens that are read, and the error. -/
def read (b : List (BitVec 8)) (h n : Nat) : List Tok × Nat := readF (n - h + 1) b h n
theorem read_end (b : List (BitVec 8)) (h n : Nat) (hn : ¬ h < n) : read b h n = ([], if b = [] then 0 else 30) := by rw [read, readF, if_neg (fun e => hn e.1)]
theorem read_fail (b : List (BitVec 8)) (h n : Nat) (hn : h < n) (hm : n ≤ 65536) (hf : first b h n = none) : read b h n = ([], 30) := by
  rw [read, readF, if_pos ⟨hn, hm⟩, hf]
theorem read_next (b : List (BitVec 8)) (h n : Nat) (t : Tok) (s : Nat) (hn : h < n) (hm : n ≤ 65536) (hf : first b h n = some (t, s)) :
    read b h n = (t :: (read (b.drop s) (h + t.lit.length + t.len.toNat) n).1, (read (b.drop s) (h + t.lit.length + t.len.toNat) n).2) := by
  have ha := first_adv ⟨hn, hm⟩ hf
  have e := readF_any (n - h) (n - (h + t.lit.length + t.len.toNat) + 1) (b.drop s) (h + t.lit.length + t.len.toNat) n (by omega) (by omega)
  have e2 := readF_next (n - h) b h n t s ⟨hn, hm⟩ hf
  rw [e] at e2
  exact e2
/-- A right list, from h bytes of a text on to n. -/
def Good : List Tok → Nat → Nat → Prop
  | [], h, n => h = n
  | t :: r, h, n => h < n ∧ Ok t h n ∧ Good r (h + t.lit.length + t.len.toNat) n
theorem read_good (ts : List Tok) : ∀ (h n : Nat), h ≤ n → n ≤ 65536 → Good ts h n → read (bytesOf ts) h n = (ts, 0) := by
  induction ts with
  | nil => intro h n hh hn hg; simp only [Good] at hg; rw [read_end _ _ _ (by omega)]; simp [bytesOf]
  | cons t r ih =>
    intro h n hh hn hg
    obtain ⟨h1, h2, h3⟩ := hg
    have ha := ok_adv t h n h2 h1
    have hf : first (bytesOf (t :: r)) h n = some (t, (putTok t).length) := by rw [bytesOf_cons]; exact first_put t h n _ hn hh h2
    rw [read_next _ _ _ _ _ h1 hn hf, bytesOf_cons, List.drop_left, ih _ _ (by omega) hn h3]
theorem read_ok (k : Nat) : ∀ (b : List (BitVec 8)) (h n : Nat) (ts : List Tok), n - h ≤ k → h ≤ n → n ≤ 65536 → read b h n = (ts, 0) → Good ts h n ∧ b = bytesOf ts := by
  induction k with
  | zero =>
    intro b h n ts hk hh hn e
    rw [read_end _ _ _ (by omega)] at e
    simp only [Prod.mk.injEq] at e
    obtain ⟨rfl, e2⟩ := e
    split at e2
    · rename_i hb; subst hb; exact ⟨by simp only [Good]; omega, rfl⟩
    · cases e2
  | succ k ih =>
    intro b h n ts hk hh hn e
    by_cases h1 : h < n
    · cases hf : first b h n with
      | none => rw [read_fail _ _ _ h1 hn hf] at e; simp at e
      | some p =>
        obtain ⟨t, s⟩ := p
        rw [read_next _ _ _ _ _ h1 hn hf] at e
        simp only [Prod.mk.injEq] at e
        obtain ⟨rfl, e2⟩ := e
        obtain ⟨h2, rfl, rest, rfl⟩ := first_some b h n t s hn hf
        have ha := ok_adv t h n h2 h1
        rw [List.drop_left] at e2 ⊢
        obtain ⟨g1, g2⟩ := ih rest _ n _ (by omega) (by omega) hn (Prod.ext rfl e2)
        exact ⟨⟨h1, h2, g1⟩, by rw [bytesOf_cons, ← g2]⟩
    · rw [read_end _ _ _ h1] at e
      simp only [Prod.mk.injEq] at e
      obtain ⟨rfl, e2⟩ := e
      split at e2
      · rename_i hb; subst hb; exact ⟨by simp only [Good]; omega, rfl⟩
      · cases e2
theorem read_err (k : Nat) : ∀ (b : List (BitVec 8)) (h n : Nat), n - h ≤ k → n ≤ 65536 → (read b h n).2 = 0 ∨ (read b h n).2 = 30 := by
  induction k with
  | zero =>
    intro b h n hk hn
    rw [read_end _ _ _ (by omega)]
    by_cases hb : b = [] <;> simp [hb]
  | succ k ih =>
    intro b h n hk hn
    by_cases h1 : h < n
    · cases hf : first b h n with
      | none => rw [read_fail _ _ _ h1 hn hf]; simp
      | some p =>
        obtain ⟨t, s⟩ := p
        rw [read_next _ _ _ _ _ h1 hn hf]
        have ha := first_adv ⟨h1, hn⟩ hf
        exact ih _ _ _ (by omega) hn
    · rw [read_end _ _ _ h1]
      by_cases hb : b = [] <;> simp [hb]
theorem good_le (ts : List Tok) : ∀ h n, Good ts h n → h ≤ n := by
  cases ts with
  | nil => intro h n e; simp only [Good] at e; omega
  | cons t r => intro h n e; have := e.1; omega
/-- What is right is measured so. -/
theorem good_measure (ts : List Tok) : ∀ h n, n ≤ 65536 → Good ts h n → measure h ts = (n, 0) := by
  induction ts with
  | nil => intro h n _ e; simp only [Good] at e; subst e; rfl
  | cons t r ih =>
    intro h n hn e
    obtain ⟨h1, h2, h3⟩ := e
    have ha := ok_adv t h n h2 h1
    simp only [measure]
    have hr : right t (h + t.lit.length) r.isEmpty = true := by
      unfold right
      rcases h2 with ⟨hb, h4⟩ | ⟨h4, h5, h6, h7, h8, h9, h10⟩
      · rw [if_pos hb]
        have hr : r = [] := by
          cases r with
          | nil => rfl
          | cons t' r' => have := h3.1; have := hb.2; omega
        subst hr
        simp; omega
      · rw [if_neg (not_bare _ h5)]
        simp; omega
    rw [if_pos hr, if_neg (by omega)]
    exact ih _ _ hn h3
theorem length_expand (ts : List Tok) : ∀ (x : List (BitVec 8)) (n : Nat), Good ts x.length n → (expand x ts).length = n := by
  induction ts with
  | nil => intro x n e; exact e
  | cons t r ih =>
    intro x n e
    have h3 := e.2.2
    rw [← length_grow] at h3
    exact ih _ _ h3
theorem expand_cons (x : List (BitVec 8)) (t : Tok) (r : List Tok) : expand x (t :: r) = expand (grow x t) r := rfl
theorem expand_snoc (x : List (BitVec 8)) (r : List Tok) (t : Tok) : expand x (r ++ [t]) = grow (expand x r) t := by unfold expand; rw [List.foldl_append]; rfl
/-- A byte more, and nothing is read. -/
theorem read_longer (b c : List (BitVec 8)) (h n : Nat) (ts : List Tok) (hh : h ≤ n) (hn : n ≤ 65536) (hc : c ≠ []) (e : read b h n = (ts, 0)) : (read (b ++ c) h n).2 = 30 := by
  obtain ⟨g, rfl⟩ := read_ok _ b h n ts (Nat.le_refl _) hh hn e
  clear e
  induction ts generalizing h with
  | nil => simp only [Good] at g; rw [read_end _ _ _ (by omega)]; simp [bytesOf, hc]
  | cons t r ih =>
    obtain ⟨h1, h2, h3⟩ := g
    have ha := ok_adv t h n h2 h1
    have hf : first (bytesOf (t :: r) ++ c) h n = some (t, (putTok t).length) := by rw [bytesOf_cons, List.append_assoc]; exact first_put t h n _ hn hh h2
    rw [read_next _ _ _ _ _ h1 hn hf, bytesOf_cons, List.append_assoc, List.drop_left]
    exact ih _ (by omega) h3
theorem read_shorter (b c : List (BitVec 8)) (h n : Nat) (ts : List Tok) (hh : h ≤ n) (hn : n ≤ 65536) (hc : c ≠ []) (e : read (b ++ c) h n = (ts, 0)) : (read b h n).2 = 30 := by
  rcases read_err _ b h n (Nat.le_refl _) hn with h1 | h1
  · have := read_longer b c h n (read b h n).1 hh hn hc (Prod.ext rfl h1)
    rw [e] at this; cases this
  · exact h1
theorem put_len_mono_small (u : Nat) (h : u < 128) : (put u).length = 1 := by rw [put_small u h]; rfl
/-- Of a byte come at most 65. -/
theorem good_short (ts : List Tok) : ∀ h n, n ≤ 65536 → Good ts h n → n ≤ h + 65 * (bytesOf ts).length := by
  induction ts with
  | nil => intro h n _ e; simp only [Good] at e; omega
  | cons t r ih =>
    intro h n hn e
    obtain ⟨h1, h2, h3⟩ := e
    have hi := ih _ _ hn h3
    rw [bytesOf_cons, List.length_append]
    have hk : t.lit.length + t.len.toNat ≤ 65 * (putTok t).length := by
      have hp := put_pos t.lit.length
      rcases h2 with ⟨hb, h4⟩ | ⟨h4, h5, h6, h7, h8, h9, h10⟩
      · rw [putTok_bare _ hb, List.length_append]
        have := hb.2; omega
      · rw [putTok_match _ (not_bare _ h5)]
        simp only [List.length_append]
        have hp2 := put_pos t.dist.toNat
        have hp3 := put_pos (t.len - 4).toNat
        by_cases hs : (t.len - 4).toNat < 128
        · omega
        · rw [put_large (t.len - 4).toNat (by omega), List.length_cons]
          have := put_pos ((t.len - 4).toNat / 128)
          omega
    omega
theorem put_inj (u v : Nat) (a b : List (BitVec 8)) (hu : u < 9223372036854775808) (hv : v < 9223372036854775808) (e : put u ++ a = put v ++ b) : u = v ∧ a = b := by
  have h1 := get_put u a hu
  rw [e, get_put v b hv] at h1
  simp only [Prod.mk.injEq, and_true] at h1
  obtain ⟨rfl, _⟩ := h1
  exact ⟨rfl, List.append_cancel_left e⟩
theorem bytesOf_ne (t : Tok) (r : List Tok) : bytesOf (t :: r) ≠ [] := by
  intro e
  have h := congrArg List.length e
  rw [bytesOf_cons, List.length_append, List.length_nil] at h
  have := putTok_pos t
  omega
theorem put_ne (u : Nat) (a b : List (BitVec 8)) : (put u ++ a) ++ b ≠ [] := by
  intro e
  have h := congrArg List.length e
  rw [List.length_append, List.length_append, List.length_nil] at h
  have := put_pos u
  omega
/-- Bytes tell one length alone. -/
theorem good_one (ts : List Tok) : ∀ (ts' : List Tok) (h n n' : Nat), n ≤ 65536 → n' ≤ 65536 → Good ts h n → Good ts' h n' → bytesOf ts = bytesOf ts' → n = n' := by
  induction ts with
  | nil =>
    intro ts' h n n' _ _ g g' e
    cases ts' with
    | nil => simp only [Good] at g g'; omega
    | cons t r => exact absurd e.symm (bytesOf_ne t r)
  | cons t r ih =>
    intro ts' h n n' hn hn' g g' e
    cases ts' with
    | nil => exact absurd e (bytesOf_ne t r)
    | cons t' r' =>
      obtain ⟨h1, h2, h3⟩ := g
      obtain ⟨h1', h2', h3'⟩ := g'
      have ha := ok_adv t h n h2 h1
      have ha' := ok_adv t' h n' h2' h1'
      rw [bytesOf_cons, bytesOf_cons] at e
      unfold putTok at e
      simp only [List.append_assoc] at e
      obtain ⟨e1, e2⟩ := put_inj t.lit.length t'.lit.length _ _ (by omega) (by omega) e
      obtain ⟨e3, e4⟩ := List.append_inj e2 e1
      have tail : ∀ (t : Tok) (r : List Tok) (n : Nat), t.bare → h + t.lit.length = n → Good r (h + t.lit.length + t.len.toNat) n → bytesOf r = [] := by
        intro t r n hb hl hg
        cases r with
        | nil => rfl
        | cons x y => have := hg.1; have := hb.2; omega
      rcases h2 with ⟨hb, h4⟩ | ⟨h4, h5, h6, h7, h8, h9, h10⟩
      · rcases h2' with ⟨hb', h4'⟩ | ⟨h4', h5', h6', h7', h8', h9', h10'⟩
        · omega
        · rw [if_pos hb, if_neg (not_bare _ h5'), tail t r n hb h4 h3] at e4
          exact absurd e4.symm (put_ne _ _ _)
      · rcases h2' with ⟨hb', h4'⟩ | ⟨h4', h5', h6', h7', h8', h9', h10'⟩
        · rw [if_pos hb', if_neg (not_bare _ h5), tail t' r' n' hb' h4' h3'] at e4
          exact absurd e4 (put_ne _ _ _)
        · rw [if_neg (not_bare _ h5), if_neg (not_bare _ h5'), List.append_assoc, List.append_assoc] at e4
          obtain ⟨e5, e6⟩ := put_inj (t.len - 4).toNat (t'.len - 4).toNat _ _ (by omega) (by omega) e4
          obtain ⟨e7, e8⟩ := put_inj t.dist.toNat t'.dist.toNat _ _ (by omega) (by omega) e6
          have : t'.len.toNat = t.len.toNat := by omega
          rw [this, ← e1] at h3'
          exact ih r' _ n n' hn hn' h3 h3' e8
end Go.Proofs.YthdblnfohbldcaaGreat.Lz
/-
  What the program tells of a token: whether it is right, its text, its bytes.
-/
namespace Go.Proofs.YthdblnfohbldcaaGreat.Lz
open Go.ChangeShapes Go.WideShapes Go.ChangeAt Go.RowKit
open Go.Proofs.YthdblnfohbldcaaGreat.Base Go.Proofs.YthdblnfohbldcaaGreat.Nums
set_option linter.unusedVariables false
/-- A token as a value. -/
def tokV (a : Option Addr) (n c : Nat) (d l : Int) : Value := .agg #[.slice a n c, .int .i64 d, .int .i64 l]
/-- A token in a block of its own. -/
def TRow (w : World) (g : Nat) (v : Value) (d l : Int) : Prop := w.heap[g]? = some (.cells #[v, .int .i64 d, .int .i64 l] 74)
theorem TRow.c0 {w : World} {g : Nat} {v : Value} {p e : Int} (h : TRow w g v p e) : w.cell? ⟨g, 0, none⟩ = some v := by rw [cell_of_row _ _ _ _ _ _ h]; rfl
theorem TRow.c1 {w : World} {g : Nat} {v : Value} {p e : Int} (h : TRow w g v p e) : w.cell? ⟨g, 1, none⟩ = some (.int .i64 p) := by rw [cell_of_row _ _ _ _ _ _ h]; rfl
theorem TRow.c2 {w : World} {g : Nat} {v : Value} {p e : Int} (h : TRow w g v p e) : w.cell? ⟨g, 2, none⟩ = some (.int .i64 e) := by rw [cell_of_row _ _ _ _ _ _ h]; rfl
theorem TRow.fr {w : World} {g : Nat} {v : Value} {p e : Int} (h : TRow w g v p e) (k : Nat) : w.frozen? ⟨g, k, none⟩ = false := frozen_of_row _ _ _ _ _ h
theorem TRow.lt {w : World} {g : Nat} {v : Value} {p e : Int} (h : TRow w g v p e) : g < w.heap.size := block_lt_of_cell h.c0
theorem TRow.grown {w w' : World} {g : Nat} {v : Value} {p e : Int} {r : Option Nat} (h : TRow w g v p e) (hg : w.grownBy w' r) (hr : r ≠ some g) : TRow w' g v p e := by
  unfold TRow; rw [hg.block g h.lt (fun x => hr x.symm)]; exact h
theorem TRow.below {w w' : World} {g : Nat} {v : Value} {p e : Int} (h : TRow w g v p e) (hb : Below w.heap.size w w') : TRow w' g v p e := h.grown (below_grown hb) (by simp)
theorem TRow.new (w : World) (v : Value) (d l : Int) : TRow (w.alloc (.cells #[v, .int .i64 d, .int .i64 l] 74)) w.heap.size v d l := heap_alloc_new _ _
set_option maxRecDepth 100000 in
theorem isNone_any (a : Option Addr) (n c : Nat) (d l : Int) (w : World) :
    Calls Tryz.prog 95 #[.agg #[.slice a n c, .int .i64 d, .int .i64 l]] w fun e w' => e = .returned (.bool (decide (d = 0 ∧ l = 0))) ∧ Below w.heap.size w w' := by
  have HB : Hid (Below w.heap.size w (w.alloc (.cells #[.slice a n c, .int .i64 d, .int .i64 l] 74))) := (Below.refl _ _).alloc (Nat.le_refl _) _
  by_cases h1 : d = 0
  · subst h1
    by_cases h2 : l = 0
    · subst h2
      go_enter Tryz.func95, Tryz.ntmps95
      go_wp2
      go_ret
      exact ⟨ret_bool (by simp), HB.out⟩
    · have h3 : (l == 0) = false := by rw [beq_eq_false_iff_ne]; exact h2
      go_enter Tryz.func95, Tryz.ntmps95
      go_wp2
      go_ret
      exact ⟨ret_bool (by simp [h2]), HB.out⟩
  · have h3 : (d == 0) = false := by rw [beq_eq_false_iff_ne]; exact h1
    go_enter Tryz.func95, Tryz.ntmps95
    go_wp2
    go_ret
    exact ⟨ret_bool (by simp [h1]), HB.out⟩
end Go.Proofs.YthdblnfohbldcaaGreat.Lz
/-
  What the program adds to a text of its own: a token's text, a token's bytes.
-/
namespace Go.Proofs.YthdblnfohbldcaaGreat.Lz
open Go.ChangeShapes Go.WideShapes Go.ChangeAt Go.RowKit
open Go.Proofs.YthdblnfohbldcaaGreat.Base Go.Proofs.YthdblnfohbldcaaGreat.Nums
set_option linter.unusedVariables false
theorem own_named {w : World} {base : Nat} {v : Value} {bs : List (BitVec 8)} (h : Own w base v bs) : ∃ a n c, v = .slice a n c ∧ Hid (n = bs.length) := by
  obtain ⟨a, c, e⟩ := h.shape
  exact ⟨a, _, c, e, rfl⟩
/-- Since the world W the slice v has been added to: it is cur now, and reads as xs. -/
def Ext (W wr : World) (v : Value) (base : Nat) (cur : Value) (xs : List (BitVec 8)) : Prop := Own wr base cur xs ∧ W.grownBy wr v.ownBlock ∧ ∀ i, cur.ownBlock = some i → v.ownBlock = some i ∨ W.heap.size ≤ i
theorem Ext.refl {W : World} {v : Value} {base : Nat} {xs : List (BitVec 8)} (h : Own W base v xs) : Ext W W v base v xs := ⟨h, World.grownBy.refl _ _, fun i e => .inl e⟩
theorem Ext.below {W wr w' : World} {v cur : Value} {base : Nat} {xs : List (BitVec 8)} (h : Ext W wr v base cur xs) (hb : Below wr.heap.size wr w') : Ext W w' v base cur xs :=
  ⟨h.1.below hb, grown_new h.2.1 (below_grown hb) (fun i e => by cases e), h.2.2⟩
theorem Ext.start {W wr w' : World} {v cur : Value} {base : Nat} {xs : List (BitVec 8)} (hb : Below W.heap.size W wr) (h : Ext wr w' v base cur xs) : Ext W w' v base cur xs :=
  ⟨h.1, ⟨h.2.1.os.trans hb.os, h.2.1.tape.trans hb.tape, h.2.1.output.trans hb.output, Nat.le_trans hb.size h.2.1.size, fun i hi hp => (h.2.1.block i (Nat.lt_of_lt_of_le hi hb.size) hp).trans (hb.block i hi)⟩, fun i e => by
    rcases h.2.2 i e with e2 | e2
    · exact .inl e2
    · exact .inr (Nat.le_trans hb.size e2)⟩
theorem Ext.step {W wr w' : World} {v cur cur' : Value} {base : Nat} {xs ys : List (BitVec 8)} (h : Ext W wr v base cur xs) (ho : Own w' base cur' ys) (hg : wr.grownBy w' cur.ownBlock) (hb : cur'.ownBlock = cur.ownBlock ∨ ∃ g, cur'.ownBlock = some g ∧ wr.heap.size ≤ g) : Ext W w' v base cur' ys := by
  obtain ⟨h1, h2, h3⟩ := h
  refine ⟨ho, ⟨hg.os.trans h2.os, hg.tape.trans h2.tape, hg.output.trans h2.output, Nat.le_trans h2.size hg.size, fun i hi hp => ?_⟩, fun i e => ?_⟩
  · refine (hg.block i (Nat.lt_of_lt_of_le hi h2.size) (fun e => ?_)).trans (h2.block i hi hp)
    rcases h3 i e.symm with e2 | e2
    · exact hp e2.symm
    · omega
  · rcases hb with e2 | ⟨g, e2, e3⟩
    · exact h3 i (by rw [← e2]; exact e)
    · rw [e2] at e; cases e; exact .inr (Nat.le_trans h2.size e3)
theorem Ext.push {W wr w' : World} {v cur : Value} {base g n c : Nat} {xs ys : List (BitVec 8)} (h : Ext W wr v base cur xs) (ho : Own w' base (.slice (some ⟨g, 0, none⟩) n c) ys) (hg : cur.ownBlock = some g ∧ wr.grownBy w' (some g) ∨ wr.heap.size ≤ g ∧ wr.grownBy w' none) : Ext W w' v base (.slice (some ⟨g, 0, none⟩) n c) ys := by
  rcases hg with ⟨e, k⟩ | ⟨e, k⟩
  · exact h.step ho (by rw [e]; exact k) (.inl (by rw [e]; rfl))
  · exact h.step ho (grown_any k _) (.inr ⟨g, rfl, e⟩)
theorem Ext.trans {W w1 w2 : World} {v v1 v2 : Value} {base : Nat} {xs ys : List (BitVec 8)} (h : Ext W w1 v base v1 xs) (k : Ext w1 w2 v1 base v2 ys) : Ext W w2 v base v2 ys := by
  obtain ⟨h1, h2, h3⟩ := h
  obtain ⟨k1, k2, k3⟩ := k
  refine ⟨k1, ⟨k2.os.trans h2.os, k2.tape.trans h2.tape, k2.output.trans h2.output, Nat.le_trans h2.size k2.size, fun i hi hp => ?_⟩, fun i e => ?_⟩
  · refine (k2.block i (Nat.lt_of_lt_of_le hi h2.size) (fun e => ?_)).trans (h2.block i hi hp)
    rcases h3 i e.symm with e2 | e2
    · exact hp e2.symm
    · omega
  · rcases k3 i e with e2 | e2
    · exact h3 i e2
    · exact .inr (Nat.le_trans h2.size e2)
theorem Ext.row {W wr : World} {v cur u : Value} {base g : Nat} {xs : List (BitVec 8)} {d l : Int} (h : Ext W wr v base cur xs) (hr : TRow W g u d l) (hv : ∀ i, v.ownBlock = some i → i ≠ g) : TRow wr g u d l := hr.grown h.2.1 (fun e => hv g e rfl)
theorem Ext.rd {W wr : World} {v cur : Value} {base len : Nat} {a : Option Addr} {xs bs : List (BitVec 8)} (h : Ext W wr v base cur xs) (hr : Rd W a len bs) (hv : 0 < len → ∀ ad, a = some ad → v.ownBlock ≠ some ad.block) : Rd wr a len bs := by
  by_cases hl : len = 0
  · subst hl
    have : bs = [] := List.length_eq_zero_iff.1 hr.1
    subst this; exact rd_zero _ _
  · exact hr.grown h.2.1 (hv (by omega))
theorem Ext.size {W wr : World} {v cur : Value} {base : Nat} {xs : List (BitVec 8)} (h : Ext W wr v base cur xs) : W.heap.size ≤ wr.heap.size := h.2.1.size
set_option maxHeartbeats 2000000 in
set_option maxRecDepth 100000 in
theorem grow_any (base : Nat) (v : Value) (bs : List (BitVec 8)) (a : Option Addr) (n c : Nat) (t : Tok) (w : World) (ho : Own w base v bs) (hr : Rd w a n t.lit) (hz : a = none → n = 0 ∧ c = 0) (hlen : 0 ≤ t.len)
    (hd : 0 < t.len → 1 ≤ t.dist ∧ t.dist ≤ (bs.length : Int) + (t.lit.length : Int)) (hb : bs.length + t.lit.length + t.len.toNat ≤ 70368744177664) (hbase : base ≤ w.heap.size) :
    Calls Tryz.prog 43 #[v, .agg #[.slice a n c, .int .i64 t.dist, .int .i64 t.len]] w fun e w' => ∃ v', e = .returned v' ∧ Ext w w' v base v' (grow bs t) := by
  obtain ⟨lit, d, l⟩ := t
  simp only at hr hlen hd hb ⊢
  obtain ⟨m, rfl⟩ := Int.eq_ofNat_of_zero_le hlen
  obtain ⟨va, vc, rfl⟩ := ho.shape
  have HO := hide ho
  have HR := hide hr
  have HL := hide hr.1
  have hvlt : ∀ i, (Value.slice va bs.length vc).ownBlock = some i → i < w.heap.size := fun i e => (blk ho i e).2
  have HV := hide hvlt
  clear ho hr hvlt hlen
  have HBW : Hid (Below w.heap.size w (w.alloc (.cells #[.slice a n c, .int .i64 d, .int .i64 (m : Int)] 74))) := (Below.refl _ _).alloc (Nat.le_refl _) _
  have HT0 := hide (TRow.new w (.slice a n c) d (m : Int))
  go_enter Tryz.func43, Tryz.ntmps43
  go_wp2_with (at_builtin; refine join2 _ rfl _ _ rfl base _ bs rfl (HO.out.below HBW.out) a n c lit rfl (HR.out.below HBW.out) hz (by have := HL.out; omega) (Nat.le_trans hbase HBW.out.size) ?_
               intro v1 w1 ho1 hg1 hv1
               have HE1 := hide ((Ext.refl (HO.out.below HBW.out)).step ho1 hg1 hv1)
               have HT1 := hide (HE1.out.row HT0.out (fun i e => by have := HV.out i e; omega))
               have k1 := HT1.out.c1
               have k2 := HT1.out.c2
               clear ho1 hg1 hv1)
  obtain ⟨va1, vc1, hv1⟩ := HE1.out.1.shape
  subst hv1
  clear HR HT0 k1 k2
  generalize hX : bs ++ lit = X at HE1
  have hXl : X.length = bs.length + lit.length := by rw [← hX, List.length_append]
  obtain ⟨dt, hdt⟩ : ∃ dt, dt = d.toNat := ⟨_, rfl⟩
  have HG : Hid (grow bs ⟨lit, d, (m : Int)⟩ = copyN dt m X) := by show _ = _; rw [← hX, hdt]; rfl
  clear hX
  go_loopw [0, 11] (fun o x wr => ∃ (k : Nat) (a' : Option Addr) (c' : Nat), k ≤ m ∧ x = .int .i64 (k : Int) ∧ o = .slice a' (X.length + k) c' ∧ Hid (Ext (w.alloc (.cells #[.slice a n c, .int .i64 d, .int .i64 (m : Int)] 74)) wr (.slice va bs.length vc) base (.slice a' (X.length + k) c') (copyN dt k X))) (fun _ x _ => m - (intOf x).toNat)
  case atStart => exact ⟨0, va1, vc1, Nat.zero_le _, rfl, rfl, HE1⟩
  case round =>
    obtain ⟨k, a', c', hk, rfl, rfl, HE⟩ := hrel
    clear HE1 HT1
    have hT := HE.out.row (TRow.new w (.slice a n c) d (m : Int)) (fun i e => by have := HV.out i e; omega)
    have k1 := hT.c1
    clear hT
    by_cases hlt : k < m
    · have hki : (k : Int) < (m : Int) := by omega
      obtain ⟨hd1, hd2⟩ := hd (by omega)
      obtain ⟨dn, rfl⟩ := Int.eq_ofNat_of_zero_le (by omega : 0 ≤ d)
      have hdd : dt = dn := by omega
      clear hdt
      subst hdd
      obtain ⟨g, rfl⟩ : ∃ g, a' = some ⟨g, 0, none⟩ := by
        rcases HE.out.1.2 with ⟨h1, _⟩ | ⟨g, cp, cur, h1, _⟩
        · simp only [Value.slice.injEq] at h1; omega
        · simp only [Value.slice.injEq] at h1; exact ⟨g, h1.1⟩
      obtain ⟨P, hP⟩ : ∃ P, P + dt = X.length + k := ⟨X.length + k - dt, by omega⟩
      have hc0 := HE.out.1.cell P (by omega)
      generalize hC : (copyN dt k X).getD P 0 = C at hc0
      have HS : Hid (copyN dt (k + 1) X = copyN dt k X ++ [C]) := by
        show _ = _
        rw [copyN_snoc, length_copyN, ← hP, Nat.add_sub_cancel, hC]
      clear hC
      generalize hN : X.length + k = N at HE hP
      have hNl : N ≤ 70368744177664 := by omega
      have hmm : m ≤ 70368744177664 := by omega
      have hPN : (P : Int) < (N : Int) := by omega
      have hsub : (N : Int) - (dt : Int) = (P : Int) := by omega
      have HN := hide hN
      have HP := hide hP
      clear hN hP hd1 hd2 hd hXl hb
      have HLE : Hid (Own wr base (.slice (some ⟨g, 0, none⟩) N c') (copyN dt k X)) := HE.out.1
      have hcl : (copyN dt k X).length = N := by rw [length_copyN]; exact HN.out
      have HCL := hide hcl
      clear hcl
      have hbs : base ≤ wr.heap.size := Nat.le_trans hbase (Nat.le_trans HBW.out.size HE.out.size)
      go_wp2_with (at_builtin; refine push2 _ rfl _ _ rfl base _ (copyN dt k X) rfl (HLE.out.below ((Below.refl wr.heap.size wr).alloc (Nat.le_refl _) _)) ⟨wr.heap.size, 0, none⟩ 1 C rfl ?_ (by have := HCL.out; omega) (by simp; omega) ?_
                   · exact cell_one_new _ _ _ 0 _ rfl
                   intro g4 c4 w4 hown4 hgrow4
                   have HE4 := hide ((HE.out.below ((Below.refl wr.heap.size wr).alloc (Nat.le_refl _) _)).push hown4 hgrow4)
                   clear hown4 hgrow4)
      go_roundw
      case rel => exact ⟨k + 1, some ⟨g4, 0, none⟩, c4, by omega, by go_num, by rw [HCL.out, ← HN.out]; rfl, by
        have h := HE4.out
        rw [HCL.out, ← HN.out] at h
        rw [HS.out]; exact h⟩
      case measure => simp [intOf]; omega
    · have hkm : k = m := by omega
      subst hkm
      go_wp2
      go_ret
      exact ⟨_, rfl, by rw [HG.out]; exact Ext.start HBW.out HE.out⟩
set_option maxHeartbeats 2000000 in
set_option maxRecDepth 100000 in
theorem put_tok (base : Nat) (v : Value) (bs : List (BitVec 8)) (a : Option Addr) (n c : Nat) (t : Tok) (w : World) (ho : Own w base v bs) (hr : Rd w a n t.lit) (hz : a = none → n = 0 ∧ c = 0)
    (hap : 0 < n → ∀ ad, a = some ad → v.ownBlock ≠ some ad.block) (hlen : t.bare ∨ 4 ≤ t.len ∧ 0 ≤ t.dist) (hwl : t.len ≤ 9223372036854775807) (hwd : t.dist ≤ 9223372036854775807) (hb : bs.length + t.lit.length ≤ 70368744177664) (hbase : base ≤ w.heap.size) :
    Calls Tryz.prog 51 #[v, .agg #[.slice a n c, .int .i64 t.dist, .int .i64 t.len]] w fun e w' => ∃ v', e = .returned v' ∧ Ext w w' v base v' (bs ++ putTok t) := by
  obtain ⟨lit, d, l⟩ := t
  simp only at hr hlen hb hwl hwd ⊢
  obtain ⟨va, vc, rfl⟩ := ho.shape
  have HO := hide ho
  have HR := hide hr
  have HL := hide hr.1
  have HA := hide hap
  have hvlt : ∀ i, (Value.slice va bs.length vc).ownBlock = some i → i < w.heap.size := fun i e => (blk ho i e).2
  have HV := hide hvlt
  have hn : n ≤ 70368744177664 := by have := hr.1; omega
  have hbn : bs.length + n ≤ 70368744177664 := by have := hr.1; omega
  have hwf : (Lit.int .i64 (n : Int)).wf = true := WalkArith.wf_i64 (by omega)
  clear ho hr hvlt hap
  have HBW : Hid (Below w.heap.size w (w.alloc (.cells #[.slice a n c, .int .i64 d, .int .i64 l] 74))) := (Below.refl _ _).alloc (Nat.le_refl _) _
  have HT0 := hide (TRow.new w (.slice a n c) d l)
  go_enter Tryz.func51, Tryz.ntmps51
  go_wp2_with fail
  refine (put_any _ _ hwf).mono ?_
  rintro e w1 ⟨v1, rfl, ho1, hb1⟩
  have hpl := put_nine n (by omega)
  rw [putI_nat] at ho1
  have HB1 := hide (below_trans HBW.out hb1)
  have HT1 := hide (HT0.out.below hb1)
  have HO1 := hide ho1
  have HE1 := hide (Ext.refl (HO.out.below HB1.out))
  obtain ⟨v1a, v1c, hv1⟩ := ho1.shape
  subst hv1
  have hs1 := HB1.out.size
  clear hb1 ho1 HT0 HBW
  have k0 := HT1.out.c0
  go_wp2_with (at_builtin
               first
               | (refine join2 _ rfl _ _ rfl base _ bs rfl HE1.out.1 v1a _ v1c (put n) rfl (Got.rd HO1.out (by omega)) (Got.nil HO1.out) (by omega) (by omega) ?_
                  intro v2 w2 ho2 hg2 hv2
                  have HE2 := hide (HE1.out.step ho2 hg2 hv2)
                  obtain ⟨v2a, n2, v2c, hv2', HN2⟩ := own_named ho2
                  subst hv2'
                  have HT2 := hide (HE2.out.row HT1.out (fun i e => by have := HV.out i e; omega))
                  have k0' := HT2.out.c0
                  have HR2 := hide (HE2.out.rd (HR.out.below HB1.out) HA.out)
                  have hs2 := HE2.out.size
                  clear ho2 hg2 hv2)
               | (refine join2 _ rfl _ _ rfl base _ (bs ++ put n) rfl HE2.out.1 a n c lit rfl HR2.out hz (by rw [List.length_append]; omega) (by omega) ?_
                  intro v3 w3 ho3 hg3 hv3
                  have HE3 := hide (HE2.out.step ho3 hg3 hv3)
                  obtain ⟨v3a, n3, v3c, hv3', HN3⟩ := own_named ho3
                  subst hv3'
                  have HT3 := hide (HE3.out.row HT1.out (fun i e => by have := HV.out i e; omega))
                  have k0'' := HT3.out.c0
                  have k1'' := HT3.out.c1
                  have k2'' := HT3.out.c2
                  have hs3 := HE3.out.size
                  clear ho3 hg3 hv3))
  refine (isNone_any a n c d l _).mono ?_
  rintro e w4 ⟨rfl, hb4⟩
  have HE4 := hide (HE3.out.below hb4)
  have HT4 := hide (HT3.out.below hb4)
  have hs4 := HE4.out.size
  clear hb4 k0'' k1'' k2'' k0 k0' HE2 HR2 HT2 hs2 HE1 HO1 HE3 HT3 hs3 HR
  by_cases hn0 : d = 0 ∧ l = 0
  · rw [decide_eq_true hn0]
    have HP : Hid (putTok ⟨lit, d, l⟩ = put n ++ lit) := by show _ = _; rw [putTok_bare ⟨lit, d, l⟩ hn0, HL.out]
    go_wp2_with fail
    go_ret
    refine ⟨_, rfl, ?_⟩
    rw [HP.out, ← List.append_assoc]
    exact Ext.start HB1.out HE4.out
  · rw [decide_eq_false hn0]
    obtain ⟨h4, h5⟩ : 4 ≤ l ∧ 0 ≤ d := by
      rcases hlen with h | h
      · exact absurd h hn0
      · exact h
    obtain ⟨m, rfl⟩ : ∃ m : Nat, l = (m : Int) + 4 := ⟨(l - 4).toNat, by omega⟩
    obtain ⟨dd, rfl⟩ := Int.eq_ofNat_of_zero_le h5
    have HP : Hid (putTok ⟨lit, (dd : Int), (m : Int) + 4⟩ = put n ++ (lit ++ (put m ++ put dd))) := by
      show _ = _
      rw [putTok_match ⟨lit, (dd : Int), (m : Int) + 4⟩ hn0, HL.out]
      have e1 : ((m : Int) + 4 - 4).toNat = m := by omega
      simp only [e1, Int.toNat_natCast]
    have hm1 : (m : Int) ≤ 9223372036854775803 := by omega
    have hwm : (Lit.int .i64 (m : Int)).wf = true := WalkArith.wf_i64 (by omega)
    have hwdd : (Lit.int .i64 (dd : Int)).wf = true := WalkArith.wf_i64 (by omega)
    have hq : (m : Int) + 4 - 4 = (m : Int) := by omega
    have hpm := put_nine m (by omega)
    have hpd := put_nine dd (by omega)
    have hl3 : (bs ++ put n ++ lit).length ≤ 70368744177700 := by simp only [List.length_append]; omega
    have k2 := HT4.out.c2
    clear hn0 hlen h4 h5
    generalize hO3 : bs ++ put n ++ lit = O3 at HE4 hl3 HN3
    have HO3 := hide hO3
    clear hO3
    go_wp2_with fail
    refine (put_any _ _ hwm).mono ?_
    rintro e w5 ⟨v5, rfl, ho5, hb5⟩
    rw [putI_nat] at ho5
    have HO5 := hide ho5
    obtain ⟨v5a, n5, v5c, hv5, HN5⟩ := own_named ho5
    subst hv5
    have HE5 := hide (HE4.out.below hb5)
    have HT5 := hide (HT4.out.below hb5)
    have k1 := HT5.out.c1
    have hs5 := HE5.out.size
    clear ho5 hb5 HE4 HT4 hs4 k2
    go_wp2_with (at_builtin; refine join2 _ rfl _ _ rfl base _ O3 rfl HE5.out.1 v5a n5 v5c (put m) rfl (Got.rd HO5.out (by omega)) (Got.nil HO5.out) (by have := HN5.out; omega) (by omega) ?_
                 intro v6 w6 ho6 hg6 hv6
                 have HE6 := hide (HE5.out.step ho6 hg6 hv6)
                 obtain ⟨v6a, n6, v6c, hv6', HN6⟩ := own_named ho6
                 subst hv6'
                 have HT6 := hide (HE6.out.row HT1.out (fun i e => by have := HV.out i e; omega))
                 have k1' := HT6.out.c1
                 have hs6 := HE6.out.size
                 clear ho6 hg6 hv6)
    refine (put_any _ _ hwdd).mono ?_
    rintro e w7 ⟨v7, rfl, ho7, hb7⟩
    rw [putI_nat] at ho7
    have HO7 := hide ho7
    obtain ⟨v7a, n7, v7c, hv7, HN7⟩ := own_named ho7
    subst hv7
    have HE7 := hide (HE6.out.below hb7)
    have hs7 := HE7.out.size
    clear ho7 hb7 HE6 HT6 hs6 k1 k1' HE5 HT5 hs5 HO5
    go_wp2_with (at_builtin; refine join2 _ rfl _ _ rfl base _ (O3 ++ put m) rfl HE7.out.1 v7a n7 v7c (put dd) rfl (Got.rd HO7.out (by omega)) (Got.nil HO7.out) (by have := HN7.out; rw [List.length_append]; omega) (by omega) ?_
                 intro v8 w8 ho8 hg8 hv8
                 have HE8 := hide (HE7.out.step ho8 hg8 hv8)
                 clear ho8 hg8 hv8)
    go_ret
    refine ⟨_, rfl, ?_⟩
    rw [HP.out]
    have h := Ext.start HB1.out HE8.out
    rw [← HO3.out] at h
    simp only [List.append_assoc] at h
    exact h
end Go.Proofs.YthdblnfohbldcaaGreat.Lz
/-
  What the program reads: a number, a token.
-/
namespace Go.Proofs.YthdblnfohbldcaaGreat.Lz
open Go.ChangeShapes Go.WideShapes Go.ChangeAt Go.RowKit
open Go.Proofs.YthdblnfohbldcaaGreat.Base Go.Proofs.YthdblnfohbldcaaGreat.Nums
set_option linter.unusedVariables false
theorem ret2 {t : Nat × Nat} {x y : Nat} {a b : Int} (h : t = (x, y)) (ha : a = (x : Int)) (hb : b = (y : Int)) :
    Ending.returned (.tuple #[.int .i64 a, .int .i64 b]) = .returned (.tuple #[.int .i64 (t.1 : Nat), .int .i64 (t.2 : Nat)]) := by
  subst h ha hb; rfl
set_option maxHeartbeats 1000000 in
set_option maxRecDepth 100000 in
theorem number_any (a : Option Addr) (len cap : Nat) (bs : List (BitVec 8)) (most : Int) (w : World) (hr : Rd w a len bs) (hcap : len ≤ cap) (hm : cap ≤ 9223372036854775807) :
    Calls Tryz.prog 134 #[.slice a len cap, .int .i64 most] w fun e w' => e = .returned (.tuple #[.int .i64 ((number bs most).1 : Nat), .int .i64 ((number bs most).2 : Nat)]) ∧ Below w.heap.size w w' := by
  have R := hide hr
  clear hr
  have HD : Hid (number bs most = if (get bs).2.2 ≠ 0 ∨ most < ((get bs).1 : Int) then (0, 0) else ((get bs).1, (get bs).2.1)) := rfl
  go_enter Tryz.func134, Tryz.ntmps134
  go_wp2_with fail
  refine (get_any _ _ _ _ _ R.out hcap hm).mono ?_
  rintro e w1 ⟨rfl, hb⟩
  have HB := hide hb
  clear hb R hcap hm
  generalize get bs = G at HD
  obtain ⟨gv, gn, ge⟩ := G
  simp only at HD ⊢
  by_cases he : ge = 0
  · subst he
    by_cases hm : most < (gv : Int)
    · have HE : Hid (number bs most = (0, 0)) := by
        have := HD.out; rw [if_pos (.inr hm)] at this; exact this
      go_wp2_with fail
      go_ret2
      exact ⟨ret2 HE.out rfl rfl, HB.out⟩
    · have HE : Hid (number bs most = (gv, gn)) := by
        have := HD.out; rw [if_neg (by simp; omega)] at this; exact this
      go_wp2_with fail
      go_ret2
      exact ⟨ret2 HE.out rfl rfl, HB.out⟩
  · have HE : Hid (number bs most = (0, 0)) := by
      have := HD.out; rw [if_pos (.inl he)] at this; exact this
    have hb : ((ge : Int) != 0) = true := by rw [bne_iff_ne]; omega
    go_wp2_with fail
    go_ret2
    exact ⟨ret2 HE.out rfl rfl, HB.out⟩
theorem results_tok {fn : Func} {p u : Tmp} (h : fn.results = #[.cell p 74, .tmp u]) (tmps : Array Value) (w : World) (g : Nat) (v : Value) (d l : Int) (hp : tmps.getD p undef = .pointer (some ⟨g, 0, none⟩)) (ht : TRow w g v d l) :
    (results fn tmps).run Tryz.prog w = .ok (.tuple #[.agg #[v, .int .i64 d, .int .i64 l], tmps.getD u undef]) w := by
  rw [results_cell_tmp h, hp]
  simp [asAddr, run_loadVar_row w g 74 74 _ (0, 0) _ ht Tryz.underlying74 rfl (by kernel_rfl)]
theorem elem8 : Tryz.prog.underlying 24 = some (.slice (Tryz.prog.elem 24)) := by kernel_rfl
theorem size8 (W : World) : (sizeOf (Tryz.prog.elem 24)).run Tryz.prog W = .ok 1 W := by
  have h : (Tryz.prog.info? (Tryz.prog.elem 24)).map (·.size) = some 1 := by kernel_rfl
  cases hq : Tryz.prog.info? (Tryz.prog.elem 24) with
  | none => simp [hq] at h
  | some i => simp [hq] at h; simp [sizeOf, typeInfo, hq, h]
/-- 'b[p:p+c:p+c]', whatever c is. -/
theorem slice_lhm (b off len cap p c e : Nat) (he : p + c = e) (h : e ≤ cap) : ∃ la : Addr, (∀ W, (Instr.sliceAt 24 (.slice (some ⟨b, off, none⟩) len cap) (some (.int .i64 (p : Int))) (some (.int .i64 (e : Int))) (some (.int .i64 (e : Int)))).run Tryz.prog W = .ok (.slice (some la) c c) W) ∧
    (0 < c → la = ⟨b, off + p, none⟩) ∧ la.spot = none ∧ la.block = b := by
  refine ⟨if c = 0 then ⟨b, off, none⟩ else ⟨b, off + p, none⟩, fun W => ?_, fun hc => by rw [if_neg (by omega)], by split <;> rfl, by split <;> rfl⟩
  rw [run_sliceAt_slice (h := elem8), run_slice_lhm (ht := elem8) (h0 := by omega) (h1 := by omega) (h2 := by omega) (h3 := by omega), size8]
  simp only [Result.andThen, sliced, Int.toNat_natCast]
  by_cases hc : c = 0
  · rw [if_pos (by omega), if_pos hc, show e - p = c by omega]
  · rw [if_neg (by omega), if_neg hc, show e - p = c by omega]
    simp [Addr.add]
/-- 'b[e:]'. -/
theorem slice_l (b off len cap e : Nat) (h : e ≤ len) (hc : len ≤ cap) : ∃ la : Addr, (∀ W, (Instr.sliceAt 24 (.slice (some ⟨b, off, none⟩) len cap) (some (.int .i64 (e : Int))) none none).run Tryz.prog W = .ok (.slice (some la) (len - e) (cap - e)) W) ∧
    (e < len → la = ⟨b, off + e, none⟩) ∧ la.spot = none ∧ la.block = b := by
  refine ⟨if cap = e then ⟨b, off, none⟩ else ⟨b, off + e, none⟩, fun W => ?_, fun hc => by rw [if_neg (by omega)], by split <;> rfl, by split <;> rfl⟩
  rw [run_sliceAt_slice (h := elem8), run_slice_l (ht := elem8) (h0 := by omega) (h1 := by omega), size8]
  simp only [Result.andThen, sliced, Int.toNat_natCast]
  by_cases hc : cap = e
  · rw [if_pos hc, if_pos hc]
  · rw [if_neg hc, if_neg hc]
    simp [Addr.add]
theorem rd_sub {w : World} {b off len p c : Nat} {la : Addr} {bs : List (BitVec 8)} (hr : Rd w (some ⟨b, off, none⟩) len bs) (h : p + c ≤ len) (hl : 0 < c → la = ⟨b, off + p, none⟩) : Rd w (some la) c ((bs.drop p).take c) := by
  by_cases hc : c = 0
  · subst hc; rw [List.take_zero]; exact rd_zero _ _
  · rw [hl (by omega)]
    exact (hr.from p (by omega)).cut c (by omega)
theorem rd_rest {w : World} {b off len e : Nat} {la : Addr} {bs : List (BitVec 8)} (hr : Rd w (some ⟨b, off, none⟩) len bs) (h : e ≤ len) (hl : e < len → la = ⟨b, off + e, none⟩) : Rd w (some la) (len - e) (bs.drop e) := by
  by_cases hc : e < len
  · rw [hl hc]; exact hr.from e h
  · have : bs.drop e = [] := List.drop_eq_nil_of_le (by have := hr.1; omega)
    rw [this, show len - e = 0 by omega]; exact rd_zero _ _
theorem TRow.put3 {w : World} {g : Nat} {v u : Value} {p e q r : Int} (h : TRow w g v p e) : TRow (((w.setCell ⟨g, 0, none⟩ u).setCell ⟨g, 1, none⟩ (.int .i64 q)).setCell ⟨g, 2, none⟩ (.int .i64 r)) g u q r :=
  heap_setCell_same _ _ _ _ _ _ (heap_setCell_same _ _ _ _ _ _ (heap_setCell_same _ _ _ _ _ _ h))
theorem TRow.put0 {w : World} {g : Nat} {v u : Value} {p e : Int} (h : TRow w g v p e) : TRow (w.setCell ⟨g, 0, none⟩ u) g u p e := heap_setCell_same _ _ _ _ _ _ h
theorem TRow.put12 {w : World} {g : Nat} {v : Value} {p e q r : Int} (h : TRow w g v p e) : TRow ((w.setCell ⟨g, 1, none⟩ (.int .i64 q)).setCell ⟨g, 2, none⟩ (.int .i64 r)) g v q r :=
  heap_setCell_same _ _ _ _ _ _ (heap_setCell_same _ _ _ _ _ _ h)
theorem below_cell {w w1 : World} {g : Nat} (hb : Below w.heap.size w w1) (hg : w.heap.size ≤ g) (k : Nat) (v : Value) : Below w.heap.size w (w1.setCell ⟨g, k, none⟩ v) :=
  grown_below hb (grown_cell (World.grownBy.refl _ _) k v) hg
theorem below_put3 {w w1 : World} {g : Nat} {u v r : Value} (hb : Below w.heap.size w w1) (hg : w.heap.size ≤ g) : Below w.heap.size w (((w1.setCell ⟨g, 0, none⟩ u).setCell ⟨g, 1, none⟩ v).setCell ⟨g, 2, none⟩ r) :=
  below_cell (below_cell (below_cell hb hg 0 u) hg 1 v) hg 2 r
/-- What 'first' answers. -/
def Firsts (w w' : World) (r : Option (Tok × Nat)) (e : Ending) : Prop :=
  ∃ v s, e = .returned (.tuple #[v, .int .i64 s]) ∧ Below w.heap.size w w' ∧ (match r with
    | none => s = 0 ∧ ∃ la ln lc d l, v = .agg #[.slice la ln lc, .int .i64 d, .int .i64 l]
    | some (t, sz) => s = (sz : Int) ∧ sz ≠ 0 ∧ ∃ la lc, v = .agg #[.slice la t.lit.length lc, .int .i64 t.dist, .int .i64 t.len] ∧ Rd w la t.lit.length t.lit ∧ (la = none → t.lit.length = 0 ∧ lc = 0) ∧ t.lit.length ≤ lc ∧ lc ≤ 9223372036854775807)
theorem first_none1 (b : List (BitVec 8)) (h n : Nat) (c p : Nat) (e : number b ((n : Int) - h) = (c, p)) (hp : p = 0 ∨ b.length - p < c) : first b h n = none := by
  unfold first; rw [e]; simp only; rw [if_pos hp]
theorem first_bare (b : List (BitVec 8)) (h n : Nat) (c p : Nat) (e : number b ((n : Int) - h) = (c, p)) (hp : ¬ (p = 0 ∨ b.length - p < c)) (hc : h + c = n) : first b h n = some (⟨(b.drop p).take c, 0, 0⟩, p + c) := by
  unfold first; rw [e]; simp only; rw [if_neg hp, if_pos hc]
theorem first_none2 (b : List (BitVec 8)) (h n : Nat) (c p : Nat) (e : number b ((n : Int) - h) = (c, p)) (hp : ¬ (p = 0 ∨ b.length - p < c)) (hc : ¬ h + c = n) (m q : Nat)
    (e2 : number (b.drop (p + c)) (min 259 ((n : Int) - (h + c)) - 4) = (m, q)) (hq : q = 0) : first b h n = none := by
  unfold first; rw [e]; simp only; rw [if_neg hp, if_neg hc, e2]; simp only; rw [if_pos hq]
theorem first_none3 (b : List (BitVec 8)) (h n : Nat) (c p : Nat) (e : number b ((n : Int) - h) = (c, p)) (hp : ¬ (p = 0 ∨ b.length - p < c)) (hc : ¬ h + c = n) (m q : Nat)
    (e2 : number (b.drop (p + c)) (min 259 ((n : Int) - (h + c)) - 4) = (m, q)) (hq : ¬ q = 0) (d r : Nat) (e3 : number (b.drop (p + c + q)) (min 32768 ((h : Int) + c)) = (d, r)) (hr : r = 0 ∨ d = 0) : first b h n = none := by
  unfold first; rw [e]; simp only; rw [if_neg hp, if_neg hc, e2]; simp only; rw [if_neg hq, e3]; simp only; rw [if_pos hr]
theorem first_match (b : List (BitVec 8)) (h n : Nat) (c p : Nat) (e : number b ((n : Int) - h) = (c, p)) (hp : ¬ (p = 0 ∨ b.length - p < c)) (hc : ¬ h + c = n) (m q : Nat)
    (e2 : number (b.drop (p + c)) (min 259 ((n : Int) - (h + c)) - 4) = (m, q)) (hq : ¬ q = 0) (d r : Nat) (e3 : number (b.drop (p + c + q)) (min 32768 ((h : Int) + c)) = (d, r)) (hr : ¬ (r = 0 ∨ d = 0)) :
    first b h n = some (⟨(b.drop p).take c, (d : Int), (m : Int) + 4⟩, p + c + q + r) := by
  unfold first; rw [e]; simp only; rw [if_neg hp, if_neg hc, e2]; simp only; rw [if_neg hq, e3]; simp only; rw [if_neg hr]
theorem number_le (b : List (BitVec 8)) (most : Int) (v s : Nat) (e : number b most = (v, s)) (h0 : 0 ≤ most) : (v : Int) ≤ most ∧ s ≤ b.length := by
  rcases number_cases b most with h1 | ⟨u, rest, h1, h2, h3, _⟩
  · rw [h1] at e; cases e; omega
  · rw [h1] at e; cases e; rw [h2, List.length_append]; omega
set_option maxHeartbeats 4000000 in
set_option maxRecDepth 100000 in
theorem first_any (a : Option Addr) (len cap : Nat) (bs : List (BitVec 8)) (h n : Nat) (w : World) (hr : Rd w a len bs) (hcap : len ≤ cap) (hm : cap ≤ 9223372036854775807) (hn : h < n) (hn2 : n ≤ 65536) :
    Calls Tryz.prog 89 #[.slice a len cap, .int .i64 (h : Int), .int .i64 (n : Int)] w fun e w' => Firsts w w' (first bs h n) e := by
  have R := hide hr
  have HL := hide hr.1
  have hlm := hr.2.1
  clear hr
  have hni : (n : Int) ≤ 65536 := by omega
  have hhi : (h : Int) ≤ 65535 := by omega
  have HN := hide hn
  have HN2 := hide hn2
  clear hn hn2
  have HB0 : Hid (Below w.heap.size w (w.alloc (.cells #[.slice none 0 0, .int .i64 0, .int .i64 0] 74))) := (Below.refl _ _).alloc (Nat.le_refl _) _
  have HT0 := hide (TRow.new w (.slice none 0 0) 0 0)
  go_enter Tryz.func89, Tryz.ntmps89
  go_wp2_with fail
  refine (number_any a len cap bs ((n : Int) - (h : Int)) _ (R.out.below HB0.out) hcap hm).mono ?_
  rintro e w1 ⟨rfl, hb1⟩
  have HB1 := hide (below_trans HB0.out hb1)
  have HT1 := hide (HT0.out.below hb1)
  clear hb1 HB0 HT0
  generalize hq1 : number bs ((n : Int) - (h : Int)) = q1
  obtain ⟨c, p⟩ := q1
  have HQ1 := hide hq1
  obtain ⟨hcle, hple⟩ := number_le _ _ _ _ hq1 (by have := HN.out; omega)
  rw [HL.out] at hple
  clear hq1
  simp only
  have HK0 := hide HT1.out.c0
  have k0 := HT1.out.c0
  have k1 := HT1.out.c1
  have k2 := HT1.out.c2
  have f0 := HT1.out.fr 0
  have f1 := HT1.out.fr 1
  have f2 := HT1.out.fr 2
  have HT0' := HT1.out.put3 (u := .slice none 0 0) (q := 0) (r := 0)
  have HF := hide HT0'
  have HFB := hide (below_put3 (u := .slice none 0 0) (v := .int .i64 0) (r := .int .i64 0) HB1.out (Nat.le_refl _))
  clear HT0'
  by_cases hp0 : p = 0
  · subst hp0
    have HR : Hid (first bs h n = none) := first_none1 bs h n c 0 HQ1.out (.inl rfl)
    go_wp2_with fail
    refine bodyPost_ret (results_tok rfl _ _ w.heap.size _ _ _ rfl HF.out) rfl ?_
    rw [HR.out]
    exact ⟨_, _, rfl, HFB.out, rfl, _, _, _, _, _, rfl⟩
  · have hpb : ((p : Int) == 0) = false := by rw [beq_eq_false_iff_ne]; omega
    obtain ⟨ab, ao, rfl, _, _⟩ := R.out.2.2 (by omega)
    by_cases hcl : (len : Int) - (p : Int) < (c : Int)
    · have HR : Hid (first bs h n = none) := first_none1 bs h n c p HQ1.out (.inr (by rw [HL.out]; omega))
      go_wp2_with fail
      refine bodyPost_ret (results_tok rfl _ _ w.heap.size _ _ _ rfl HF.out) rfl ?_
      rw [HR.out]
      exact ⟨_, _, rfl, HFB.out, rfl, _, _, _, _, _, rfl⟩
    · clear HF HFB
      have HC1 : Hid (¬ (p = 0 ∨ bs.length - p < c)) := by show ¬ _; rw [HL.out]; omega
      obtain ⟨e, he⟩ : ∃ e, p + c = e := ⟨_, rfl⟩
      obtain ⟨la, hsl, hla, hls, hlb⟩ := slice_lhm ab ao len cap p c e he (by omega)
      have HLA := hide (rd_sub R.out (p := p) (c := c) (by omega) hla)
      have hei : (p : Int) + (c : Int) = (e : Int) := by omega
      have hel : (e : Int) ≤ (len : Int) := by omega
      obtain ⟨hc, hhc⟩ : ∃ hc, h + c = hc := ⟨_, rfl⟩
      have hhci : (h : Int) + (c : Int) = (hc : Int) := by omega
      have hhcl : (hc : Int) ≤ (n : Int) := by omega
      have HHC := hide hhc
      have HE := hide he
      have HLS := hide hls
      clear hla hls hlb hcl hhc he
      by_cases hfin : (hc : Int) = (n : Int)
      · have HR : Hid (first bs h n = some (⟨(bs.drop p).take c, 0, 0⟩, e)) := by
          have h1 := first_bare bs h n c p HQ1.out HC1.out (by have := HHC.out; omega)
          rw [HE.out] at h1; exact h1
        have hb : ((hc : Int) == (n : Int)) = true := by rw [beq_iff_eq]; exact hfin
        clear hfin
        go_wp2_with fail
        refine bodyPost_ret (results_tok rfl _ _ w.heap.size _ _ _ rfl (HT1.out.put0 (u := .slice (some la) c c)).put3) rfl ?_
        rw [HR.out]
        have hlc : ((bs.drop p).take c).length = c := HLA.out.1
        refine ⟨_, _, rfl, below_put3 (below_cell HB1.out (Nat.le_refl _) 0 _) (Nat.le_refl _), rfl, by have := HE.out; omega, some la, c, by rw [hlc], by rw [hlc]; exact HLA.out, fun h => (by cases h), by rw [hlc]; exact Nat.le_refl _, by omega⟩
      · have hb : ((hc : Int) == (n : Int)) = false := by rw [beq_eq_false_iff_ne]; exact hfin
        have HF1 : Hid (¬ h + c = n) := by show ¬ _; have := HHC.out; omega
        have HT2 := hide (HT1.out.put0 (u := .slice (some la) c c))
        have HB2 := hide (below_cell HB1.out (Nat.le_refl _) 0 (.slice (some la) c c))
        obtain ⟨lb, hsl2, hlb2, hls2, _⟩ := slice_l ab ao len cap e (by omega) hcap
        have HLB := hide (rd_rest R.out (by omega) hlb2)
        clear hlb2 hls2
        obtain ⟨mx, hmx, hmx1, hmx2⟩ : ∃ mx : Int, (if (n : Int) - (hc : Int) < 259 then (n : Int) - (hc : Int) else 259) = mx ∧ Hid (mx = min 259 ((n : Int) - ((h : Int) + (c : Int)))) ∧ (1 ≤ mx ∧ mx ≤ 259) := by
          refine ⟨_, rfl, ?_, ?_⟩
          · show _ = _; split <;> omega
          · split <;> omega
        obtain ⟨hm1, hm2⟩ := hmx2
        go_wp2_with fail
        refine (number_any (some lb) (len - e) (cap - e) (bs.drop e) (mx - 4) _ (HLB.out.below HB2.out) (by omega) (by omega)).mono ?_
        rintro e2 w3 ⟨rfl, hb3⟩
        have HB3 := hide (below_trans HB2.out hb3)
        have HT3 := hide (HT2.out.below hb3)
        clear hb3 HB1 HT1 k0 k1 k2 f0 f1 f2 HK0 HB2 HT2
        generalize hq2 : number (bs.drop e) (mx - 4) = q2
        obtain ⟨m, q⟩ := q2
        have HQ2 : Hid (number (bs.drop (p + c)) (min 259 ((n : Int) - ((h : Int) + (c : Int))) - 4) = (m, q)) := by
          show _ = _; rw [HE.out, ← hmx1.out]; exact hq2
        have hqle : q ≤ len - e := by
          rcases number_cases (bs.drop e) (mx - 4) with h1 | ⟨u, rest, h1, h2, _⟩
          · rw [h1] at hq2; cases hq2; omega
          · rw [h1] at hq2; cases hq2
            have := congrArg List.length h2
            rw [List.length_drop, List.length_append, HL.out] at this; omega
        have hmle : (m : Int) ≤ 255 := by
          rcases number_cases (bs.drop e) (mx - 4) with h1 | ⟨u, rest, h1, h2, h3, _⟩
          · rw [h1] at hq2; cases hq2; omega
          · rw [h1] at hq2; cases hq2; omega
        clear hq2
        simp only
        have k0 := HT3.out.c0
        have k1 := HT3.out.c1
        have k2 := HT3.out.c2
        have f0 := HT3.out.fr 0
        have f1 := HT3.out.fr 1
        have f2 := HT3.out.fr 2
        by_cases hq0 : q = 0
        · subst hq0
          have HR : Hid (first bs h n = none) := first_none2 bs h n c p HQ1.out HC1.out HF1.out m 0 HQ2.out rfl
          go_wp2_with fail
          refine bodyPost_ret (results_tok rfl _ _ w.heap.size _ _ _ rfl HT3.out.put3) rfl ?_
          rw [HR.out]
          exact ⟨_, _, rfl, below_put3 HB3.out (Nat.le_refl _), rfl, _, _, _, _, _, rfl⟩
        · have hqb : ((q : Int) == 0) = false := by rw [beq_eq_false_iff_ne]; omega
          obtain ⟨e', he'⟩ : ∃ e', e + q = e' := ⟨_, rfl⟩
          have hei' : (e : Int) + (q : Int) = (e' : Int) := by omega
          have hel' : (e' : Int) ≤ (len : Int) := by omega
          obtain ⟨lc, hsl3, hlc3, hls3, _⟩ := slice_l ab ao len cap e' (by omega) hcap
          have HLC := hide (rd_rest R.out (by omega) hlc3)
          have HE' := hide he'
          clear hlc3 hls3 he'
          obtain ⟨my, hmy, hmy1, hmy2⟩ : ∃ my : Int, (if (hc : Int) < 32768 then (hc : Int) else 32768) = my ∧ Hid (my = min 32768 ((h : Int) + (c : Int))) ∧ (0 ≤ my ∧ my ≤ 32768) := by
            refine ⟨_, rfl, ?_, ?_⟩
            · show _ = _; split <;> omega
            · split <;> omega
          obtain ⟨hy1, hy2⟩ := hmy2
          go_wp2_with fail
          refine (number_any (some lc) (len - e') (cap - e') (bs.drop e') my _ (HLC.out.below HB3.out) (by omega) (by omega)).mono ?_
          rintro e2 w4 ⟨rfl, hb4⟩
          have HB4 := hide (below_trans HB3.out hb4)
          have HT4 := hide (HT3.out.below hb4)
          clear hb4 HB3 HT3 k0 k1 k2 f0 f1 f2
          generalize hq3 : number (bs.drop e') my = q3
          obtain ⟨d, r⟩ := q3
          have HQ3 : Hid (number (bs.drop (p + c + q)) (min 32768 ((h : Int) + (c : Int))) = (d, r)) := by
            show _ = _; rw [HE.out, HE'.out, ← hmy1.out]; exact hq3
          have hrle : (r : Int) ≤ 140737488355328 := by
            rcases number_cases (bs.drop e') my with h1 | ⟨u, rest, h1, h2, _⟩
            · rw [h1] at hq3; cases hq3; omega
            · rw [h1] at hq3; cases hq3
              have := congrArg List.length h2
              rw [List.length_drop, List.length_append, HL.out] at this; omega
          clear hq3
          simp only
          have k0 := HT4.out.c0
          have k1 := HT4.out.c1
          have k2 := HT4.out.c2
          have f0 := HT4.out.fr 0
          have f1 := HT4.out.fr 1
          have f2 := HT4.out.fr 2
          by_cases hr0 : r = 0
          · subst hr0
            have HR : Hid (first bs h n = none) := first_none3 bs h n c p HQ1.out HC1.out HF1.out m q HQ2.out hq0 d 0 HQ3.out (.inl rfl)
            go_wp2_with fail
            refine bodyPost_ret (results_tok rfl _ _ w.heap.size _ _ _ rfl HT4.out.put3) rfl ?_
            rw [HR.out]
            exact ⟨_, _, rfl, below_put3 HB4.out (Nat.le_refl _), rfl, _, _, _, _, _, rfl⟩
          · have hrb : ((r : Int) == 0) = false := by rw [beq_eq_false_iff_ne]; omega
            by_cases hd0 : d = 0
            · subst hd0
              have HR : Hid (first bs h n = none) := first_none3 bs h n c p HQ1.out HC1.out HF1.out m q HQ2.out hq0 0 r HQ3.out (.inr rfl)
              go_wp2_with fail
              refine bodyPost_ret (results_tok rfl _ _ w.heap.size _ _ _ rfl HT4.out.put3) rfl ?_
              rw [HR.out]
              exact ⟨_, _, rfl, below_put3 HB4.out (Nat.le_refl _), rfl, _, _, _, _, _, rfl⟩
            · have hdb : ((d : Int) == 0) = false := by rw [beq_eq_false_iff_ne]; omega
              have HR : Hid (first bs h n = some (⟨(bs.drop p).take c, (d : Int), (m : Int) + 4⟩, e' + r)) := by
                have h1 := first_match bs h n c p HQ1.out HC1.out HF1.out m q HQ2.out hq0 d r HQ3.out (by omega)
                rw [HE.out, HE'.out] at h1; exact h1
              go_wp2_with fail
              refine bodyPost_ret (results_tok rfl _ _ w.heap.size _ _ _ rfl (HT4.out.put12 (q := (d : Int)) (r := (m : Int) + 4)).put3) rfl ?_
              rw [HR.out]
              have hlc : ((bs.drop p).take c).length = c := HLA.out.1
              refine ⟨_, _, rfl, below_put3 (below_cell (below_cell HB4.out (Nat.le_refl _) 1 _) (Nat.le_refl _) 2 _) (Nat.le_refl _), by simp, by omega, some la, c, by rw [hlc], by rw [hlc]; exact HLA.out, fun h => (by cases h), by rw [hlc]; exact Nat.le_refl _, by omega⟩
end Go.Proofs.YthdblnfohbldcaaGreat.Lz
/-
  What the program tells of Extend and Sum, of any bytes that a slice reads as.
-/
namespace Go.Proofs.YthdblnfohbldcaaGreat.Crc
set_option linter.unusedVariables false
open Go.Proofs.YthdblnfohbldcaaGreat.Base
open Go.ChangeShapes Go.WideShapes Go.ChangeAt Go.RowKit
theorem tab16_get (x : BitVec 32) : (tab 16)[(x &&& BitVec.ofNat 32 15).toNat]? = some (.int .u32 ((Mn 4 (x &&& BitVec.ofNat 32 15)).toNat : Int)) := by
  have hlt : (x &&& BitVec.ofNat 32 15).toNat < 16 := by
    rw [BitVec.toNat_and]
    have : x.toNat &&& (BitVec.ofNat 32 15).toNat ≤ (BitVec.ofNat 32 15).toNat := Nat.and_le_right
    have e : (BitVec.ofNat 32 15).toNat = 15 := by decide
    omega
  rw [tab_get 16 _ hlt, if_pos hlt]
  simp
theorem bnot (x : BitVec 32) : bits .xor .u32 IntKind.u32.max (x.toNat : Int) = ((~~~x).toNat : Int) := by
  have e : IntKind.u32.max = (((BitVec.allOnes 32).toNat : Nat) : Int) := by decide
  rw [e, bxor, BitVec.allOnes_xor]
theorem bxor8 (r : BitVec 32) (c : BitVec 8) : bits .xor .u32 (r.toNat : Int) (c.toNat : Int) = ((r ^^^ c.setWidth 32).toNat : Int) := by
  have e : ((c.toNat : Nat) : Int) = ((c.setWidth 32).toNat : Int) := by
    rw [BitVec.toNat_setWidth, Nat.mod_eq_of_lt]
    have := lt8 c
    omega
  rw [e, bxor]
theorem band15 (x : BitVec 32) : bits .and .u32 (x.toNat : Int) 15 = ((x &&& BitVec.ofNat 32 15).toNat : Int) := by
  have e : (15 : Int) = (((BitVec.ofNat 32 15).toNat : Nat) : Int) := by decide
  rw [e, band]
theorem u32s : IntKind.u32.signed = false := rfl
theorem not_step (s : BitVec 32) : ∃ n : BitVec 32, bits .xor .u32 IntKind.u32.max (s.toNat : Int) = (n.toNat : Int) ∧ Hid (n = ~~~s) := ⟨_, bnot s, rfl⟩
theorem byte_step (r : BitVec 32) (c : BitVec 8) : ∃ x : BitVec 32, bits .xor .u32 (r.toNat : Int) (c.toNat : Int) = (x.toNat : Int) ∧ Hid (x = r ^^^ c.setWidth 32) := ⟨_, bxor8 r c, rfl⟩
theorem half_step (X : BitVec 32) : ∃ z q t y : BitVec 32, (X.toNat : Int) / (16 : Int) = (z.toNat : Int) ∧ bits .and .u32 (X.toNat : Int) 15 = (q.toNat : Int) ∧ (q.toNat : Int) < 16 ∧
    (tab 16)[q.toNat]? = some (.int .u32 (t.toNat : Int)) ∧ bits .xor .u32 (z.toNat : Int) (t.toNat : Int) = (y.toNat : Int) ∧ Hid (y = Mn 4 X) := by
  refine ⟨_, _, _, _, bshr4 X, band15 X, ?_, tab16_get X, bxor _ _, half X⟩
  rw [BitVec.toNat_and]
  have : X.toNat &&& (BitVec.ofNat 32 15).toNat ≤ (BitVec.ofNat 32 15).toNat := Nat.and_le_right
  have e : (BitVec.ofNat 32 15).toNat = 15 := by decide
  omega
set_option maxHeartbeats 1000000 in
theorem extend_any (s : BitVec 32) (a : Option Addr) (len cap : Nat) (bs : List (BitVec 8)) (w : World) (hr : Rd w a len bs) :
    Calls Tryz.prog 88 #[.int .u32 (s.toNat : Int), .slice a len cap] w fun e w' => e = .returned (.int .u32 ((extend s bs).toNat : Int)) ∧ Below w.heap.size w w' := by
  obtain ⟨hl, hm, hc⟩ := hr
  have HL : Hid (bs.length = len) := hl
  clear hl
  have HC := hide hc
  clear hc
  obtain ⟨n0, hn0, HN0⟩ := not_step s
  have hsg := u32s
  go_enter Tryz.func88, Tryz.ntmps88
  go_wp2_with (go_at_call 133; refine (halves_any _).mono ?_; rintro e w1 ⟨rfl, hb⟩; rw [tab16_eq])
  rw [← tab16_eq]
  obtain ⟨hbc, hbf⟩ := bcell hb
  have HB := hide hb
  have hsz := hb.size
  clear hb
  go_loop [6, 14] (fun r i => ∃ k : Nat, k ≤ len ∧ i = .int .i64 k ∧ ∃ R : BitVec 32, r = .int .u32 (R.toNat : Int) ∧ Hid (R = run (~~~s) (bs.take k))) (fun _ i => len - (intOf i).toNat)
  case atStart => exact ⟨0, Nat.zero_le _, rfl, n0, rfl, by rw [HN0.out]; rfl⟩
  case round =>
    obtain ⟨k, hk, rfl, R, rfl, HR⟩ := hrel
    by_cases hlt : k < len
    · obtain ⟨b, off, rfl, hbl, hcell⟩ := unhide HC (by omega)
      have hck := hcell k hlt
      clear hcell
      generalize hC : bs.getD k 0 = c at hck
      have HCc := hide hC
      clear hC
      obtain ⟨X, h1, HX⟩ := byte_step R c
      obtain ⟨z, q, t, Y, h2, h3, h3', h4, h5, HY⟩ := half_step X
      obtain ⟨z2, q2, t2, Z, g2, g3, g3', g4, g5, HZ⟩ := half_step Y
      have hbw : b < w1.heap.size := by omega
      have hcw : w1.cell? ⟨b, off + k, none⟩ = some (.int .u8 (c.toNat : Int)) := by rw [hbc b _ hbl]; exact hck
      go_wp2
      go_round
      case rel =>
        refine ⟨k + 1, by omega, by go_num, Z, rfl, ?_⟩
        show Z = _
        rw [getD_take bs k (by have := HL.out; omega), run_snoc, ← HR.out, HCc.out, HZ.out, HY.out, HX.out, step_two]
      case measure => simp [intOf]; omega
    · obtain ⟨n1, hn1, HN1⟩ := not_step R
      go_wp2
      go_ret
      refine ⟨ret_int ?_, (HB.out).alloc (by omega) _⟩
      rw [HN1.out, HR.out, List.take_of_length_le (by have := HL.out; omega)]
      rfl
theorem sum_any (a : Option Addr) (len cap : Nat) (bs : List (BitVec 8)) (w : World) (hr : Rd w a len bs) :
    Calls Tryz.prog 39 #[.slice a len cap] w fun e w' => e = .returned (.int .u32 ((sum bs).toNat : Int)) ∧ Below w.heap.size w w' := by
  go_enter Tryz.func39, Tryz.ntmps39
  go_wp2_with fail
  refine (extend_any (BitVec.ofNat 32 0) a len cap bs _ hr).mono ?_
  rintro e w1 ⟨rfl, hb⟩
  go_wp2_with fail
  go_ret
  exact ⟨rfl, hb⟩
end Go.Proofs.YthdblnfohbldcaaGreat.Crc
/-
  The statements' own helpers: same, roomy, next: what each tells and what becomes of memory.
-/
namespace Go.Proofs.YthdblnfohbldcaaGreat.Crc
set_option linter.unusedVariables false
open Go.Proofs.YthdblnfohbldcaaGreat.Base
open Go.ChangeShapes Go.WideShapes Go.ChangeAt Go.RowKit
def pad : List (BitVec 8) := List.replicate 64 (BitVec.ofNat 8 165)
theorem length_pad : pad.length = 64 := by simp [pad]
theorem pad_get (k : Nat) (h : k < 64) : pad[k]? = some (BitVec.ofNat 8 165) := by
  unfold pad; rw [List.getElem?_replicate, if_pos h]
def padded (bs : List (BitVec 8)) : List (BitVec 8) := bs ++ pad
/-- What 'roomy' has laid behind k rounds. -/
def roomTo (bs : List (BitVec 8)) (k : Nat) : List (BitVec 8) := (padded bs).take k ++ List.replicate (bs.length + 64 - k) (BitVec.ofNat 8 0)
theorem length_padded (bs : List (BitVec 8)) : (padded bs).length = bs.length + 64 := by simp [padded, length_pad]
theorem length_roomTo (bs : List (BitVec 8)) (k : Nat) (h : k ≤ bs.length + 64) : (roomTo bs k).length = bs.length + 64 := by
  simp [roomTo, length_padded]; omega
theorem roomTo_zero (bs : List (BitVec 8)) : vals (roomTo bs 0) = (madeCells (Value.int .u8 0).cells ((bs.length + 64) * 1)).toList := by
  rw [show (Value.int .u8 0).cells = #[Value.int .u8 0] from rfl, toList_madeCells_one]
  simp [roomTo, vals, V8]
theorem roomTo_end (bs : List (BitVec 8)) : roomTo bs (bs.length + 64) = padded bs := by
  unfold roomTo; rw [List.take_of_length_le (by rw [length_padded]; omega)]; simp
theorem roomTo_step (bs : List (BitVec 8)) (k : Nat) (h : k < bs.length + 64) : (roomTo bs k).set k ((padded bs).getD k 0) = roomTo bs (k + 1) := by
  have hp : k < (padded bs).length := by rw [length_padded]; exact h
  unfold roomTo
  have hl : ((padded bs).take k).length = k := by rw [List.length_take]; omega
  rw [List.set_append_right _ _ (by omega), hl, Nat.sub_self, getD_take _ k hp,
    show bs.length + 64 - k = (bs.length + 64 - (k + 1)) + 1 by omega, List.replicate_succ, List.set_cons_zero, List.append_assoc]
  rfl
theorem padded_lt (bs : List (BitVec 8)) (k : Nat) (h : k < bs.length) : (padded bs).getD k 0 = bs.getD k 0 := by
  simp [padded, List.getElem?_append_left h]
theorem padded_ge (bs : List (BitVec 8)) (k : Nat) (h : bs.length ≤ k) (h2 : k < bs.length + 64) : (padded bs).getD k 0 = BitVec.ofNat 8 165 := by
  rw [List.getD_eq_getElem?_getD, padded, List.getElem?_append_right h, pad_get _ (by omega)]; rfl
/-- 'next' on a row of the call's own. -/
def inc (bs : List (BitVec 8)) : List (BitVec 8) := bs.map (· + BitVec.ofNat 8 1)
def incTo (bs : List (BitVec 8)) (k : Nat) : List (BitVec 8) := (inc bs).take k ++ bs.drop k
theorem length_inc (bs : List (BitVec 8)) : (inc bs).length = bs.length := by simp [inc]
theorem incTo_zero (bs : List (BitVec 8)) : incTo bs 0 = bs := by simp [incTo]
theorem incTo_end (bs : List (BitVec 8)) : incTo bs bs.length = inc bs := by
  unfold incTo; rw [List.take_of_length_le (by rw [length_inc]; omega)]; simp
theorem incTo_get (bs : List (BitVec 8)) (k : Nat) (h : k < bs.length) : (incTo bs k).getD k 0 = bs.getD k 0 := by
  have hl : ((inc bs).take k).length = k := by rw [List.length_take, length_inc]; omega
  rw [List.getD_eq_getElem?_getD, incTo, List.getElem?_append_right (by omega), hl, Nat.sub_self, List.getElem?_drop, Nat.add_zero, List.getD_eq_getElem?_getD]
theorem incTo_step (bs : List (BitVec 8)) (k : Nat) (h : k < bs.length) : (incTo bs k).set k (bs.getD k 0 + BitVec.ofNat 8 1) = incTo bs (k + 1) := by
  have hl : ((inc bs).take k).length = k := by rw [List.length_take, length_inc]; omega
  unfold incTo
  rw [List.set_append_right _ _ (by omega), hl, Nat.sub_self, getD_take _ k (by rw [length_inc]; exact h), List.drop_eq_getElem_cons h, List.set_cons_zero, List.append_assoc]
  congr 2
  rw [List.getD_eq_getElem?_getD, List.getElem?_eq_getElem h, List.getD_eq_getElem?_getD, inc, List.getElem?_map, List.getElem?_eq_getElem h]
  rfl
theorem inc_val (c : BitVec 8) : ((c.toNat : Int) + 1) % 256 = ((c + BitVec.ofNat 8 1).toNat : Int) := by
  rw [BitVec.toNat_add]; rfl
end Go.Proofs.YthdblnfohbldcaaGreat.Crc
/-
  From a row of bytes that came in to what the contracts ask: the slice reads as bytes, and is within the form's own reach.
-/
namespace Go.Proofs.YthdblnfohbldcaaGreat.Crc
set_option linter.unusedVariables false
open Go.Proofs.YthdblnfohbldcaaGreat.Base
open Go.ChangeShapes Go.WideShapes Go.ChangeAt Go.RowKit
end Go.Proofs.YthdblnfohbldcaaGreat.Crc
/-
  A text's own tokens, and what they are worth: said of lists.
-/
namespace Go.Proofs.YthdblnfohbldcaaGreat.Lz
open Go.Proofs.YthdblnfohbldcaaGreat.Base Go.Proofs.YthdblnfohbldcaaGreat.Nums
set_option linter.unusedVariables false
abbrev Txt := List (BitVec 8)
def gd (x : Txt) (k : Nat) : BitVec 8 := x.getD k 0
/-- Do the same four bytes stand at both places? -/
def same4 (x : Txt) (j i : Nat) : Bool := decide (gd x j = gd x i ∧ gd x (j + 1) = gd x (i + 1) ∧ gd x (j + 2) = gd x (i + 2) ∧ gd x (j + 3) = gd x (i + 3))
/-- How far what stands at j and i is the same, from r on, up to most, by so many steps. -/
def runF (x : Txt) (j i most : Nat) : Nat → Nat → Nat
  | 0, r => r
  | f + 1, r => if r < most ∧ gd x (j + r) = gd x (i + r) then runF x j i most f (r + 1) else r
theorem runF_any (x : Txt) (j i most : Nat) : ∀ f g r : Nat, most - r < f → most - r < g → runF x j i most f r = runF x j i most g r
  | 0, _, _, h1, _ => absurd h1 (by omega)
  | _ + 1, 0, _, _, h2 => absurd h2 (by omega)
  | f + 1, g + 1, r, h1, h2 => by
    rw [runF, runF]
    by_cases h : r < most ∧ gd x (j + r) = gd x (i + r)
    · rw [if_pos h, if_pos h, runF_any x j i most f g (r + 1) (by omega) (by omega)]
    · rw [if_neg h, if_neg h]
/-- How far what stands at j and i is the same, from r on, up to most. -/
def runFrom (x : Txt) (j i most r : Nat) : Nat := runF x j i most (most - r + 1) r
theorem runFrom_go (x : Txt) (j i most r : Nat) (h : r < most) (e : gd x (j + r) = gd x (i + r)) : runFrom x j i most r = runFrom x j i most (r + 1) := by
  have e1 : runF x j i most (most - r + 1) r = runF x j i most (most - r) (r + 1) := by rw [runF, if_pos ⟨h, e⟩]
  exact e1.trans (runF_any x j i most (most - r) (most - (r + 1) + 1) (r + 1) (by omega) (by omega))
theorem runFrom_stop (x : Txt) (j i most r : Nat) (h : ¬ (r < most ∧ gd x (j + r) = gd x (i + r))) : runFrom x j i most r = r := by rw [runFrom, runF, if_neg h]
theorem runFrom_le (x : Txt) (j i most : Nat) : ∀ n r, most - r ≤ n → r ≤ most → r ≤ runFrom x j i most r ∧ runFrom x j i most r ≤ most ∧ ∀ k, r ≤ k → k < runFrom x j i most r → gd x (j + k) = gd x (i + k) := by
  intro n
  induction n with
  | zero => intro r h1 h2; rw [runFrom_stop x j i most r (by omega)]; exact ⟨Nat.le_refl _, h2, fun k h3 h4 => by omega⟩
  | succ n ih =>
    intro r h1 h2
    by_cases h : r < most ∧ gd x (j + r) = gd x (i + r)
    · rw [runFrom_go x j i most r h.1 h.2]
      obtain ⟨g1, g2, g3⟩ := ih (r + 1) (by omega) (by omega)
      refine ⟨by omega, g2, fun k h3 h4 => ?_⟩
      by_cases hk : k = r
      · subst hk; exact h.2
      · exact g3 k (by omega) h4
    · rw [runFrom_stop x j i most r h]; exact ⟨Nat.le_refl _, h2, fun k h3 h4 => by omega⟩
def pays (d l : Nat) : Bool := decide (3 + (put d).length ≤ l)
/-- The better one of a match and the one at j. -/
def better (x : Txt) (i most j : Nat) (b : Nat × Nat) : Nat × Nat := if b.2 < runFrom x j i most 4 ∧ pays (i - j) (runFrom x j i most 4) = true then (i - j, runFrom x j i most 4) else b
/-- The places below m, the nearest first. -/
def search (x : Txt) (i most : Nat) : Nat → Nat → Nat × Nat → Nat × Nat
  | 0, _, b => b
  | m + 1, looks, b => if 32768 < i - m ∨ looks = 16 then b else if same4 x m i = true then search x i most m (looks + 1) (better x i most m b) else search x i most m looks b
def best (x : Txt) (i : Nat) : Nat × Nat := if x.length - i < 4 then (0, 0) else search x i (min 259 (x.length - i)) i 0 (0, 0)
theorem search_stop (x : Txt) (i most m looks : Nat) (b : Nat × Nat) (h : looks = 16 ∨ 32768 < i - (m - 1)) : search x i most m looks b = b := by
  cases m with
  | zero => rfl
  | succ m =>
    simp only [search]
    rw [if_pos]
    rcases h with h | h
    · exact .inr h
    · left; simpa using h
/-- The places that share a slot with i. -/
def prev (sl : Nat → Nat) (s : Nat) : Nat → Nat
  | 0 => 0
  | m + 1 => if sl m = s then m + 1 else prev sl s m
theorem prev_le (sl : Nat → Nat) (s : Nat) : ∀ m, prev sl s m ≤ m := by
  intro m
  induction m with
  | zero => exact Nat.le_refl _
  | succ m ih => simp only [prev]; split <;> omega
theorem prev_slot (sl : Nat → Nat) (s : Nat) : ∀ m j, prev sl s m = j + 1 → sl j = s ∧ j < m := by
  intro m
  induction m with
  | zero => intro j h; simp [prev] at h
  | succ m ih =>
    intro j h
    simp only [prev] at h
    split at h
    · rename_i e; have : m = j := by omega
      subst this; exact ⟨e, by omega⟩
    · obtain ⟨h1, h2⟩ := ih j h; exact ⟨h1, by omega⟩
theorem search_prev (x : Txt) (i most : Nat) (sl : Nat → Nat) (s : Nat) (hs : ∀ m, m < i → same4 x m i = true → sl m = s) (looks : Nat) (b : Nat × Nat) : ∀ m, m ≤ i → search x i most m looks b = search x i most (prev sl s m) looks b := by
  intro m
  induction m with
  | zero => intro _; rfl
  | succ m ih =>
    intro hm
    simp only [prev]
    by_cases e : sl m = s
    · rw [if_pos e]
    · rw [if_neg e]
      by_cases hst : 32768 < i - m ∨ looks = 16
      · have h1 : search x i most (m + 1) looks b = b := by simp only [search]; rw [if_pos hst]
        rw [h1]
        symm
        apply search_stop
        rcases hst with h | h
        · right
          have := prev_le sl s m
          omega
        · exact .inl h
      · have h1 : search x i most (m + 1) looks b = search x i most m looks b := by
          simp only [search]
          rw [if_neg hst, if_neg]
          intro h
          exact e (hs m (by omega) h)
        rw [h1, ih (by omega)]
theorem put_len_mono (u v : Nat) (h : u ≤ v) : (put u).length ≤ (put v).length := by
  induction v using Nat.strongRecOn generalizing u with
  | ind v ih =>
    by_cases hu : u < 128
    · rw [put_small u hu]; exact put_pos v
    · rw [put_large u (by omega), put_large v (by omega), List.length_cons, List.length_cons]
      have := ih (v / 128) (by omega) (u / 128) (Nat.div_le_div_right h)
      omega
/-- Where the longest that can be has been met, nothing farther is better. -/
theorem search_full (x : Txt) (i most : Nat) (b : Nat × Nat) (h4 : 4 ≤ most) : ∀ m looks, (most ≤ b.2 ∨ ∀ j, j < m → ∀ r, r ≤ most → pays (i - j) r = false) → search x i most m looks b = b := by
  intro m
  induction m with
  | zero => intro looks _; rfl
  | succ m ih =>
    intro looks h
    simp only [search]
    have hm : better x i most m b = b := by
      unfold better
      rw [if_neg]
      rintro ⟨h1, h2⟩
      have hr := (runFrom_le x m i most (most - 4) 4 (Nat.le_refl _) h4).2.1
      rcases h with h | h
      · omega
      · rw [h m (by omega) _ hr] at h2; cases h2
    have h' : ∀ b', b' = b → ∀ looks, search x i most m looks b' = b := fun b' e looks => by
      subst e
      refine ih looks ?_
      rcases h with h | h
      · exact .inl h
      · exact .inr (fun j hj => h j (by omega))
    split
    · rfl
    · split
      · exact h' _ hm _
      · exact h' _ rfl _
theorem better_full (x : Txt) (i most j : Nat) (b : Nat × Nat) (hb : b.2 ≤ most) (hr : runFrom x j i most 4 = most) : most ≤ (better x i most j b).2 ∨ ∀ j', j' < j → ∀ r, r ≤ most → pays (i - j') r = false := by
  by_cases h1 : most ≤ b.2
  · left
    unfold better
    split
    · rw [hr]; exact Nat.le_refl _
    · exact h1
  · by_cases h2 : pays (i - j) most = true
    · left
      unfold better
      rw [hr, if_pos ⟨by omega, h2⟩]; exact Nat.le_refl _
    · right
      intro j' hj r hle
      unfold pays at h2 ⊢
      rw [decide_eq_false_iff_not]
      intro h3
      apply h2
      rw [decide_eq_true_iff]
      have := put_len_mono (i - j) (i - j') (by omega)
      omega
theorem better_le (x : Txt) (i most j : Nat) (b : Nat × Nat) (h4 : 4 ≤ most) (hb : b.2 ≤ most) : (better x i most j b).2 ≤ most := by
  unfold better
  split
  · exact (runFrom_le x j i most (most - 4) 4 (Nat.le_refl _) h4).2.1
  · exact hb
/-- A match that may be: it pays, and says what stands there. -/
def Fits (x : Txt) (i : Nat) (b : Nat × Nat) : Prop := b = (0, 0) ∨ (1 ≤ b.1 ∧ b.1 ≤ 32768 ∧ b.1 ≤ i ∧ 4 ≤ b.2 ∧ b.2 ≤ 259 ∧ i + b.2 ≤ x.length ∧ 3 + (put b.1).length ≤ b.2 ∧ ∀ k, k < b.2 → gd x (i - b.1 + k) = gd x (i + k))
theorem search_fits (x : Txt) (i most : Nat) (h4 : 4 ≤ most) (hm : most ≤ 259) (hl : i + most ≤ x.length) : ∀ m looks b, m ≤ i → Fits x i b → Fits x i (search x i most m looks b) := by
  intro m
  induction m with
  | zero => intro looks b _ h; exact h
  | succ m ih =>
    intro looks b hmi h
    simp only [search]
    split
    · exact h
    · rename_i hst
      split
      · rename_i hs
        refine ih _ _ (by omega) ?_
        unfold better
        split
        · rename_i hb
          obtain ⟨g1, g2, g3⟩ := runFrom_le x m i most (most - 4) 4 (Nat.le_refl _) h4
          have hp := hb.2
          unfold pays at hp
          rw [decide_eq_true_iff] at hp
          unfold same4 at hs
          rw [decide_eq_true_iff] at hs
          right
          refine ⟨by simp only; omega, by simp only; omega, by simp only; omega, g1, by simp only; omega, by simp only; omega, hp, fun k hk => ?_⟩
          have e : i - (i - m) + k = m + k := by omega
          simp only [e]
          by_cases hk4 : 4 ≤ k
          · exact g3 k hk4 hk
          · rcases k with _ | _ | _ | _ | k
            · exact hs.1
            · exact hs.2.1
            · exact hs.2.2.1
            · exact hs.2.2.2
            · omega
        · exact h
      · exact ih _ _ (by omega) h
theorem best_fits (x : Txt) (i : Nat) : Fits x i (best x i) := by
  unfold best
  split
  · exact .inl rfl
  · exact search_fits x i _ (by omega) (by omega) (by omega) i 0 (0, 0) (Nat.le_refl _) (.inl rfl)
/-- A text's own tokens, from the place i on, where the last one ended at 'frm', by so many steps. -/
def ownF (x : Txt) : Nat → Nat → Nat → List Tok
  | 0, _, _ => []
  | f + 1, i, frm =>
    if i < x.length then
      if 0 < (best x i).2 then ⟨(x.drop frm).take (i - frm), ((best x i).1 : Int), ((best x i).2 : Int)⟩ :: ownF x f (i + (best x i).2) (i + (best x i).2)
      else ownF x f (i + 1) frm
    else if frm < x.length then [⟨x.drop frm, 0, 0⟩] else []
theorem ownF_any (x : Txt) : ∀ f g i frm : Nat, x.length - i < f → x.length - i < g → ownF x f i frm = ownF x g i frm
  | 0, _, _, _, h1, _ => absurd h1 (by omega)
  | _ + 1, 0, _, _, _, h2 => absurd h2 (by omega)
  | f + 1, g + 1, i, frm, h1, h2 => by
    rw [ownF, ownF]
    by_cases h : i < x.length
    · rw [if_pos h, if_pos h]
      by_cases h3 : 0 < (best x i).2
      · rw [if_pos h3, if_pos h3, ownF_any x f g (i + (best x i).2) (i + (best x i).2) (by omega) (by omega)]
      · rw [if_neg h3, if_neg h3, ownF_any x f g (i + 1) frm (by omega) (by omega)]
    · rw [if_neg h, if_neg h]
/-- A text's own tokens, from the place i on, where the last one ended at 'frm'. -/
def ownFrom (x : Txt) (i frm : Nat) : List Tok := ownF x (x.length - i + 1) i frm
theorem own_match (x : Txt) (i frm : Nat) (h : i < x.length) (h2 : 0 < (best x i).2) : ownFrom x i frm = ⟨(x.drop frm).take (i - frm), ((best x i).1 : Int), ((best x i).2 : Int)⟩ :: ownFrom x (i + (best x i).2) (i + (best x i).2) := by
  have e := ownF_any x (x.length - i) (x.length - (i + (best x i).2) + 1) (i + (best x i).2) (i + (best x i).2) (by omega) (by omega)
  rw [ownFrom, ownF, if_pos h, if_pos h2, e]
  rfl
theorem own_skip (x : Txt) (i frm : Nat) (h : i < x.length) (h2 : ¬ 0 < (best x i).2) : ownFrom x i frm = ownFrom x (i + 1) frm := by
  have e := ownF_any x (x.length - i) (x.length - (i + 1) + 1) (i + 1) frm (by omega) (by omega)
  rw [ownFrom, ownF, if_pos h, if_neg h2, e]
  rfl
theorem own_end (x : Txt) (i frm : Nat) (h : ¬ i < x.length) : ownFrom x i frm = if frm < x.length then [⟨x.drop frm, 0, 0⟩] else [] := by rw [ownFrom, ownF, if_neg h]
theorem copyN_says (x : Txt) (i d : Nat) (hd : 1 ≤ d) (hdi : d ≤ i) : ∀ n, i + n ≤ x.length → (∀ k, k < n → gd x (i - d + k) = gd x (i + k)) → copyN d n (x.take i) = x.take (i + n) := by
  intro n
  induction n with
  | zero => intro _ _; rfl
  | succ n ih =>
    intro hl hs
    rw [copyN_snoc, ih (by omega) (fun k hk => hs k (by omega))]
    have e1 : (x.take (i + n)).length = i + n := by rw [List.length_take]; omega
    rw [e1]
    have e2 : (x.take (i + n)).getD (i + n - d) 0 = gd x (i + n - d) := by
      unfold gd; rw [List.getD_eq_getElem?_getD, List.getD_eq_getElem?_getD, List.getElem?_take, if_pos (by omega)]
    have e3 := hs n (by omega)
    rw [show i - d + n = i + n - d by omega] at e3
    rw [e2, e3]
    unfold gd
    rw [show i + (n + 1) = (i + n) + 1 by omega, getD_take x (i + n) (by omega)]
/-- They are a right list, and say the text. -/
theorem own_good (x : Txt) (hx : x.length ≤ 65536) : ∀ n i frm, x.length - i ≤ n → frm ≤ i → i ≤ x.length → Good (ownFrom x i frm) frm x.length ∧ expand (x.take frm) (ownFrom x i frm) = x := by
  intro n
  induction n with
  | zero =>
    intro i frm h1 h2 h3
    rw [own_end x i frm (by omega)]
    split
    · rename_i hf
      refine ⟨⟨hf, .inl ⟨⟨rfl, rfl⟩, by simp; omega⟩, by simp [Good]; omega⟩, ?_⟩
      rw [expand_cons]
      show copyN 0 0 (x.take frm ++ x.drop frm) = x
      rw [List.take_append_drop]; rfl
    · exact ⟨by simp only [Good]; omega, by show x.take frm = x; rw [List.take_of_length_le (by omega)]⟩
  | succ n ih =>
    intro i frm h1 h2 h3
    by_cases hi : i < x.length
    · by_cases hb : 0 < (best x i).2
      · rw [own_match x i frm hi hb]
        rcases best_fits x i with e | ⟨f1, f2, f3, f4, f5, f6, f7, f8⟩
        · rw [e] at hb; simp at hb
        · obtain ⟨g1, g2⟩ := ih (i + (best x i).2) (i + (best x i).2) (by omega) (Nat.le_refl _) (by omega)
          have hlit : ((x.drop frm).take (i - frm)).length = i - frm := by rw [List.length_take, List.length_drop]; omega
          have hgrow : grow (x.take frm) ⟨(x.drop frm).take (i - frm), ((best x i).1 : Int), ((best x i).2 : Int)⟩ = x.take (i + (best x i).2) := by
            show copyN (((best x i).1 : Int)).toNat (((best x i).2 : Int)).toNat (x.take frm ++ (x.drop frm).take (i - frm)) = _
            rw [Int.toNat_natCast, Int.toNat_natCast]
            have e : x.take frm ++ (x.drop frm).take (i - frm) = x.take i := by
              have := List.take_add (l := x) (i := frm) (j := i - frm)
              rw [show frm + (i - frm) = i by omega] at this
              exact this.symm
            rw [e]
            exact copyN_says x i (best x i).1 f1 f3 (best x i).2 f6 f8
          refine ⟨⟨by omega, ?_, ?_⟩, by rw [expand_cons, hgrow]; exact g2⟩
          · by_cases hfin : False
            · exact hfin.elim
            · refine .inr ⟨by simp only [hlit]; omega, by simp only; omega, by simp only; omega, by simp only [hlit]; omega, by simp only; omega, by simp only; omega, by simp only [hlit]; omega⟩
          · have e : frm + ((x.drop frm).take (i - frm)).length + (((best x i).2 : Int)).toNat = i + (best x i).2 := by rw [hlit, Int.toNat_natCast]; omega
            simp only
            rw [e]; exact g1
      · rw [own_skip x i frm hi hb]
        exact ih (i + 1) frm (by omega) (by omega) (by omega)
    · have : i = x.length := by omega
      rw [own_end x i frm hi]
      split
      · rename_i hf
        refine ⟨⟨hf, .inl ⟨⟨rfl, rfl⟩, by simp; omega⟩, by simp [Good]; omega⟩, ?_⟩
        rw [expand_cons]
        show copyN 0 0 (x.take frm ++ x.drop frm) = x
        rw [List.take_append_drop]; rfl
      · exact ⟨by simp only [Good]; omega, by show x.take frm = x; rw [List.take_of_length_le (by omega)]⟩
end Go.Proofs.YthdblnfohbldcaaGreat.Lz
/-
  The walk of the statement LzBound.
-/
namespace Go.Proofs.YthdblnfohbldcaaGreat.Lz
open Go.ChangeShapes Go.WideShapes Go.ChangeAt Go.RowKit
open Go.Proofs.YthdblnfohbldcaaGreat.Base
set_option linter.unusedVariables false
/-- How many bytes a text of n bytes takes at most. -/
def bound (n : Int) : Int := if n < 1 ∨ 65536 < n then 0 else if n < 128 then n + 1 else if n < 16384 then n + 2 else n + 5
theorem bound_out (n : Int) (h : n < 1 ∨ 65536 < n) : bound n = 0 := by unfold bound; rw [if_pos h]
theorem bound_one (n : Int) (h0 : 1 ≤ n) (h : n < 128) : bound n = n + 1 := by unfold bound; rw [if_neg (by omega), if_pos h]
theorem bound_two (n : Int) (h0 : 128 ≤ n) (h : n < 16384) : bound n = n + 2 := by unfold bound; rw [if_neg (by omega), if_neg (by omega), if_pos h]
theorem bound_five (n : Int) (h0 : 16384 ≤ n) (h : n ≤ 65536) : bound n = n + 5 := by unfold bound; rw [if_neg (by omega), if_neg (by omega), if_neg (by omega)]
set_option maxHeartbeats 1000000 in
theorem bound_any (n : Int) (w : World) : Calls Tryz.prog 49 #[.int .i64 n] w fun e w' => e = .returned (.int .i64 (bound n)) ∧ w' = w := by
  by_cases h1 : n ≤ 0
  · have HE := hide (bound_out n (by omega))
    go_enter Tryz.func49, Tryz.ntmps49
    go_wp2
    go_ret
    exact ⟨ret_int HE.out.symm, rfl⟩
  · by_cases h2 : 65536 < n
    · have HE := hide (bound_out n (by omega))
      go_enter Tryz.func49, Tryz.ntmps49
      go_wp2
      go_ret
      exact ⟨ret_int HE.out.symm, rfl⟩
    · by_cases h3 : n ≤ 127
      · have HE := hide (bound_one n (by omega) (by omega))
        go_enter Tryz.func49, Tryz.ntmps49
        go_wp2
        go_ret
        exact ⟨ret_int HE.out.symm, rfl⟩
      · by_cases h4 : n ≤ 16383
        · have HE := hide (bound_two n (by omega) (by omega))
          go_enter Tryz.func49, Tryz.ntmps49
          go_wp2
          go_ret
          exact ⟨ret_int HE.out.symm, rfl⟩
        · have HE := hide (bound_five n (by omega) (by omega))
          go_enter Tryz.func49, Tryz.ntmps49
          go_wp2
          go_ret
          exact ⟨ret_int HE.out.symm, rfl⟩
end Go.Proofs.YthdblnfohbldcaaGreat.Lz
/-
  When two lists of bytes are the same.
-/
namespace Go.Proofs.YthdblnfohbldcaaGreat.Lz
set_option linter.unusedVariables false
open Go.ChangeShapes Go.WideShapes Go.ChangeAt Go.RowKit
open Go.Proofs.YthdblnfohbldcaaGreat.Base
end Go.Proofs.YthdblnfohbldcaaGreat.Lz
/-
  mod: from lo to hi.
-/
namespace Go.Proofs.YthdblnfohbldcaaGreat.Bl
open Go.ChangeShapes Go.WideShapes Go.ChangeAt Go.RowKit
open Go.Proofs.YthdblnfohbldcaaGreat.Base
set_option linter.unusedVariables false
theorem mod_rng (n N : Int) (hN : 0 < N) : -N < n.tmod N ∧ n.tmod N < N := by
  rcases Int.le_total 0 n with h | h
  · have h1 := Int.tmod_nonneg N h
    have h2 := Int.tmod_lt_of_pos n hN
    omega
  · have h1 := Int.tmod_lt_of_pos (-n) hN
    have h2 := Int.tmod_nonneg N (a := -n) (by omega)
    rw [Int.neg_tmod] at h1 h2
    omega
theorem mod_any (x lo hi : Int) (w : World) (hlo : 0 ≤ lo) (hh : lo ≤ hi) (hhi : hi ≤ 1099511627776) :
    Calls Tryz.prog 9 #[.int .i64 x, .int .i64 lo, .int .i64 hi] w fun e w' => ∃ v : Nat, e = .returned (.int .i64 (v : Int)) ∧ lo ≤ (v : Int) ∧ (v : Int) ≤ hi ∧ w' = w := by
  obtain ⟨N, hN⟩ : ∃ N, hi - lo + 1 = N := ⟨_, rfl⟩
  have h1 : IntKind.i64.wrap (hi - lo) = hi - lo := by rw [IntKind.wrap_i64]; omega
  have h2 : IntKind.i64.wrap (hi - lo + 1) = N := by rw [IntKind.wrap_i64]; omega
  obtain ⟨r, hr⟩ : ∃ r, x.tmod N = r := ⟨_, rfl⟩
  have h3 := mod_rng x N (by omega)
  rw [hr] at h3
  have h4 : IntKind.i64.wrap r = r := by rw [IntKind.wrap_i64]; omega
  have h5 : ¬ N = 0 := by omega
  by_cases hc : r < 0
  · obtain ⟨v, hv⟩ := Int.eq_ofNat_of_zero_le (show 0 ≤ lo + (r + N) by omega)
    have h6 : IntKind.i64.wrap (r + N) = r + N := by rw [IntKind.wrap_i64]; omega
    have h7 : IntKind.i64.wrap (lo + (r + N)) = (v : Int) := by rw [IntKind.wrap_i64]; omega
    go_enter Tryz.func9, Tryz.ntmps9
    go_wp2_with fail
    go_ret
    exact ⟨v, rfl, by omega, by omega, rfl⟩
  · obtain ⟨v, hv⟩ := Int.eq_ofNat_of_zero_le (show 0 ≤ lo + r by omega)
    have h7 : IntKind.i64.wrap (lo + r) = (v : Int) := by rw [IntKind.wrap_i64]; omega
    go_enter Tryz.func9, Tryz.ntmps9
    go_wp2_with fail
    go_ret
    exact ⟨v, rfl, by omega, by omega, rfl⟩
end Go.Proofs.YthdblnfohbldcaaGreat.Bl
