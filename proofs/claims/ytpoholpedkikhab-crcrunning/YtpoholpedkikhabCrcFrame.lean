/-
  From a row of bytes that came in to what the contracts ask: the slice reads as bytes, and is within the form's own reach.
-/
import Derived.Test.YtpoholpedkikhabCrcMem
import Derived.ProofKit
import Derived.OpenShut
import Derived.SizedLaws
namespace Go.Proofs.Ytpoholpedkikhab.Crc
open Go.ChangeShapes Go.WideShapes Go.ChangeAt Go.RowKit
theorem own : ownKnob Try.prog.godebug = none := by kernel_rfl
theorem laidOut : laidOutB Try.prog = true := by kernel_rfl
theorem bytes8 : Try.prog.bytesOf 5 = 1 := by kernel_rfl
theorem rd_nil (w : World) : Rd w none 0 [] := ⟨rfl, by omega, fun h => absurd h (by omega)⟩
theorem rd_zero (w : World) (a : Option Addr) : Rd w a 0 [] := ⟨rfl, by omega, fun h => absurd h (by omega)⟩
theorem wf_u8 {n : Int} (h : (Lit.int .u8 n).wf = true) : 0 ≤ n ∧ n < 256 := by
  have := bounds_u8 h
  omega
theorem rd_row {w : World} {x : Addr} {l c : Nat} {zs : List Int} (hl : l ≤ c) (hz : zs.length = c) (hcell : ∀ i, i < zs.length → w.cell? (x.add i) = some (.int .u8 (zs.getD i 0)))
    (hwz : ∀ n ∈ zs, (Lit.int .u8 n).wf = true) (hc : c ≤ 140737488351232) : ∃ bs, Rd w (some x) l bs := by
  refine ⟨(zs.take l).map (BitVec.ofInt 8), by simp; omega, by omega, fun hp => ?_⟩
  obtain ⟨b, off, spot⟩ := x
  have h0 := hcell 0 (by omega)
  have hspot : spot = none := by simpa [Addr.add] using World.cell?_spot h0
  subst hspot
  refine ⟨b, off, rfl, ?_, fun i hi => ?_⟩
  · have := block_lt_of_cell h0
    simpa [Addr.add] using this
  · have h := hcell i (by omega)
    rw [show (⟨b, off, none⟩ : Addr).add i = ⟨b, off + i, none⟩ by simp [Addr.add]] at h
    rw [h]
    have hlt : i < zs.length := by omega
    have hm : zs.getD i 0 ∈ zs := by
      rw [List.getD_eq_getElem?_getD, List.getElem?_eq_getElem hlt]; exact List.getElem_mem hlt
    obtain ⟨n0, n1⟩ := wf_u8 (hwz _ hm)
    have e : ((zs.take l).map (BitVec.ofInt 8)).getD i 0 = BitVec.ofInt 8 (zs.getD i 0) := by
      rw [List.getD_eq_getElem?_getD, List.getElem?_map, List.getElem?_take, if_pos hi, List.getD_eq_getElem?_getD, List.getElem?_eq_getElem hlt]; rfl
    rw [e]
    generalize zs.getD i 0 = n at n0 n1
    obtain ⟨m, rfl⟩ := Int.eq_ofNat_of_zero_le n0
    rw [ofInt_u8 m (by omega)]
theorem Rd.below {w w' : World} {a : Option Addr} {len : Nat} {bs : List (BitVec 8)} (h : Rd w a len bs) (hb : Below w.heap.size w w') : Rd w' a len bs := by
  obtain ⟨h1, h2, h3⟩ := h
  refine ⟨h1, h2, fun hp => ?_⟩
  obtain ⟨b, off, rfl, hlt, hc⟩ := h3 hp
  refine ⟨b, off, rfl, Nat.lt_of_lt_of_le hlt hb.size, fun i hi => ?_⟩
  rw [hb.cell (p := ⟨b, off + i, none⟩) hlt]
  exact hc i hi
theorem below_grown {w w' : World} (hb : Below w.heap.size w w') : w.grownBy w' none :=
  ⟨hb.os, hb.tape, hb.output, hb.size, fun k hk _ => hb.block k hk⟩
theorem Own.below {w w' : World} {base : Nat} {v : Value} {bs : List (BitVec 8)} (h : Own w base v bs) (hb : Below w.heap.size w w') : Own w' base v bs := by
  refine World.ownsRow.kept (row := none) h (below_grown hb) ?_
  cases hv : v.ownBlock with
  | none => exact .inl rfl
  | some k => exact .inr (by simp)
theorem Own.other {w w' : World} {base g n cap g' : Nat} {bs : List (BitVec 8)} (h : Own w base (.slice (some ⟨g, 0, none⟩) n cap) bs) (hb : w.grownBy w' (some g')) (hne : g ≠ g') : Own w' base (.slice (some ⟨g, 0, none⟩) n cap) bs :=
  World.ownsRow.kept (row := some g') h hb (.inr (by simp [Value.ownBlock, hne]))
theorem Own.lt' {w : World} {base g n cap : Nat} {bs : List (BitVec 8)} (h : Own w base (.slice (some ⟨g, 0, none⟩) n cap) bs) : base ≤ g ∧ g < w.heap.size := World.ownsRow.lt h g rfl
theorem Own.mono {w : World} {base base' : Nat} {v : Value} {bs : List (BitVec 8)} (h : Own w base v bs) (hb : base' ≤ base) : Own w base' v bs := by
  obtain ⟨h1, h2⟩ := h
  refine ⟨h1, ?_⟩
  rcases h2 with h2 | ⟨g, cap, cur, e1, e2, e3⟩
  · exact .inl h2
  · exact .inr ⟨g, cap, cur, e1, Nat.le_trans hb e2, e3⟩
/-- The first m of an own slice: 'v[:m]'. -/
theorem Own.cut {w : World} {base g n cap : Nat} {bs : List (BitVec 8)} (h : Own w base (.slice (some ⟨g, 0, none⟩) n cap) bs) (m : Nat) (hm : m ≤ n) : Own w base (.slice (some ⟨g, 0, none⟩) m cap) (bs.take m) := by
  have hn := h.len
  subst hn
  obtain ⟨h1, h2⟩ := h
  have hl : (bs.take m).length = m := by rw [List.length_take]; omega
  unfold Own
  rw [hl]
  refine ⟨by rw [length_vals, hl]; omega, ?_⟩
  rcases h2 with ⟨h2, _⟩ | ⟨g', cap', cur, e1, e2, e3, e4, e5, e6, e7⟩
  · simp at h2
  · simp only [Value.slice.injEq, Option.some.injEq, Addr.mk.injEq, and_true, true_and] at e1
    obtain ⟨rfl, rfl⟩ := e1
    refine .inr ⟨g, cap, cur, rfl, e2, e3, by omega, e5, e6, ?_⟩
    rw [Nat.mul_one] at e7 ⊢
    have : (cur.toList.take bs.length).take m = (vals bs).take m := by rw [e7]
    rw [List.take_take, Nat.min_eq_left hm] at this
    rw [this, vals, vals, List.map_take]
theorem Own.cap {w : World} {base g n cap : Nat} {bs : List (BitVec 8)} (h : Own w base (.slice (some ⟨g, 0, none⟩) n cap) bs) : n ≤ cap := by
  rcases h.2 with ⟨h1, _⟩ | ⟨_, _, _, h1, _, _, h2, _⟩
  · simp at h1
  · simp at h1; omega
theorem grown_below {w0 w w' : World} {g : Nat} (hb : Below w0.heap.size w0 w) (hg : w.grownBy w' (some g)) (h : w0.heap.size ≤ g) : Below w0.heap.size w0 w' :=
  hb.grown hg hb.size (fun k e => by cases e; exact h)
theorem below_trans {w0 w w' : World} (hb : Below w0.heap.size w0 w) (hc : Below w.heap.size w w') : Below w0.heap.size w0 w' :=
  hb.trans (hc.mono hb.size)
theorem bv_u32 {n : Int} (h : (Lit.int .u32 n).wf = true) : ∃ x : BitVec 32, n = (x.toNat : Int) := by
  have hb := bounds_u32 h
  obtain ⟨m, rfl⟩ := Int.eq_ofNat_of_zero_le hb.1
  refine ⟨BitVec.ofNat 32 m, ?_⟩
  rw [BitVec.toNat_ofNat]
  omega
end Go.Proofs.Ytpoholpedkikhab.Crc
