/-
  The statements' helpers: bytes written over where they lie.
-/
import Derived.Test.YtcchknpgkcmneaaLzK2
namespace Go.Proofs.Ytcchknpgkcmneaa.Lz
open Go.ChangeShapes Go.WideShapes Go.ChangeAt Go.RowKit
open Go.Proofs.Ytcchknpgkcmneaa.Base Go.Proofs.Ytcchknpgkcmneaa.Nums
set_option linter.unusedVariables false
theorem own_put {w : World} {base g n c : Nat} {y : List (BitVec 8)} (h : Own w base (.slice (some ⟨g, 0, none⟩) n c) y) (i : Nat) (d : BitVec 8) : Own (w.setCell ⟨g, i, none⟩ (.int .u8 (d.toNat : Int))) base (.slice (some ⟨g, 0, none⟩) n c) (y.set i d) := by
  have hv : vals (y.set i d) = (vals y).set i (.int .u8 (d.toNat : Int)) := by unfold vals; rw [List.map_set]; rfl
  rcases h.2 with ⟨h1, _⟩ | ⟨g', cap', cur, e1, e2, e3, e4, e5, e6, e7⟩
  · simp at h1
  · simp only [Value.slice.injEq, Option.some.injEq, Addr.mk.injEq, and_true] at e1
    obtain ⟨rfl, hn, rfl⟩ := e1
    refine ⟨by rw [hv, List.length_set]; have := h.1; rw [List.length_set]; exact this, .inr ⟨g, c, cur.setIfInBounds i (.int .u8 (d.toNat : Int)), by rw [List.length_set, hn], e2, heap_setCell_same _ _ _ _ _ _ e3, by rw [List.length_set]; exact e4, e5, by simp [e6], ?_⟩⟩
    rw [List.length_set, hv, ← e7, Array.toList_setIfInBounds, List.take_set]
theorem own_cell {w : World} {base g n c : Nat} {y : List (BitVec 8)} (h : Own w base (.slice (some ⟨g, 0, none⟩) n c) y) (hl : y.length ≤ 140737488355328) (i : Nat) (hi : i < n) : w.cell? ⟨g, i, none⟩ = some (.int .u8 ((y.getD i 0).toNat : Int)) := by
  obtain ⟨b, off, e, _, hc⟩ := (Got.rd h hl).2.2 (by omega)
  cases e
  have := hc i hi
  rwa [Nat.zero_add] at this
theorem own_fr {w : World} {base g n c : Nat} {y : List (BitVec 8)} (h : Own w base (.slice (some ⟨g, 0, none⟩) n c) y) (i : Nat) : w.frozen? ⟨g, i, none⟩ = false := by
  rcases h.2 with ⟨h1, _⟩ | ⟨g', cap', cur, e1, e2, e3, e4⟩
  · simp at h1
  · simp only [Value.slice.injEq, Option.some.injEq, Addr.mk.injEq, and_true] at e1
    obtain ⟨rfl, _⟩ := e1
    exact frozen_of_row _ _ _ _ _ e3
theorem flip1 (d : BitVec 8) : bits .xor .u8 (d.toNat : Int) 1 = ((d ^^^ 1).toNat : Int) := bxor_u8 d 1
set_option maxHeartbeats 1000000 in
set_option maxRecDepth 100000 in
theorem turned_any (base g n c : Nat) (y : List (BitVec 8)) (w : World) (ho : Own w base (.slice (some ⟨g, 0, none⟩) n c) y) (hl : n ≤ 140737488351232) :
    Calls Try.prog 33 #[.slice (some ⟨g, 0, none⟩) n c] w fun e w' => ∃ v z, e = .returned v ∧ z.length = n ∧ Own w' w.heap.size v z ∧ Own w' base (.slice (some ⟨g, 0, none⟩) n c) z ∧ w.grownBy w' (some g) := by
  have HO := hide ho
  have HY := hide ho.len
  have hli : (n : Int) ≤ 140737488351232 := by omega
  have hgl := (blk ho g rfl).2
  clear ho
  go_enter Try.func33, Try.ntmps33
  go_wp2_with fail
  go_loopw [3] (fun s3 wr => ∃ (k : Nat) (z : List (BitVec 8)), k ≤ n ∧ s3 = .int .i64 (k : Int) ∧ Hid (z.length = n) ∧ Hid (Own wr base (.slice (some ⟨g, 0, none⟩) n c) z) ∧ Hid (w.grownBy wr (some g))) (fun s3 _ => n - (intOf s3).toNat)
  case atStart => exact ⟨0, y, Nat.zero_le _, rfl, HY.out.symm, HO, World.grownBy.refl _ _⟩
  case round =>
    obtain ⟨k, z, hk, rfl, HZ, HO1, HG⟩ := hrel
    by_cases hlt : (k : Int) < (n : Int) / 2
    · obtain ⟨q, hq⟩ : ∃ q : Nat, (n : Int) - 1 - (k : Int) = (q : Int) := ⟨n - 1 - k, by omega⟩
      have hqn : (q : Int) < (n : Int) := by omega
      have hkn : (k : Int) < (n : Int) := by omega
      have hkq : k ≠ q := by omega
      have c1 := own_cell HO1.out (by have := HZ.out; omega) k (by omega)
      have c2 := own_cell HO1.out (by have := HZ.out; omega) q (by omega)
      have f1 := own_fr HO1.out k
      have f2 := own_fr HO1.out q
      generalize z.getD k 0 = A at c1
      generalize z.getD q 0 = B at c2
      go_wp2_with fail
      go_roundw
      case rel => exact ⟨k + 1, (z.set k B).set q A, by omega, by go_num, by show _ = _; rw [List.length_set, List.length_set]; exact HZ.out, own_put (own_put HO1.out k B) q A, grown_cell (grown_cell HG.out k _) q _⟩
      case measure => simp [intOf]; omega
    · clear HO HY
      go_wp2_with fail
      go_loopw [5] (fun s5 wy => ∃ (j : Nat) (z : List (BitVec 8)), j ≤ n ∧ s5 = .int .i64 (j : Int) ∧ Hid (z.length = n) ∧ Hid (Own wy base (.slice (some ⟨g, 0, none⟩) n c) z) ∧ Hid (w.grownBy wy (some g))) (fun s5 _ => n - (intOf s5).toNat)
      case atStart => exact ⟨0, z, Nat.zero_le _, rfl, HZ, HO1, HG⟩
      case round =>
        clear HZ HO1 HG
        obtain ⟨j, z, hj, rfl, HZ, HO1, HG⟩ := hrel
        by_cases hlt2 : (j : Int) < (n : Int)
        · have c1 := own_cell HO1.out (by have := HZ.out; omega) j (by omega)
          have f1 := own_fr HO1.out j
          generalize z.getD j 0 = A at c1
          have hx := flip1 A
          generalize A ^^^ 1 = B at hx
          go_wp2_with fail
          go_roundw
          case rel => exact ⟨j + 1, z.set j B, by omega, by go_num, by show _ = _; rw [List.length_set]; exact HZ.out, own_put HO1.out j B, grown_cell HG.out j _⟩
          case measure => simp [intOf]; omega
        · have HO0 : Hid (Own (wr.alloc (.cells #[] 5)) w.heap.size (.slice (some ⟨wr.heap.size, 0, none⟩) 0 0) []) := own_empty wr _ HG.out.size
          have HR : Hid (Rd (wr.alloc (.cells #[] 5)) (some ⟨g, 0, none⟩) n z) := (Got.rd HO1.out (by have := HZ.out; omega)).below ((Below.refl _ _).alloc (Nat.le_refl _) _)
          have hgs := HG.out.size
          go_wp2_with (at_builtin; refine join _ rfl _ _ rfl w.heap.size (.slice (some ⟨wr.heap.size, 0, none⟩) 0 0) [] rfl HO0.out (some ⟨g, 0, none⟩) n c z rfl HR.out (fun h => by cases h) (by simp; omega) (by simp; omega) ?_
                       intro v1 w1 ho1 hg1
                       rw [List.nil_append] at ho1
                       have HOv := hide ho1
                       have HB1 : Hid (Below wr.heap.size wr w1) := ((Below.refl _ _).alloc (Nat.le_refl _) _).grown hg1 (by simp) (fun q e => by cases e; exact Nat.le_refl _)
                       clear ho1 hg1)
          go_ret
          have hfin : w.grownBy w1 (some g) := grown_new HG.out (below_grown HB1.out) (fun i e => by cases e)
          exact ⟨_, rfl, z, HZ.out, HOv.out, HO1.out.below HB1.out, hfin⟩
end Go.Proofs.Ytcchknpgkcmneaa.Lz
