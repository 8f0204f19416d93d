/-
  What the program's running sums do.
-/
import Derived.Test.YtpoholpedkikhabCrcWorks
namespace Go.Proofs.Ytpoholpedkikhab.Crc
open Go.ChangeShapes Go.WideShapes Go.ChangeAt Go.RowKit
/-- A running sum in block g: the sum so far, how many bytes there were. -/
def Runs (w : World) (g : Nat) (S : BitVec 32) (n : Nat) : Prop := w.heap[g]? = some (.cells #[.int .u32 (S.toNat : Int), .int .i64 (n : Int)] 69)
theorem Runs.c0 {w : World} {g n : Nat} {S : BitVec 32} (h : Runs w g S n) : w.cell? ⟨g, 0, none⟩ = some (.int .u32 (S.toNat : Int)) := by
  rw [cell_of_row _ _ _ _ _ _ h]; rfl
theorem Runs.c1 {w : World} {g n : Nat} {S : BitVec 32} (h : Runs w g S n) : w.cell? ⟨g, 1, none⟩ = some (.int .i64 (n : Int)) := by
  rw [cell_of_row _ _ _ _ _ _ h]; rfl
theorem new_any (w : World) : Calls Try.prog 24 #[] w fun e w' => ∃ g, e = .returned (.pointer (some ⟨g, 0, none⟩)) ∧ g = w.heap.size ∧ Runs w' g (BitVec.ofNat 32 0) 0 ∧ Below w.heap.size w w' := by
  go_enter Try.func24, Try.ntmps24
  go_wp2
  go_ret
  exact ⟨w.heap.size, rfl, rfl, heap_alloc_new _ _, (Below.refl _ _).alloc (Nat.le_refl _) _⟩
theorem rsum_any (g n : Nat) (S : BitVec 32) (w : World) (h : Runs w g S n) : Calls Try.prog 29 #[.pointer (some ⟨g, 0, none⟩)] w fun e w' => e = .returned (.int .u32 (S.toNat : Int)) ∧ w' = w := by
  have c0 := h.c0
  clear h
  go_enter Try.func29, Try.ntmps29
  go_wp2
  go_ret
  exact ⟨rfl, rfl⟩
theorem rlen_any (g n : Nat) (S : BitVec 32) (w : World) (h : Runs w g S n) : Calls Try.prog 30 #[.pointer (some ⟨g, 0, none⟩)] w fun e w' => e = .returned (.int .i64 (n : Int)) ∧ w' = w := by
  have c1 := h.c1
  clear h
  go_enter Try.func30, Try.ntmps30
  go_wp2
  go_ret
  exact ⟨rfl, rfl⟩
theorem Runs.lt {w : World} {g n : Nat} {S : BitVec 32} (h : Runs w g S n) : g < w.heap.size := block_lt_of_cell h.c0
theorem Runs.below {w w' : World} {g n : Nat} {S : BitVec 32} (h : Runs w g S n) (hb : Below w.heap.size w w') : Runs w' g S n := by
  unfold Runs
  rw [hb.block g h.lt]; exact h
theorem Runs.put {w : World} {g n m : Nat} {S T : BitVec 32} (h : Runs w g S n) : Runs ((w.setCell ⟨g, 0, none⟩ (.int .u32 (T.toNat : Int))).setCell ⟨g, 1, none⟩ (.int .i64 (m : Int))) g T m :=
  heap_setCell_same _ _ _ _ _ _ (heap_setCell_same _ _ _ _ _ _ h)
theorem grown_cell {w0 w : World} {g : Nat} (h : w0.grownBy w (some g)) (k : Nat) (v : Value) : w0.grownBy (w.setCell ⟨g, k, none⟩ v) (some g) :=
  ⟨h.os, h.tape, h.output, by simp [World.setCell]; exact h.size, fun i hi hne => by
    rw [Below.heap_setCell _ _ _ _ (fun e => hne (by rw [e]))]; exact h.block i hi hne⟩
theorem grown_of_below {w w' : World} {r : Option Nat} (hb : Below w.heap.size w w') : w.grownBy w' r := ⟨hb.os, hb.tape, hb.output, hb.size, fun k hk _ => hb.block k hk⟩
set_option maxHeartbeats 1000000 in
set_option maxRecDepth 100000 in
theorem write_any (g n : Nat) (S : BitVec 32) (a : Option Addr) (len cap : Nat) (bs : List (BitVec 8)) (w : World) (h : Runs w g S n) (hr : Rd w a len bs) (hm : n + len ≤ 9223372036854775807) :
    Calls Try.prog 25 #[.pointer (some ⟨g, 0, none⟩), .slice a len cap] w fun e w' => e = .returned (.tuple #[]) ∧ Runs w' g (extend S bs) (n + len) ∧ w.grownBy w' (some g) := by
  have c0 := h.c0
  have H := hide h
  have R := hide hr
  clear h hr
  go_enter Try.func25, Try.ntmps25
  go_wp2_with fail
  refine (extend_any _ _ _ _ _ _ R.out).mono ?_
  rintro e w1 ⟨rfl, hb⟩
  have H1 := hide (H.out.below hb)
  have d0 := H1.out.c0
  have d1 := H1.out.c1
  have f0 : w1.frozen? ⟨g, 0, none⟩ = false := frozen_of_row _ _ _ _ _ H1.out
  have f1 : w1.frozen? ⟨g, 1, none⟩ = false := frozen_of_row _ _ _ _ _ H1.out
  have HB := hide hb
  clear hb c0
  generalize hX : extend S bs = X
  have HX := hide hX
  clear hX
  go_wp2_with fail
  go_end0
  refine ⟨rfl, ?_, grown_cell (grown_cell (grown_of_below HB.out) 0 _) 1 _⟩
  rw [HX.out]
  have hp := H1.out.put (T := X) (m := n + len)
  rw [Int.natCast_add] at hp
  exact hp
end Go.Proofs.Ytpoholpedkikhab.Crc
