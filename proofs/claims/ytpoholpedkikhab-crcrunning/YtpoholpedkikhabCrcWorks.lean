/-
  The statements' own example: a tile is made and opened, and the nine digits have their sum.
-/
import Derived.Test.YtpoholpedkikhabCrcSeal
import Derived.Lib.SlBytesConst
namespace Go.Proofs.Ytpoholpedkikhab.Crc
open Go.ChangeShapes Go.WideShapes Go.ChangeAt Go.RowKit
def abc : List (BitVec 8) := [BitVec.ofNat 8 1, BitVec.ofNat 8 2, BitVec.ofNat 8 3]
def nine : List (BitVec 8) := [BitVec.ofNat 8 49, BitVec.ofNat 8 50, BitVec.ofNat 8 51, BitVec.ofNat 8 52, BitVec.ofNat 8 53, BitVec.ofNat 8 54, BitVec.ofNat 8 55, BitVec.ofNat 8 56, BitVec.ofNat 8 57]
theorem sum_nine : sum nine = BitVec.ofNat 32 3808858755 := by decide +kernel
theorem rd_new (w : World) (bs : List (BitVec 8)) (fr : Nat × Nat) (h : bs.length ≤ 140737488355328) : Rd (w.alloc (.cells (vals bs).toArray 5 fr)) (some ⟨w.heap.size, 0, none⟩) bs.length bs := by
  refine ⟨rfl, h, fun _ => ⟨w.heap.size, 0, rfl, by simp, fun i hi => ?_⟩⟩
  rw [World.cell?_alloc_mark, Nat.zero_add]
  simpa using getD_vals bs i hi
theorem Got.rd {w : World} {base n cap : Nat} {a : Option Addr} {bs : List (BitVec 8)} (h : Own w base (.slice a n cap) bs) (hl : bs.length ≤ 140737488355328) : Rd w a n bs := by
  rcases h.2 with ⟨h1, h2⟩ | ⟨g, cap', cur, h1, _⟩
  · simp only [Value.slice.injEq] at h1
    obtain ⟨rfl, rfl, rfl⟩ := h1
    have : bs = [] := List.length_eq_zero_iff.1 h2
    subst this
    exact rd_nil _
  · simp only [Value.slice.injEq] at h1
    obtain ⟨rfl, h2, rfl⟩ := h1
    exact Own.rd h hl
theorem Got.nil {w : World} {base n cap : Nat} {a : Option Addr} {bs : List (BitVec 8)} (h : Own w base (.slice a n cap) bs) (ha : a = none) : n = 0 ∧ cap = 0 := by
  subst ha
  rcases h.2 with ⟨h1, h2⟩ | ⟨g, cap', cur, h1, _⟩
  · simp only [Value.slice.injEq, true_and] at h1
    exact h1
  · simp at h1
theorem Got.cap {w : World} {base n cap : Nat} {a : Option Addr} {bs : List (BitVec 8)} (h : Own w base (.slice a n cap) bs) : n ≤ cap ∧ n = bs.length := by
  rcases h.2 with ⟨h1, h2⟩ | ⟨g, cap', cur, h1, _, _, h3, _⟩
  · simp only [Value.slice.injEq] at h1
    omega
  · simp only [Value.slice.injEq] at h1
    omega
set_option maxHeartbeats 1000000 in
set_option maxRecDepth 100000 in
theorem works_any (w : World) : Calls Try.prog 28 #[] w fun e w' => e = .returned (.bool true) ∧ Below w.heap.size w w' := by
  have kc := fun (w : World) (C : Array Value) (n c : Nat) => Lib.run_convert_bytes_const (P := Try.prog) w 25 5 C n c Try.underlying25 Try.underlying5
  go_enter Try.func28, Try.ntmps28
  go_wp2_with fail
  have HB0 : Hid (Below w.heap.size w (w.alloc (.cells (vals abc).toArray 5))) := (Below.refl _ _).alloc (Nat.le_refl _) _
  refine (seal_any _ _ _ _ _ (rd_new w abc (0, 0) (by decide)) (by intro h; cases h) (by decide)).mono ?_
  rintro e w1 ⟨g, rfl, hg, ho, hb1⟩
  have HO1 := hide ho
  have HB1 := hide (below_trans HB0.out hb1)
  clear ho hb1 HB0
  go_wp2_with fail
  refine (open_any _ _ _ _ _ (HO1.out.rd (by decide +kernel)) (by omega) (by decide)).mono ?_
  rintro e w2 ⟨v, rfl, ⟨av, nv, cv, rfl, hnv, ho2⟩, hb2⟩
  have HO2 := hide ho2
  have HB2 := hide (below_trans HB1.out hb2)
  rw [openErr_tile]
  rw [openBody_tile] at hnv HO2
  have hnv3 : nv = 3 := hnv
  subst hnv3
  clear ho2 hb2 HB1 HO1 hnv
  go_wp2_with fail
  have q1 : decide (abc = abc) = true := by decide
  have q2 : (((sum nine).toNat : Int) == 3808858755) = true := by rw [sum_nine]; decide
  have hb3 : Below w2.heap.size w2 (w2.alloc (.cells (vals abc).toArray 5)) := (Below.refl _ _).alloc (Nat.le_refl _) _
  have HB3 := hide (below_trans HB2.out hb3)
  have HO3 := hide (HO2.out.below hb3)
  clear hb3 HB2 HO2
  refine (same_any _ _ _ _ _ _ _ _ _ (Got.rd HO3.out (by decide)) (rd_new w2 abc (0, 0) (by decide))).mono ?_
  rintro e w3 ⟨rfl, hb4⟩
  have HB4 := hide (below_trans HB3.out hb4)
  clear hb4 HB3 HO3
  go_wp2_with fail
  have hb5 : Below w3.heap.size w3 (w3.alloc (.cells (vals nine).toArray 5 (9, 10))) := (Below.refl _ _).alloc (Nat.le_refl _) _
  have HB5 := hide (below_trans HB4.out hb5)
  clear hb5 HB4
  refine (sum_any _ _ _ _ _ (rd_new w3 nine (9, 10) (by decide))).mono ?_
  rintro e w4 ⟨rfl, hb6⟩
  have HB6 := hide (below_trans HB5.out hb6)
  clear hb6 HB5
  go_wp2_with fail
  go_ret
  exact ⟨rfl, HB6.out⟩
end Go.Proofs.Ytpoholpedkikhab.Crc
