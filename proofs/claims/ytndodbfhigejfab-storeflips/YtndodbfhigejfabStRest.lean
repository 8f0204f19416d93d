/-
  What stays of a published blob while others are read; a reading of all its bytes.
-/
import Derived.Test.YtndodbfhigejfabStFlip2
namespace Go.Proofs.Ytndodbfhigejfab.St
open Go.ChangeShapes Go.WideShapes Go.ChangeAt Go.RowKit Go.MuLone
open Go.Proofs.Ytndodbfhigejfab.Base
set_option linter.unusedVariables false
set_option maxHeartbeats 1000000
/-- A published blob. -/
structure Out (w0 wr : World) (b base : Nat) (v : Value) (fb : List (BitVec 8)) : Prop where
  bat : BAt wr b v 2 (-1) false
  own : Own wr base v fb
  bel : Below w0.heap.size w0 wr
theorem Out.kept {w0 wr w' : World} {b base : Nat} {v : Value} {fb : List (BitVec 8)} {p q : Option Nat} (h : Out w0 wr b base v fb) (k : Kept2 wr w' p q)
    (hp : ∀ i, p = some i → w0.heap.size ≤ i ∧ i ≠ b ∧ v.ownBlock ≠ some i) (hq : ∀ i, q = some i → w0.heap.size ≤ i ∧ i ≠ b ∧ v.ownBlock ≠ some i) : Out w0 w' b base v fb :=
  ⟨h.bat.kept k (fun e => (hp b e).2.1 rfl) (fun e => (hq b e).2.1 rfl), own_of_kept h.own k (fun i e e2 => (hp i e2).2.2 e) (fun i e e2 => (hq i e2).2.2 e), below_kept h.bel k (fun i e => (hp i e).1) (fun i e => (hq i e).1)⟩
theorem Store.kept' {w w' : World} {s bm n : Nat} {D : DataW Unit} {R B G : Int} {p q : Option Nat} (h : Store w s bm n D R B G) (k : Kept2 w w' p q) (hp : p ≠ some s ∧ p ≠ some bm) (hq : q ≠ some s ∧ q ≠ some bm) : Store w' s bm n D R B G :=
  ⟨h.at_.kept k hp.1 hq.1, MAt.kept h.map k hp.2 hq.2, h.ne⟩
theorem readOf_full (xs : List (BitVec 8)) (L : Nat) (h : xs.length = L) : readOf xs 0 (L : Int) = (xs, 0) := by
  unfold readOf
  rw [if_neg (by omega)]
  simp only [Int.toNat_zero, List.drop_zero, Int.toNat_natCast]
  rw [List.take_of_length_le (by omega)]
theorem metered_great (R B G : Int) (t : List (BitVec 8) × Int) (hG : 0 ≤ G) (hG2 : G ≤ 268435456) (ht : t.1.length ≤ 268435456) : 0 ≤ (metered R B G t).2.2 ∧ (metered R B G t).2.2 ≤ 268435456 := by
  unfold metered; split
  · show 0 ≤ max G _ ∧ max G _ ≤ _; omega
  · exact ⟨hG, hG2⟩
theorem readS_full (s bm n b base : Nat) (D : DataW Unit) (R B G : Int) (nm : ByteArray) (va : Option Addr) (L cap : Nat) (xs : List (BitVec 8)) (w : World) (hs : Store w s bm n D R B G) (hn : okName nm = true) (hsz : nm.size ≤ 140737488351232) (hd : D.atKey (key nm) .nil = .lit (.int .i64 (b : Int)))
    (hb : BAt w b (.slice va L cap) 2 (-1) false) (ho : Own w base (.slice va L cap) xs) (hov : ∀ i, (Value.slice va L cap).ownBlock = some i → i ≠ s) (hl : L ≤ 268435456) (hsb : s ≠ b) (hG : 0 ≤ G) (hG2 : G ≤ 268435456) :
    Calls Try.prog 30 #[.pointer (some ⟨s, 0, none⟩), .string nm, .int .i64 0, .int .i64 (L : Int)] w fun e w' => ∃ a c R' B' G', e = .returned (.tuple #[.slice a L c, .int .i64 0]) ∧ Own w' w.heap.size (.slice a L c) xs ∧ 0 ≤ G' ∧ G' ≤ 268435456 ∧ Store w' s bm n D R' B' G' ∧ Kept2 w w' (some s) none := by
  have hlen : xs.length = L := (Got.cap ho).2.symm
  have h := readS_any s bm n b base D R B G nm va L cap xs 0 (L : Int) w hs hn hsz hd hb ho hov hl hsb (by omega) hG hG2
  have hm := metered_great R B G (readOf xs 0 (L : Int)) hG hG2 (by rw [readOf_full xs L hlen]; show xs.length ≤ _; omega)
  rw [readOf_full xs L hlen] at h hm
  refine h.mono ?_
  rintro e w' ⟨v, rfl, ho', hs', k'⟩
  obtain ⟨a, c, rfl⟩ := ho'.shape
  simp only [hlen] at ho' ⊢
  exact ⟨a, c, _, _, _, rfl, ho', hm.1, hm.2, hs', k'⟩
theorem and_one8 (s : Nat) (h : s < 256) : bits .and .u8 (s : Int) 1 = ((s % 2 : Nat) : Int) := by
  have : (1 : Int) = ((1 : Nat) : Int) := rfl
  rw [this, u8_and_nat s 1 h (by omega)]
  congr 1
  exact Nat.and_one_is_mod s
theorem bit_cast8 (c : BitVec 8) (k : Nat) : ((c.toNat : Int) / 2 ^ k) = ((c.toNat / 2 ^ k : Nat) : Int) := by simp
theorem bit_num (c : BitVec 8) (k : Nat) : c.toNat / 2 ^ k % 2 = if c.getLsbD k then 1 else 0 := by
  rw [BitVec.getLsbD, Nat.testBit_eq_decide_div_mod_eq]
  by_cases h : c.toNat / 2 ^ k % 2 = 1
  · simp [h]
  · simp [h]; omega
/-- A bit as the walk reckons it. -/
theorem bit_walk (c : BitVec 8) (k : Nat) : ∃ S : Nat, (c.toNat : Int) / 2 ^ k = (S : Int) ∧ bits .and .u8 (S : Int) 1 = if c.getLsbD k then 1 else 0 := by
  refine ⟨c.toNat / 2 ^ k, bit_cast8 c k, ?_⟩
  rw [and_one8 _ (by have := Nat.div_le_self c.toNat (2 ^ k); have := lt8 c; omega), bit_num]
  split <;> rfl
end Go.Proofs.Ytndodbfhigejfab.St
