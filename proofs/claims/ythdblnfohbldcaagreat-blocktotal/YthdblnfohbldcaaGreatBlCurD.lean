/-
  A cursor whose bytes lie below a bound.
-/
import Derived.Test.YthdblnfohbldcaaGreatBlCur
import Derived.Test.YthdblnfohbldcaaGreatNcD
namespace Go.Proofs.YthdblnfohbldcaaGreat.Bl
open Go.ChangeShapes Go.WideShapes Go.ChangeAt Go.RowKit
open Go.Proofs.YthdblnfohbldcaaGreat.Base Go.Proofs.YthdblnfohbldcaaGreat.Nums Go.Proofs.YthdblnfohbldcaaGreat.Curs
open Go.Proofs.YthdblnfohbldcaaGreat.Fa (St Cst fixS fix_st)
set_option linter.unusedVariables false
set_option maxHeartbeats 1000000 in
set_option maxRecDepth 100000 in
theorem newC_any (a : Option Addr) (n c : Nat) (L : List (BitVec 8)) (w : World) (hr : Rd w a n L) (hn : n ≤ c) (hm : n ≤ 140737488355328) (hz : a = none → n = 0 ∧ c = 0) :
    Calls Tryz.prog 83 #[.slice a n c] w fun e w' => ∃ g, e = .returned (.pointer (some ⟨g, 0, none⟩)) ∧ w.heap.size ≤ g ∧ g < w'.heap.size ∧ CurD w' g w'.heap.size L 0 ∧ (∀ a n c p e, Row w' g (.slice (some a) n c) p e → w.heap.size ≤ a.block) ∧ Below w.heap.size w w' := by
  have R := hide hr
  have HL := hide hr.1
  clear hr
  obtain ⟨i0, hi, hz0, hz1, hz2⟩ := info_parts info8
  go_enter Tryz.func83, Tryz.ntmps83
  go_wp2_with (at_make; refine wpList_make_full _ rfl _ _ 24 rfl w.heap.size 5 i0 (.int .u8 0) 1 Tryz.underlying24 hi hz0 hz1 .i64 .i64 _ _ n rfl rfl (by omega) (by omega) (by rw [hz2]; omega) (by unfold maxLen; omega) (Nat.le_refl _) ?_
               intro w1 hown hgrow
               have HB1 : Hid (Below w.heap.size w w1) := (Below.refl _ _).grown hgrow (Nat.le_refl _) (by intro k h; cases h)
               have HO1 : Hid (Own w1 w.heap.size (.slice (some ⟨w.heap.size, 0, none⟩) n n) (List.replicate n (BitVec.ofNat 8 0))) := by
                 show Own _ _ _ _
                 unfold Own
                 rw [List.length_replicate, ← vals_replicate]
                 exact hown
               obtain ⟨w2, hcopy, HO2, HB2, _⟩ := copy_from (sLen := n) (cap := c) HO1.out (R.out.below HB1.out) (Nat.le_refl _) HB1.out (by unfold maxLen; omega)
               clear hown hgrow)
  go_ret
  have hlt := HO2.out.lt'
  refine ⟨w2.heap.size, rfl, HB2.out.size, by simp, ⟨⟨w.heap.size, 0, none⟩, n, ?_, ?_, by rw [HL.out]; omega, by omega, rfl, ?_, ?_, Nat.le_refl _, ?_⟩, ?_, HB2.out.alloc HB2.out.size _⟩
  · rw [HL.out]; exact heap_alloc_new _ _
  · rw [HL.out]
    exact (HO2.out.below ((Below.refl _ _).alloc (Nat.le_refl _) _)).rd (by rw [HL.out]; exact hm)
  · show w.heap.size ≠ w2.heap.size; omega
  · show w.heap.size < _; simp; omega
  · rw [HL.out]; omega
  · intro a n' c' p e hrow
    have h1 : Row (w2.alloc (.cells #[.slice (some ⟨w.heap.size, 0, none⟩) n n, .int .i64 0, .int .i64 0] 179)) w2.heap.size (.slice (some ⟨w.heap.size, 0, none⟩) n n) 0 0 := heap_alloc_new _ _
    have h2 := h1.c0.symm.trans hrow.c0
    simp only [Option.some.injEq, Value.slice.injEq] at h2
    rw [← h2.1]; exact Nat.le_refl _
def CstD (w : World) (g D : Nat) : St → Prop
  | some L => ∃ p, CurD w g D L p
  | none => ∃ (p er : Int), Row w g (.slice none 0 0) p er ∧ er ≠ 0
theorem CstD.cst {w : World} {g D : Nat} {s : St} (h : CstD w g D s) : Cst w g s := by
  cases s with
  | none => exact h
  | some L => obtain ⟨p, hp⟩ := h; exact ⟨p, hp.cur⟩
theorem fixD_any (g D : Nat) (s : St) (k : Int) (w : World) (h : CstD w g D s) :
    Calls Tryz.prog 84 #[.pointer (some ⟨g, 0, none⟩), .int .i64 k] w fun e w' => e = .returned (.int .u64 ((fixS s k).1 : Nat)) ∧ w.grownBy w' (some g) ∧ CstD w' g D (fixS s k).2 := by
  cases s with
  | none =>
    obtain ⟨p, er, hr, he⟩ := h
    refine (fixed_dead g _ p er k w hr he).mono ?_
    rintro e w' ⟨rfl, hb⟩
    exact ⟨rfl, grown_any (below_grown hb) _, ⟨p, er, hr.grown (below_grown hb) (by simp), he⟩⟩
  | some L =>
    obtain ⟨p, hc⟩ := h
    refine (fixed_d g D p L k w hc).mono ?_
    rintro e w' ⟨rfl, hg, hif⟩
    unfold fixS
    simp only
    by_cases h0 : (fixAt L k).2.2 = 0
    · rw [if_pos h0] at hif ⊢
      exact ⟨rfl, hg, ⟨_, hif⟩⟩
    · rw [if_neg h0] at hif ⊢
      exact ⟨by rw [Fa.fixAt_zero L k h0], hg, ⟨_, _, hif.1, by have := hif.2; omega⟩⟩
theorem CstD.keep {w w' : World} {g D : Nat} {o : Option Nat} {s : St} (h : CstD w g D s) (hg : w.grownBy w' o) (hne : o ≠ some g)
    (hk : ∀ b, o = some b → D ≤ b ∨ ∀ i (c : BitVec 8), w.cell? ⟨b, i, none⟩ = some (.int .u8 (c.toNat : Int)) → False) : CstD w' g D s := by
  cases s with
  | none =>
    obtain ⟨p, er, hr, he⟩ := h
    exact ⟨p, er, hr.grown hg hne, he⟩
  | some L =>
    obtain ⟨p, a, c, hrow, hrd, h1, h2, h3, h4, h5, h6, h7⟩ := h
    refine ⟨p, a, c, hrow.grown hg hne, ?_, h1, h2, h3, h4, h5, Nat.le_trans h6 hg.size, h7⟩
    by_cases h0 : L.length = 0
    · have : L = [] := List.length_eq_zero_iff.1 h0
      subst this
      exact rd_zero _ _
    · refine hrd.grown hg (fun ad e e2 => ?_)
      obtain ⟨b1, off, e3, hlt, hc⟩ := hrd.2.2 (by omega)
      cases e
      cases e3
      rcases hk _ e2 with h8 | h8
      · exact absurd h5 (by show ¬ b1 < D; omega)
      · exact h8 _ _ (hc 0 (by omega))
theorem fixS_lt (s : St) : (fixS s 4).1 < 4294967296 := by
  cases s with
  | none => exact (by decide : (0 : Nat) < 4294967296)
  | some L =>
    unfold fixS
    simp only
    split
    · unfold fixAt
      split
      · exact (by decide : (0 : Nat) < 4294967296)
      · split
        · exact (by decide : (0 : Nat) < 4294967296)
        · show word (L.take (4 : Int).toNat) < _
          unfold word
          have h1 := wordFrom_lt ((L.take (4 : Int).toNat).take 8) 0
          have h2 : ((L.take (4 : Int).toNat).take 8).length ≤ 4 := by rw [List.length_take, List.length_take]; omega
          have h3 : 256 ^ (0 + ((L.take (4 : Int).toNat).take 8).length) ≤ 256 ^ 4 := Nat.pow_le_pow_right (by omega) (by omega)
          omega
    · exact (by decide : (0 : Nat) < 4294967296)
end Go.Proofs.YthdblnfohbldcaaGreat.Bl
