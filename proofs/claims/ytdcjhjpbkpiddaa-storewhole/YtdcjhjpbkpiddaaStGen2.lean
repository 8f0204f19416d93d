/-
  More bytes for a blob that has some.
-/
import Derived.Test.YtdcjhjpbkpiddaaStGen
namespace Go.Proofs.Ytdcjhjpbkpiddaa.St
open Go.ChangeShapes Go.WideShapes Go.ChangeAt Go.RowKit Go.MuLone
open Go.Proofs.Ytdcjhjpbkpiddaa.Base
set_option linter.unusedVariables false
set_option maxHeartbeats 1000000
theorem write_closed (b : Nat) (v more : Value) (st sp : Int) (sd : Bool) (w : World) (h : BAt w b v st sp sd) (hc : closedOf st sd ≠ 0) :
    Calls Try.prog 25 #[.pointer (some ⟨b, 0, none⟩), more] w fun e w' => e = .returned (.int .i64 (closedOf st sd)) ∧ w' = w := by
  have HC := hide (closed_any b v st sp sd w h)
  obtain ⟨r, hr⟩ : ∃ r, closedOf st sd = r := ⟨_, rfl⟩
  rw [hr] at HC hc ⊢
  have hq : (r != 0) = true := by rw [bne_iff_ne]; exact hc
  clear h hr hc
  go_enter Try.func25, Try.ntmps25
  go_wp2_with (go_at_call 38; refine HC.out.mono ?_; rintro e w' ⟨rfl, rfl⟩)
  go_ret
  exact ⟨rfl, rfl⟩
/-- Where a slice comes to lie to which something was appended: where it lay, or in memory that is new. -/
def Whr (w : World) (v v' : Value) : Prop := v'.ownBlock = v.ownBlock ∨ ∃ g, v'.ownBlock = some g ∧ w.heap.size ≤ g
theorem whr_from {w w2 : World} {v v' : Value} (h : v'.ownBlock = v.ownBlock ∨ ∃ g, v'.ownBlock = some g ∧ w2.heap.size ≤ g) (hs : w.heap.size ≤ w2.heap.size) : Whr w v v' := by
  rcases h with h | ⟨g, h1, h2⟩
  · exact .inl h
  · exact .inr ⟨g, h1, Nat.le_trans hs h2⟩
theorem Whr.from {w w2 : World} {v v' : Value} (h : Whr w2 v v') (hs : w.heap.size ≤ w2.heap.size) : Whr w v v' := whr_from h hs
set_option maxRecDepth 100000 in
/-- Bytes are written to an open blob, and its stop, if any, is not passed. -/
theorem write_more (b base : Nat) (sp : Int) (va : Option Addr) (len cap : Nat) (xs : List (BitVec 8)) (ma : Option Addr) (ml mc : Nat) (bs : List (BitVec 8)) (w : World) (h : BAt w b (.slice va len cap) 1 sp false) (ho : Own w base (.slice va len cap) xs) (hov : ∀ i, (Value.slice va len cap).ownBlock = some i → i ≠ b) (hbase : base ≤ w.heap.size) (hbb : b < base) (hr : Rd w ma ml bs) (hnil : ma = none → ml = 0 ∧ mc = 0) (hl : len + ml ≤ 268435456)
    (hsp : sp = -1 ∨ (sp ≠ -1 ∧ (len : Int) + (ml : Int) ≤ sp)) :
    Calls Try.prog 25 #[.pointer (some ⟨b, 0, none⟩), .slice ma ml mc] w fun e w' => ∃ v, e = .returned (.int .i64 0) ∧ BAt w' b v 1 sp false ∧ Own w' base v (xs ++ bs) ∧ Kept2 w w' (some b) (Value.slice va len cap).ownBlock ∧ Whr w (.slice va len cap) v := by
  obtain ⟨c0, c1, c2, c3⟩ := h.cells
  have HB := hide h
  have HR := hide hr
  have HO := hide ho
  have HXL : Hid (xs.length = len) := (Got.cap ho).2.symm
  have HC := hide (closed_open b _ sp w h)
  have HSZ := hide (fun n => size_any b va len cap 1 sp false (w.drewN n) (h.grown (below_grown (below_drewN' _ _ n)) (by simp)) (by omega))
  have hli : (ml : Int) ≤ 268435456 := by omega
  have hli0 : (len : Int) ≤ 268435456 := by omega
  have hli2 : ¬ 268435456 - (len : Int) < (ml : Int) := by omega
  have HOV := hide hov
  clear h hr ho hov
  rcases hsp with rfl | ⟨hsp1, hsp2⟩
  · skip
    go_enter Try.func25, Try.ntmps25
    go_wp2_with (go_at_call 38; refine HC.out.mono ?_; rintro e w' ⟨rfl, rfl⟩)
    go_quiet ((go_at_call 39; exact Calls.quiet_of_same (HSZ.out _)))
    obtain ⟨w2, hw2⟩ : ∃ w2, w'.drewN nq = w2 := ⟨_, rfl⟩
    have HB02 : Hid (Below w'.heap.size w' w2) := by rw [← hw2]; exact below_drewN' _ _ _
    have HSE : Hid (w2.heap.size = w'.heap.size) := by show _ = _; rw [← hw2]; rfl
    have HB2 := hide (HB.out.grown (below_grown HB02.out) (by simp))
    have HR2 := hide (HR.out.below HB02.out)
    have HO2 := hide (HO.out.below HB02.out)
    obtain ⟨e0, e1, e2, e3⟩ := HB2.out.cells
    rw [hw2]
    clear hw2 c0 c1 c2 c3 HC HSZ
    go_wp2_with (first
      | (at_builtin; refine join2 _ rfl _ _ rfl base (.slice va len cap) xs rfl HO2.out ma ml mc bs rfl HR2.out hnil (by have := HXL.out; omega) (by have := HSE.out; omega) ?_
         intro v3 w3 ho3 hg3 hwh3
         obtain ⟨a3, k3, hv3⟩ := ho3.shape
         obtain ⟨N3, hN3⟩ : ∃ N, (xs ++ bs).length = N := ⟨_, rfl⟩
         rw [hN3] at hv3
         subst hv3
         clear hN3
         have HO3 := hide ho3
         have HG3 := hide hg3
         have HWH3 := hide hwh3
         have HB3 := hide (HB2.out.grown hg3 (fun e => HOV.out _ e rfl))
         have HB4 := hide (HB3.out.data (.slice a3 N3 k3))
         have HC4 := hide (closed_open b _ _ _ HB4.out)
         obtain ⟨g0, g1, g2, g3⟩ := HB3.out.cells
         have gf := HB3.out.frozen 0
         clear ho3 hg3 hwh3 e0 e1 e2 e3)
      | (go_at_call 38; refine HC4.out.mono ?_; rintro e w4 ⟨rfl, rfl⟩))
    go_ret
    refine ⟨_, rfl, HB4.out, ?_, ?_, whr_from HWH3.out (Nat.le_of_eq HSE.out.symm)⟩
    · exact keep HO3.out (grown_cell (World.grownBy.refl _ _) _ _) (fun i j e e2 => by have h1 := (blk HO3.out i e).1; have h2 := Option.some.inj e2; omega)
    · exact kept2_trans (kept2_trans (kept2_below HB02.out _ _) (kept2_grown HG3.out (.inr (.inl rfl)))) (kept2_cell _ _ _ _ _)
  · have hq : (sp != -1) = true := by rw [bne_iff_ne]; exact hsp1
    have hsp3 : ¬ sp < (len : Int) + (ml : Int) := by omega
    clear hsp1
    go_enter Try.func25, Try.ntmps25
    go_wp2_with (go_at_call 38; refine HC.out.mono ?_; rintro e w' ⟨rfl, rfl⟩)
    go_quiet ((go_at_call 39; exact Calls.quiet_of_same (HSZ.out _)))
    obtain ⟨w2, hw2⟩ : ∃ w2, w'.drewN nq = w2 := ⟨_, rfl⟩
    have HB02 : Hid (Below w'.heap.size w' w2) := by rw [← hw2]; exact below_drewN' _ _ _
    have HSE : Hid (w2.heap.size = w'.heap.size) := by show _ = _; rw [← hw2]; rfl
    have HB2 := hide (HB.out.grown (below_grown HB02.out) (by simp))
    have HR2 := hide (HR.out.below HB02.out)
    have HO2 := hide (HO.out.below HB02.out)
    obtain ⟨e0, e1, e2, e3⟩ := HB2.out.cells
    rw [hw2]
    clear hw2 c0 c1 c2 c3 HC HSZ
    go_wp2_with (first
      | (at_builtin; refine join2 _ rfl _ _ rfl base (.slice va len cap) xs rfl HO2.out ma ml mc bs rfl HR2.out hnil (by have := HXL.out; omega) (by have := HSE.out; omega) ?_
         intro v3 w3 ho3 hg3 hwh3
         obtain ⟨a3, k3, hv3⟩ := ho3.shape
         obtain ⟨N3, hN3⟩ : ∃ N, (xs ++ bs).length = N := ⟨_, rfl⟩
         rw [hN3] at hv3
         subst hv3
         clear hN3
         have HO3 := hide ho3
         have HG3 := hide hg3
         have HWH3 := hide hwh3
         have HB3 := hide (HB2.out.grown hg3 (fun e => HOV.out _ e rfl))
         have HB4 := hide (HB3.out.data (.slice a3 N3 k3))
         have HC4 := hide (closed_open b _ _ _ HB4.out)
         obtain ⟨g0, g1, g2, g3⟩ := HB3.out.cells
         have gf := HB3.out.frozen 0
         clear ho3 hg3 hwh3 e0 e1 e2 e3)
      | (go_at_call 38; refine HC4.out.mono ?_; rintro e w4 ⟨rfl, rfl⟩))
    go_ret
    refine ⟨_, rfl, HB4.out, ?_, ?_, whr_from HWH3.out (Nat.le_of_eq HSE.out.symm)⟩
    · exact keep HO3.out (grown_cell (World.grownBy.refl _ _) _ _) (fun i j e e2 => by have h1 := (blk HO3.out i e).1; have h2 := Option.some.inj e2; omega)
    · exact kept2_trans (kept2_trans (kept2_below HB02.out _ _) (kept2_grown HG3.out (.inr (.inl rfl)))) (kept2_cell _ _ _ _ _)
end Go.Proofs.Ytdcjhjpbkpiddaa.St
