/-
  Bytes that pass a blob's stop.
-/
import Derived.Test.YtdcjhjpbkpiddaaStGen2
namespace Go.Proofs.Ytdcjhjpbkpiddaa.St
open Go.ChangeShapes Go.WideShapes Go.ChangeAt Go.RowKit Go.MuLone
open Go.Proofs.Ytdcjhjpbkpiddaa.Base
set_option linter.unusedVariables false
set_option maxHeartbeats 1000000
theorem BAt.halt {w : World} {b : Nat} {v : Value} {st sp : Int} {sd : Bool} (h : BAt w b v st sp sd) (x : Bool) : BAt (w.setCell ⟨b, 3, none⟩ (.bool x)) b v st sp x := by
  unfold BAt; rw [heap_setCell_same _ _ _ _ _ _ h]; rfl
theorem front (a : Option Addr) (len cap e : Nat) (bs : List (BitVec 8)) (w : World) (hr : Rd w a len bs) (he : e ≤ len) (hc : len ≤ cap) :
    (∀ W, (Instr.sliceAt 25 (.slice a len cap) none (some (.int .i64 (e : Int))) none).run Try.prog W = .ok (.slice a e cap) W) ∧ Rd w a e (bs.take e) := by
  refine ⟨fun W => ?_, hr.cut e he⟩
  rw [run_sliceAt_slice (h := el8), run_slice_h (ht := el8) (h0 := by omega) (h2 := by omega), sz8]
  simp only [Result.andThen, sliced, Int.toNat_natCast, Nat.sub_zero, Nat.zero_mul]
  have e1 : (if cap = 0 then a else a.map (·.add 0)) = a := by
    split
    · rfl
    · cases a <;> simp [Addr.add]
  rw [e1]
set_option maxRecDepth 100000 in
theorem write_beyond (b base c : Nat) (sp : Int) (va : Option Addr) (len cap : Nat) (xs : List (BitVec 8)) (ma : Option Addr) (ml mc : Nat) (bs : List (BitVec 8)) (w : World) (h : BAt w b (.slice va len cap) 1 sp false) (ho : Own w base (.slice va len cap) xs) (hov : ∀ i, (Value.slice va len cap).ownBlock = some i → i ≠ b) (hbase : base ≤ w.heap.size) (hbb : b < base) (hr : Rd w ma ml bs) (hrb : 0 < ml → ∀ ad, ma = some ad → ad.block ≠ b) (hnil : ma = none → ml = 0 ∧ mc = 0) (hmc : ml ≤ mc) (hl : len + ml ≤ 268435456)
    (hsp : 0 ≤ sp) (hsp2 : sp < (len : Int) + (ml : Int)) (hcc : (c : Int) = max (sp - (len : Int)) 0) :
    Calls Try.prog 25 #[.pointer (some ⟨b, 0, none⟩), .slice ma ml mc] w fun e w' => ∃ v, e = .returned (.int .i64 55) ∧ BAt w' b v 1 sp true ∧ Own w' base v (xs ++ bs.take c) ∧ Kept2 w w' (some b) (Value.slice va len cap).ownBlock ∧ Whr w (.slice va len cap) v := by
  obtain ⟨c0, c1, c2, c3⟩ := h.cells
  have HB := hide h
  have HR := hide hr
  have HO := hide ho
  have HXL : Hid (xs.length = len) := (Got.cap ho).2.symm
  have HC := hide (closed_open b _ sp w h)
  have HSZ := hide (fun n => size_any b va len cap 1 sp false (w.drewN n) (h.grown (below_grown (below_drewN' _ _ n)) (by simp)) (by omega))
  have hli : (ml : Int) ≤ 268435456 := by omega
  have hli0 : (len : Int) ≤ 268435456 := by omega
  have hli2 : ¬ 268435456 - (len : Int) < (ml : Int) := by omega
  have hq : (sp != -1) = true := by rw [bne_iff_ne]; omega
  have HOV := hide hov
  have HRB := hide hrb
  have hcm : c ≤ ml := by omega
  have hmx : max (sp - (len : Int)) 0 = (c : Int) := hcc.symm
  have hsu : sp ≤ 268435456 := by omega
  clear h hr ho hov hrb hcc
  go_enter Try.func25, Try.ntmps25
  go_wp2_with (go_at_call 38; refine HC.out.mono ?_; rintro e w' ⟨rfl, rfl⟩)
  go_quiet ((go_at_call 39; exact Calls.quiet_of_same (HSZ.out _)))
  obtain ⟨w2, hw2⟩ : ∃ w2, w'.drewN nq = w2 := ⟨_, rfl⟩
  have HB02 : Hid (Below w'.heap.size w' w2) := by rw [← hw2]; exact below_drewN' _ _ _
  have HSE : Hid (w2.heap.size = w'.heap.size) := by show _ = _; rw [← hw2]; rfl
  have HB2 := hide (HB.out.grown (below_grown HB02.out) (by simp))
  rw [hw2]
  obtain ⟨w3, hw3⟩ : ∃ w3, w2.setCell ⟨b, 3, none⟩ (.bool true) = w3 := ⟨_, rfl⟩
  have HG3 : Hid (w2.grownBy w3 (some b)) := by rw [← hw3]; exact grown_cell (World.grownBy.refl _ _) _ _
  have HB3 : Hid (BAt w3 b (.slice va len cap) 1 sp true) := by rw [← hw3]; exact HB2.out.halt true
  have HR3 := hide (rd_grown (HR.out.below HB02.out) HG3.out (fun h0 ad e e2 => HRB.out h0 ad e (Option.some.inj e2).symm))
  have HO3 := hide (keep (HO.out.below HB02.out) HG3.out (fun i j e e2 => by have h1 := HOV.out i e; have h2 := Option.some.inj e2; omega))
  have HSZ3 := hide (fun n => size_any b va len cap 1 sp true (w3.drewN n) (HB3.out.grown (below_grown (below_drewN' _ _ n)) (by simp)) (by omega))
  obtain ⟨hfr, _⟩ := front ma ml mc c bs w3 HR3.out hcm hmc
  obtain ⟨d0, d1, d2, d3⟩ := HB2.out.cells
  have fd := HB2.out.frozen 3
  obtain ⟨e0, e1, e2, e3⟩ := HB3.out.cells
  clear hw2 c0 c1 c2 c3 HC HSZ
  go_wp2_with fail
  go_quiet ((go_at_call 39; exact Calls.quiet_of_same (HSZ3.out _)))
  obtain ⟨w5, hw5⟩ : ∃ w5, w3.drewN nq = w5 := ⟨_, rfl⟩
  have HB35 : Hid (Below w3.heap.size w3 w5) := by rw [← hw5]; exact below_drewN' _ _ _
  have HSE5 : Hid (w5.heap.size = w3.heap.size) := by show _ = _; rw [← hw5]; rfl
  have HS23 : Hid (w2.heap.size ≤ w3.heap.size) := HG3.out.size
  have HB5 := hide (HB3.out.grown (below_grown HB35.out) (by simp))
  have HR5 := hide ((HR3.out.cut c hcm).below HB35.out)
  have HO5 := hide (HO3.out.below HB35.out)
  have hnil5 : ma = none → c = 0 ∧ mc = 0 := fun e => ⟨by have := (hnil e).1; omega, (hnil e).2⟩
  rw [hw5]
  obtain ⟨i0, i1, i2, i3⟩ := HB5.out.cells
  clear hw5 d0 d1 d2 d3 e0 e1 e2 e3 HSZ3 fd
  go_wp2_with (first
    | (at_builtin; refine join2 _ rfl _ _ rfl base (.slice va len cap) xs rfl HO5.out ma c mc (bs.take c) rfl HR5.out hnil5 (by have := HXL.out; omega) (by have := HSE.out; have := HSE5.out; have := HS23.out; omega) ?_
       intro v6 w6 ho6 hg6 hwh6
       obtain ⟨a6, k6, hv6⟩ := ho6.shape
       obtain ⟨N6, hN6⟩ : ∃ N, (xs ++ bs.take c).length = N := ⟨_, rfl⟩
       rw [hN6] at hv6
       subst hv6
       clear hN6
       have HO6 := hide ho6
       have HG6 := hide hg6
       have HWH6 := hide hwh6
       have HB6 := hide (HB5.out.grown hg6 (fun e => HOV.out _ e rfl))
       have HB7 := hide (HB6.out.data (.slice a6 N6 k6))
       have HC7 := hide (closed_any b _ _ _ _ _ HB7.out)
       obtain ⟨g0, g1, g2, g3⟩ := HB6.out.cells
       have gf := HB6.out.frozen 0
       clear ho6 hg6 hwh6 i0 i1 i2 i3)
    | (go_at_call 38; refine HC7.out.mono ?_; rintro e w8 ⟨rfl, rfl⟩))
  go_ret
  refine ⟨_, rfl, HB7.out, ?_, ?_, whr_from HWH6.out (by have := HSE.out; have := HSE5.out; have := HS23.out; omega)⟩
  · exact keep HO6.out (grown_cell (World.grownBy.refl _ _) _ _) (fun i j e e2 => by have h1 := (blk HO6.out i e).1; have h2 := Option.some.inj e2; omega)
  · exact kept2_trans (kept2_trans (kept2_trans (kept2_below HB02.out _ _) (kept2_grown HG3.out (.inl rfl))) (kept2_below HB35.out _ _)) (kept2_trans (kept2_grown HG6.out (.inr (.inl rfl))) (kept2_cell _ _ _ _ _))
end Go.Proofs.Ytdcjhjpbkpiddaa.St
