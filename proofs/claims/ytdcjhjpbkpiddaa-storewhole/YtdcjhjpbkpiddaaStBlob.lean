/-
  Blobs: their size, whether they are closed, writing, publishing, reading.
-/
import Derived.Test.YtdcjhjpbkpiddaaStBase
import Derived.Test.YtdcjhjpbkpiddaaCut
import Derived.Lib.SliceRun
namespace Go.Proofs.Ytdcjhjpbkpiddaa.St
open Go.ChangeShapes Go.WideShapes Go.ChangeAt Go.RowKit
open Go.Proofs.Ytdcjhjpbkpiddaa.Base
set_option linter.unusedVariables false
set_option maxHeartbeats 1000000
theorem size_any (b : Nat) (a : Option Addr) (len cap : Nat) (st sp : Int) (sd : Bool) (w : World) (h : BAt w b (.slice a len cap) st sp sd) (hl : len ≤ 140737488355328) :
    Calls Try.prog 39 #[.pointer (some ⟨b, 0, none⟩)] w fun e w' => e = .returned (.int .i64 (len : Int)) ∧ w' = w := by
  obtain ⟨c0, c1, c2, c3⟩ := h.cells
  have hli : (len : Int) ≤ 140737488355328 := by omega
  go_enter Try.func39, Try.ntmps39
  go_wp2_with fail
  go_ret
  exact ⟨rfl, rfl⟩
theorem closed_open (b : Nat) (v : Value) (sp : Int) (w : World) (h : BAt w b v 1 sp false) :
    Calls Try.prog 38 #[.pointer (some ⟨b, 0, none⟩)] w fun e w' => e = .returned (.int .i64 0) ∧ w' = w := by
  obtain ⟨c0, c1, c2, c3⟩ := h.cells
  go_enter Try.func38, Try.ntmps38
  go_wp2_with fail
  go_ret
  exact ⟨rfl, rfl⟩
theorem below_grown' {w w1 w2 : World} {q : Option Nat} (h : Below w.heap.size w w1) (g : w1.grownBy w2 none) : w.grownBy w2 q := by
  have h1 : w.grownBy w1 none := below_grown h
  exact grown_any (grown_trans h1 g) q
set_option maxRecDepth 100000 in
/-- Bytes are written to an open blob without a stop that has none. -/
theorem write_new (b : Nat) (ma : Option Addr) (ml mc : Nat) (bs : List (BitVec 8)) (w : World) (h : BAt w b (.slice none 0 0) 1 (-1) false) (hr : Rd w ma ml bs) (hnil : ma = none → ml = 0 ∧ mc = 0) (hl : ml ≤ 268435456) :
    Calls Try.prog 25 #[.pointer (some ⟨b, 0, none⟩), .slice ma ml mc] w fun e w' => ∃ v, e = .returned (.int .i64 0) ∧ BAt w' b v 1 (-1) false ∧ Own w' w.heap.size v bs ∧ w.grownBy w' (some b) := by
  obtain ⟨c0, c1, c2, c3⟩ := h.cells
  have HB := hide h
  have HR := hide hr
  have HC := hide (closed_open b _ (-1) w h)
  have HSZ := hide (size_any b none 0 0 1 (-1) false w h (by omega))
  have hli : (ml : Int) ≤ 268435456 := by omega
  have hli2 : ¬ 268435456 < (ml : Int) := by omega
  have hbl := h.lt
  clear h hr
  go_enter Try.func25, Try.ntmps25
  go_wp2_with (go_at_call 38; refine HC.out.mono ?_; rintro e w' ⟨rfl, rfl⟩)
  go_quiet ((go_at_call 39; exact Calls.quiet_of_same HSZ.out))
  obtain ⟨w2, hw2⟩ : ∃ w2, w'.drewN nq = w2 := ⟨_, rfl⟩
  have HB02 : Hid (Below w'.heap.size w' w2) := by rw [← hw2]; exact below_drewN' _ _ _
  have HSE : Hid (w2.heap.size = w'.heap.size) := by show _ = _; rw [← hw2]; rfl
  have HB2 := hide (HB.out.grown (below_grown HB02.out) (by simp))
  have HR2 := hide (HR.out.below HB02.out)
  obtain ⟨e0, e1, e2, e3⟩ := HB2.out.cells
  rw [hw2]
  clear hw2 c0 c1 c2 c3 HC HSZ
  go_wp2_with (first
    | (at_builtin; refine join _ rfl _ _ rfl w2.heap.size (.slice none 0 0) [] rfl (own_none _ _) ma ml mc bs rfl HR2.out hnil (by simp; omega) (Nat.le_refl _) ?_
       intro v3 w3 ho3 hg3
       rw [List.nil_append] at ho3
       obtain ⟨a3, k3, rfl⟩ := ho3.shape
       have HO3 := hide ho3
       have HG3 : Hid (w2.grownBy w3 none) := hg3
       have HB3 := hide (HB2.out.grown hg3 (by simp [Value.ownBlock]))
       have HB4 := hide (HB3.out.data (.slice a3 bs.length k3))
       have HC4 := hide (closed_open b _ (-1) _ HB4.out)
       obtain ⟨g0, g1, g2, g3⟩ := HB3.out.cells
       have gf := HB3.out.frozen 0
       clear ho3 hg3 e0 e1 e2 e3)
    | (go_at_call 38; refine HC4.out.mono ?_; rintro e w4 ⟨rfl, rfl⟩))
  go_ret
  refine ⟨_, rfl, HB4.out, ?_, grown_cell (below_grown' HB02.out HG3.out) _ _⟩
  rw [← HSE.out]
  exact keep HO3.out (grown_cell (World.grownBy.refl _ _) _ _) (fun i j e e2 => by have h1 := (blk HO3.out i e).1; have h2 := Option.some.inj e2; have h3 := HSE.out; omega)
theorem publish_any (b : Nat) (v : Value) (w : World) (h : BAt w b v 1 (-1) false) :
    Calls Try.prog 26 #[.pointer (some ⟨b, 0, none⟩)] w fun e w' => e = .returned (.int .i64 0) ∧ w' = w.setCell ⟨b, 1, none⟩ (.int .i64 2) := by
  obtain ⟨c0, c1, c2, c3⟩ := h.cells
  have HC := hide (closed_open b _ (-1) w h)
  have f1 := h.frozen 1
  go_enter Try.func26, Try.ntmps26
  go_wp2_with (go_at_call 38; refine HC.out.mono ?_; rintro e w' ⟨rfl, rfl⟩)
  go_ret
  exact ⟨rfl, rfl⟩
theorem cloneB_any (a : Option Addr) (len cap : Nat) (bs : List (BitVec 8)) (w : World) (hr : Rd w a len bs) (hnil : a = none → len = 0 ∧ cap = 0) :
    Calls Try.prog 40 #[.slice a len cap] w fun e w' => ∃ v, e = .returned v ∧ Own w' w.heap.size v bs ∧ Below w.heap.size w w' := by
  have hl := hr.2.1
  have HR := hide hr
  have heq : ∀ W, (binOp .eql 25 (.slice a len cap) (.slice none 0 0)).run Try.prog W = .ok (.bool a.isNone) W := fun W => Lib.run_eql_slice_nil W _ _ a len cap 0 0 Try.underlying25
  cases a with
  | none =>
    obtain ⟨rfl, rfl⟩ := hnil rfl
    have hb : bs = [] := List.length_eq_zero_iff.1 hr.1
    subst hb
    clear hr
    go_enter Try.func40, Try.ntmps40
    go_wp2_with fail
    go_ret
    exact ⟨_, rfl, own_none _ _, Below.refl _ _⟩
  | some ad =>
    have HR1 := hide (hr.below ((Below.refl w.heap.size w).alloc (Nat.le_refl _) (.cells #[] 5)))
    have HO1 : Hid (Own (w.alloc (.cells #[] 5)) w.heap.size (.slice (some ⟨w.heap.size, 0, none⟩) 0 0) []) := own_empty w _ (Nat.le_refl _)
    clear hr
    go_enter Try.func40, Try.ntmps40
    go_wp2_with (at_builtin; refine join _ rfl _ _ rfl w.heap.size (.slice (some ⟨w.heap.size, 0, none⟩) 0 0) [] rfl HO1.out (some ad) len cap bs rfl HR1.out hnil (by simp; omega) (by simp) ?_
                 intro v3 w3 ho3 hg3
                 rw [List.nil_append] at ho3
                 have HO3 := hide ho3
                 have HB3 : Hid (Below w.heap.size w w3) := ((Below.refl w.heap.size w).alloc (Nat.le_refl _) _).grown hg3 (by simp) (fun i e => by cases e; exact Nat.le_refl _)
                 clear ho3 hg3)
    go_ret
    exact ⟨_, rfl, HO3.out, HB3.out⟩
end Go.Proofs.Ytdcjhjpbkpiddaa.St
