/-
  What stays when a slice of the call's own is written.
-/
import Derived.Test.YtmndjgmlndpgaaaDoorFiJoinAt
namespace Go.Proofs.YtmndjgmlndpgaaaDoor.Filt
open Go.ChangeShapes Go.WideShapes Go.ChangeAt Go.RowKit
open Go.Proofs.YtmndjgmlndpgaaaDoor.Base
set_option linter.unusedVariables false
theorem fb_turn {w w' : World} {base g n c p : Nat} {xs : List (BitVec 8)} {A : Bool} {H : Int} {v : Value} (h : FB w p A H v) (ho : Own w base (.slice (some ⟨g, 0, none⟩) n c) xs) (hg : w.grownBy w' (some g)) : FB w' p A H v :=
  h.grown hg (fun e => own_ne_fb ho h (Option.some.inj e))
theorem own_turn {w w' : World} {base g : Nat} {v : Value} {xs : List (BitVec 8)} (h : Own w base v xs) (hg : w.grownBy w' (some g)) (hne : ∀ i, v.ownBlock = some i → i ≠ g) : Own w' base v xs :=
  keep h hg (fun i j e1 e2 => by have := hne i e1; have := Option.some.inj e2; omega)
theorem bel_turn {w0 w w' : World} {g : Nat} (h : Below w0.heap.size w0 w) (hg : w.grownBy w' (some g)) (hge : w0.heap.size ≤ g) : Below w0.heap.size w0 w' :=
  h.grown hg h.size (fun i e => by have := Option.some.inj e; omega)
/-- Two filters with marks behind their bytes, each in a block of its own. -/
def Cut9 (w15 : World) (A : Bool) (H : Int) (len : Nat) (xs : List (BitVec 8)) (B : Bool) (G : Int) (n : Nat) (ys : List (BitVec 8)) (p q : Value) (wx : World) : Prop :=
  ∃ pp pq gp gq, p = .pointer (some ⟨pp, 0, none⟩) ∧ q = .pointer (some ⟨pq, 0, none⟩) ∧ Hid (FB wx pp A H (.slice (some ⟨gp, 0, none⟩) len (len + 64))) ∧ Hid (FB wx pq B G (.slice (some ⟨gq, 0, none⟩) n (n + 64))) ∧ Hid (Own wx w15.heap.size (.slice (some ⟨gp, 0, none⟩) (len + 64) (len + 64)) (xs ++ marks8)) ∧ Hid (Own wx w15.heap.size (.slice (some ⟨gq, 0, none⟩) (n + 64) (n + 64)) (ys ++ marks8)) ∧ Hid (Below w15.heap.size w15 wx) ∧ Hid (gp < gq)
/-- A block that is still empty, of the call's own. -/
def ZB (w15 w : World) (p : Nat) : Prop := FB w p false 0 (.slice none 0 0) ∧ w15.heap.size ≤ p
theorem ZB.old {w15 w : World} {p : Nat} (o : Obj) (h : ZB w15 w p) : ZB w15 (w.alloc o) p := ⟨fb_a_old h.1, h.2⟩
theorem ZB.new {w15 w : World} (h : w15.heap.size ≤ w.heap.size) : ZB w15 (w.alloc (.cells #[.bool false, .int .i64 0, .slice none 0 0] 24)) w.heap.size := ⟨FB.new _ _ _ _, h⟩
section
variable {w15 W : World} {A B : Bool} {H G : Int} {len n gp gq pp pq : Nat} {xs ys : List (BitVec 8)}
theorem cut9_of (u : ZB w15 W pp) (v : ZB w15 W pq) (hne : pp ≠ pq) (hP : Own W w15.heap.size (.slice (some ⟨gp, 0, none⟩) (len + 64) (len + 64)) (xs ++ marks8)) (hQ : Own W w15.heap.size (.slice (some ⟨gq, 0, none⟩) (n + 64) (n + 64)) (ys ++ marks8)) (hB : Below w15.heap.size w15 W) (hl : gp < gq) :
    Cut9 w15 A H len xs B G n ys (.pointer (some ⟨pp, 0, none⟩)) (.pointer (some ⟨pq, 0, none⟩)) (((((((W).setCell ⟨pp, 0, none⟩ (.bool A)).setCell ⟨pp, 1, none⟩ (.int .i64 H)).setCell ⟨pp, 2, none⟩ (.slice (some ⟨gp, 0, none⟩) len (len + 64))).setCell ⟨pq, 0, none⟩ (.bool B)).setCell ⟨pq, 1, none⟩ (.int .i64 G)).setCell ⟨pq, 2, none⟩ (.slice (some ⟨gq, 0, none⟩) n (n + 64))) :=
  ⟨pp, pq, gp, gq, rfl, rfl, fb_s_other (fb_s_same u.1) hne.symm, fb_s_same (fb_s_other v.1 hne), own_s (own_s hP (own_ne_fb hP u.1)) (own_ne_fb hP v.1), own_s (own_s hQ (own_ne_fb hQ u.1)) (own_ne_fb hQ v.1), bel_s (bel_s hB u.2) v.2, hl⟩
theorem cut9_fold (v : ZB w15 W pq) (hP : Own W w15.heap.size (.slice (some ⟨gp, 0, none⟩) (len + 64) (len + 64)) (xs ++ marks8)) (hQ : Own W w15.heap.size (.slice (some ⟨gq, 0, none⟩) (n + 64) (n + 64)) (ys ++ marks8)) (hB : Below w15.heap.size w15 W) (hl : gp < gq) :
    Cut9 w15 A H len xs B G n ys (.pointer (some ⟨W.heap.size, 0, none⟩)) (.pointer (some ⟨pq, 0, none⟩)) ((((W.alloc (.cells #[.bool A, .int .i64 H, (.slice (some ⟨gp, 0, none⟩) len (len + 64))] 24)).setCell ⟨pq, 0, none⟩ (.bool B)).setCell ⟨pq, 1, none⟩ (.int .i64 G)).setCell ⟨pq, 2, none⟩ (.slice (some ⟨gq, 0, none⟩) n (n + 64))) :=
  ⟨W.heap.size, pq, gp, gq, rfl, rfl, fb_s_other (FB.new _ _ _ _) (Nat.ne_of_lt v.1.lt), fb_s_same (fb_a_old v.1), own_s (own_a hP) (own_ne_fb hP v.1), own_s (own_a hQ) (own_ne_fb hQ v.1), bel_s (al1 hB) v.2, hl⟩
theorem cut9_two1 (hP : Own W w15.heap.size (.slice (some ⟨gp, 0, none⟩) (len + 64) (len + 64)) (xs ++ marks8)) (hQ : Own W w15.heap.size (.slice (some ⟨gq, 0, none⟩) (n + 64) (n + 64)) (ys ++ marks8)) (hB : Below w15.heap.size w15 W) (hl : gp < gq) :
    Cut9 w15 A H len xs B G n ys (.pointer (some ⟨W.heap.size, 0, none⟩)) (.pointer (some ⟨W.heap.size + 1, 0, none⟩)) ((W.alloc (.cells #[.bool A, .int .i64 H, (.slice (some ⟨gp, 0, none⟩) len (len + 64))] 24)).alloc (.cells #[.bool B, .int .i64 G, (.slice (some ⟨gq, 0, none⟩) n (n + 64))] 24)) :=
  ⟨_, _, gp, gq, rfl, rfl, fb_a_old (FB.new _ _ _ _), fb_new1, own_a (own_a hP), own_a (own_a hQ), al1 (al1 hB), hl⟩
theorem cut9_two2 (hP : Own W w15.heap.size (.slice (some ⟨gp, 0, none⟩) (len + 64) (len + 64)) (xs ++ marks8)) (hQ : Own W w15.heap.size (.slice (some ⟨gq, 0, none⟩) (n + 64) (n + 64)) (ys ++ marks8)) (hB : Below w15.heap.size w15 W) (hl : gp < gq) :
    Cut9 w15 A H len xs B G n ys (.pointer (some ⟨W.heap.size + 1, 0, none⟩)) (.pointer (some ⟨W.heap.size, 0, none⟩)) ((W.alloc (.cells #[.bool B, .int .i64 G, (.slice (some ⟨gq, 0, none⟩) n (n + 64))] 24)).alloc (.cells #[.bool A, .int .i64 H, (.slice (some ⟨gp, 0, none⟩) len (len + 64))] 24)) :=
  ⟨_, _, gp, gq, rfl, rfl, fb_new1, fb_a_old (FB.new _ _ _ _), own_a (own_a hP), own_a (own_a hQ), al1 (al1 hB), hl⟩
end
end Go.Proofs.YtmndjgmlndpgaaaDoor.Filt
