/-
  What a plan leans on: a copy of entries; which entries are asked for.
-/
import Derived.Test.YtbmbhcjocgbbpaaFaChk
import Derived.Test.YtbmbhcjocgbbpaaFaBlk
import Derived.Lib.SliceRun
namespace Go.Proofs.Ytbmbhcjocgbbpaa.Fa
open Go.ChangeShapes Go.WideShapes Go.ChangeAt Go.RowKit
open Go.Proofs.Ytbmbhcjocgbbpaa.Base
set_option linter.unusedVariables false
set_option maxHeartbeats 1000000 in
theorem cloneL_any (a : Option Addr) (len cap : Nat) (fs : List Flt) (w : World) (hr : RdL w a len fs) (hnil : a = none → len = 0 ∧ cap = 0) (hl : len * 64 ≤ 140737488355328) :
    Calls Try.prog 38 #[.slice a len cap] w fun e w' => ∃ v, e = .returned v ∧ OwnL w' w.heap.size v fs ∧ Below w.heap.size w w' := by
  have heq : ∀ W, (binOp .eql 32 (.slice a len cap) (.slice none 0 0)).run Try.prog W = .ok (.bool a.isNone) W := fun W => Lib.run_eql_slice_nil W _ _ a len cap 0 0 Try.underlying32
  cases a with
  | none =>
    obtain ⟨rfl, rfl⟩ := hnil rfl
    have hb : fs = [] := List.length_eq_zero_iff.1 hr.1
    subst hb
    clear hr
    go_enter Try.func38, Try.ntmps38
    go_wp2_with fail
    go_ret
    exact ⟨_, rfl, ownl_none _ _, Below.refl _ _⟩
  | some ad =>
    have HR1 := hide (hr.below ((Below.refl w.heap.size w).alloc (Nat.le_refl _) (.cells #[] 25)))
    have HO1 : Hid (OwnL (w.alloc (.cells #[] 25)) w.heap.size (.slice (some ⟨w.heap.size, 0, none⟩) 0 0) []) := ownl_empty w _ (Nat.le_refl _)
    clear hr
    go_enter Try.func38, Try.ntmps38
    go_wp2_with (at_builtin; refine joinFl _ rfl _ _ rfl w.heap.size (.slice (some ⟨w.heap.size, 0, none⟩) 0 0) [] rfl HO1.out (some ad) len cap fs rfl HR1.out hnil (by simp; omega) (by simp) ?_
                 intro v3 w3 ho3 hg3
                 rw [List.nil_append] at ho3
                 have HO3 := hide ho3
                 have HB3 : Hid (Below w.heap.size w w3) := ((Below.refl w.heap.size w).alloc (Nat.le_refl _) _).grown hg3 (by simp) (fun i e => by cases e; exact Nat.le_refl _)
                 clear ho3 hg3)
    go_ret
    exact ⟨_, rfl, HO3.out, HB3.out⟩
theorem placeOf_agg (f : Flt) (w : World) :
    Calls Try.prog 41 #[f.val] w fun e w' => e = .returned (.agg #[.int .i64 f.k, .int .i64 f.j, .int .i64 f.t, .int .i64 f.a]) ∧ Below w.heap.size w w' := placeOf_any f w
/-- Is the entry the stop that is asked for? -/
def isStop (x : P4) (f : Flt) : Bool := decide (plc f = x)
theorem PB.cells {w : World} {g : Nat} {x : P4} (h : PB w g x) : w.cell? ⟨g, 0, none⟩ = some (.int .i64 x.1) ∧ w.cell? ⟨g, 1, none⟩ = some (.int .i64 x.2.1) ∧ w.cell? ⟨g, 2, none⟩ = some (.int .i64 x.2.2.1) ∧ w.cell? ⟨g, 3, none⟩ = some (.int .i64 x.2.2.2) := by
  refine ⟨?_, ?_, ?_, ?_⟩ <;> (rw [cell_of_row _ _ _ _ _ _ h]; rfl)
theorem PB.lt {w : World} {g : Nat} {x : P4} (h : PB w g x) : g < w.heap.size := (Array.getElem?_eq_some_iff.1 h).1
theorem PB.below {w w' : World} {g : Nat} {x : P4} (h : PB w g x) (hb : Below w.heap.size w w') : PB w' g x := (hb.block g h.lt).trans h
theorem isStop_eq (x : P4) (f : Flt) : isStop x f = (f.k == x.1 && (f.j == x.2.1 && (f.t == x.2.2.1 && f.a == x.2.2.2))) := by
  obtain ⟨a, b, c, d⟩ := x
  unfold isStop plc
  by_cases h1 : f.k = a <;> by_cases h2 : f.j = b <;> by_cases h3 : f.t = c <;> by_cases h4 : f.a = d <;> simp [h1, h2, h3, h4]
theorem four_cases (a b c d x y z u : Int) (B : Bool) (hB : B = (a == x && (b == y && (c == z && d == u)))) : ((a == x) = false ∧ B = false) ∨ ((a == x) = true ∧ (b == y) = false ∧ B = false) ∨ ((a == x) = true ∧ (b == y) = true ∧ (c == z) = false ∧ B = false) ∨ ((a == x) = true ∧ (b == y) = true ∧ (c == z) = true ∧ (d == u) = false ∧ B = false) ∨ ((a == x) = true ∧ (b == y) = true ∧ (c == z) = true ∧ (d == u) = true ∧ B = true) := by
  subst hB
  by_cases h1 : a = x <;> by_cases h2 : b = y <;> by_cases h3 : c = z <;> by_cases h4 : d = u <;> simp [h1, h2, h3, h4]
set_option maxHeartbeats 1000000 in
set_option maxRecDepth 100000 in
theorem stop1_any (f : Flt) (x : P4) (c : Nat) (w : World) (hc : PB w c x) :
    Calls Try.prog 40 #[f.val, .pointer (some ⟨c, 0, none⟩)] w fun e w' => e = .returned (.bool (isStop x f)) ∧ Below w.heap.size w w' := by
  have HE := hide (isStop_eq x f)
  generalize isStop x f = b at HE ⊢
  obtain ⟨w0, hw0⟩ : ∃ w0, w.alloc (.cells #[.int .i64 f.k, .int .i64 f.j, .int .i64 f.t, .int .i64 f.a, .int .i64 f.m, .int .i64 f.r, .int .i64 f.p, .int .u32 (f.q.toNat : Int)] 25) = w0 := ⟨_, rfl⟩
  have HF0 : Hid (FB w0 w.heap.size f) := by show FB _ _ _; rw [← hw0]; exact FB.new w f
  have HB0 : Hid (Below w.heap.size w w0) := by show Below _ _ _; rw [← hw0]; exact ba (b0 _) _
  obtain ⟨p, hpp⟩ : ∃ p, w.heap.size = p := ⟨_, rfl⟩
  rw [hpp] at HF0
  have HC0 := hide (hc.below HB0.out)
  obtain ⟨x1, x2, x3, x4⟩ := x
  obtain ⟨c0, c1, c2, c3⟩ := HC0.out.cells
  obtain ⟨d0, d1, d2, d3, d4, d5, d6, d7⟩ := HF0.out.cells
  simp only at c0 c1 c2 c3 HE
  clear hc
  unfold Flt.val
  have HQ := four_cases _ _ _ _ _ _ _ _ b HE.out
  clear HE
  go_enter Try.func40, Try.ntmps40
  rcases HQ with ⟨q1, rfl⟩ | ⟨q1, q2, rfl⟩ | ⟨q1, q2, q3, rfl⟩ | ⟨q1, q2, q3, q4, rfl⟩ | ⟨q1, q2, q3, q4, rfl⟩
  · go_wp2_with fail
    go_region_held (fun V => V.cell? ⟨p, 0, none⟩ = some (.int .i64 f.k) ∧ V.cell? ⟨p, 1, none⟩ = some (.int .i64 f.j) ∧ V.cell? ⟨p, 2, none⟩ = some (.int .i64 f.t) ∧ V.cell? ⟨p, 3, none⟩ = some (.int .i64 f.a) ∧ V.cell? ⟨p, 4, none⟩ = some (.int .i64 f.m) ∧ V.cell? ⟨p, 5, none⟩ = some (.int .i64 f.r) ∧ V.cell? ⟨p, 6, none⟩ = some (.int .i64 f.p) ∧ V.cell? ⟨p, 7, none⟩ = some (.int .u32 (f.q.toNat : Int)) ∧ V.cell? ⟨c, 0, none⟩ = some (.int .i64 x1) ∧ V.cell? ⟨c, 1, none⟩ = some (.int .i64 x2) ∧ V.cell? ⟨c, 2, none⟩ = some (.int .i64 x3) ∧ V.cell? ⟨c, 3, none⟩ = some (.int .i64 x4)) (first | go_keep | exact E8.out) (first
      | (go_at_call 41; refine (placeOf_agg f _).mono ?_; rintro e w2 ⟨rfl, hb2⟩; have HB2 := hide (below_trans ((Below.refl _ _).drew) hb2); have E8 := hide (And.intro (HF0.out.below HB2.out).cells.1 (And.intro (HF0.out.below HB2.out).cells.2.1 (And.intro (HF0.out.below HB2.out).cells.2.2.1 (And.intro (HF0.out.below HB2.out).cells.2.2.2.1 (And.intro (HF0.out.below HB2.out).cells.2.2.2.2.1 (And.intro (HF0.out.below HB2.out).cells.2.2.2.2.2.1 (And.intro (HF0.out.below HB2.out).cells.2.2.2.2.2.2.1 (And.intro (HF0.out.below HB2.out).cells.2.2.2.2.2.2.2 (HC0.out.below HB2.out).cells)))))))); clear hb2))
    all_goals
      go_wp2_with fail
      go_ret
      exact ⟨rfl, below_trans HB0.out HB2.out⟩
  · go_wp2_with fail
    go_region_held (fun V => V.cell? ⟨p, 0, none⟩ = some (.int .i64 f.k) ∧ V.cell? ⟨p, 1, none⟩ = some (.int .i64 f.j) ∧ V.cell? ⟨p, 2, none⟩ = some (.int .i64 f.t) ∧ V.cell? ⟨p, 3, none⟩ = some (.int .i64 f.a) ∧ V.cell? ⟨p, 4, none⟩ = some (.int .i64 f.m) ∧ V.cell? ⟨p, 5, none⟩ = some (.int .i64 f.r) ∧ V.cell? ⟨p, 6, none⟩ = some (.int .i64 f.p) ∧ V.cell? ⟨p, 7, none⟩ = some (.int .u32 (f.q.toNat : Int)) ∧ V.cell? ⟨c, 0, none⟩ = some (.int .i64 x1) ∧ V.cell? ⟨c, 1, none⟩ = some (.int .i64 x2) ∧ V.cell? ⟨c, 2, none⟩ = some (.int .i64 x3) ∧ V.cell? ⟨c, 3, none⟩ = some (.int .i64 x4)) (first | go_keep | exact E8.out) (first
      | (go_at_call 41; refine (placeOf_agg f _).mono ?_; rintro e w2 ⟨rfl, hb2⟩; have HB2 := hide (below_trans ((Below.refl _ _).drew) hb2); have E8 := hide (And.intro (HF0.out.below HB2.out).cells.1 (And.intro (HF0.out.below HB2.out).cells.2.1 (And.intro (HF0.out.below HB2.out).cells.2.2.1 (And.intro (HF0.out.below HB2.out).cells.2.2.2.1 (And.intro (HF0.out.below HB2.out).cells.2.2.2.2.1 (And.intro (HF0.out.below HB2.out).cells.2.2.2.2.2.1 (And.intro (HF0.out.below HB2.out).cells.2.2.2.2.2.2.1 (And.intro (HF0.out.below HB2.out).cells.2.2.2.2.2.2.2 (HC0.out.below HB2.out).cells)))))))); clear hb2))
    all_goals
      go_wp2_with fail
      go_ret
      exact ⟨rfl, below_trans HB0.out HB2.out⟩
  · go_wp2_with fail
    go_region_held (fun V => V.cell? ⟨p, 0, none⟩ = some (.int .i64 f.k) ∧ V.cell? ⟨p, 1, none⟩ = some (.int .i64 f.j) ∧ V.cell? ⟨p, 2, none⟩ = some (.int .i64 f.t) ∧ V.cell? ⟨p, 3, none⟩ = some (.int .i64 f.a) ∧ V.cell? ⟨p, 4, none⟩ = some (.int .i64 f.m) ∧ V.cell? ⟨p, 5, none⟩ = some (.int .i64 f.r) ∧ V.cell? ⟨p, 6, none⟩ = some (.int .i64 f.p) ∧ V.cell? ⟨p, 7, none⟩ = some (.int .u32 (f.q.toNat : Int)) ∧ V.cell? ⟨c, 0, none⟩ = some (.int .i64 x1) ∧ V.cell? ⟨c, 1, none⟩ = some (.int .i64 x2) ∧ V.cell? ⟨c, 2, none⟩ = some (.int .i64 x3) ∧ V.cell? ⟨c, 3, none⟩ = some (.int .i64 x4)) (first | go_keep | exact E8.out) (first
      | (go_at_call 41; refine (placeOf_agg f _).mono ?_; rintro e w2 ⟨rfl, hb2⟩; have HB2 := hide (below_trans ((Below.refl _ _).drew) hb2); have E8 := hide (And.intro (HF0.out.below HB2.out).cells.1 (And.intro (HF0.out.below HB2.out).cells.2.1 (And.intro (HF0.out.below HB2.out).cells.2.2.1 (And.intro (HF0.out.below HB2.out).cells.2.2.2.1 (And.intro (HF0.out.below HB2.out).cells.2.2.2.2.1 (And.intro (HF0.out.below HB2.out).cells.2.2.2.2.2.1 (And.intro (HF0.out.below HB2.out).cells.2.2.2.2.2.2.1 (And.intro (HF0.out.below HB2.out).cells.2.2.2.2.2.2.2 (HC0.out.below HB2.out).cells)))))))); clear hb2))
    all_goals
      go_wp2_with fail
      go_ret
      exact ⟨rfl, below_trans HB0.out HB2.out⟩
  · go_wp2_with fail
    go_region_held (fun V => V.cell? ⟨p, 0, none⟩ = some (.int .i64 f.k) ∧ V.cell? ⟨p, 1, none⟩ = some (.int .i64 f.j) ∧ V.cell? ⟨p, 2, none⟩ = some (.int .i64 f.t) ∧ V.cell? ⟨p, 3, none⟩ = some (.int .i64 f.a) ∧ V.cell? ⟨p, 4, none⟩ = some (.int .i64 f.m) ∧ V.cell? ⟨p, 5, none⟩ = some (.int .i64 f.r) ∧ V.cell? ⟨p, 6, none⟩ = some (.int .i64 f.p) ∧ V.cell? ⟨p, 7, none⟩ = some (.int .u32 (f.q.toNat : Int)) ∧ V.cell? ⟨c, 0, none⟩ = some (.int .i64 x1) ∧ V.cell? ⟨c, 1, none⟩ = some (.int .i64 x2) ∧ V.cell? ⟨c, 2, none⟩ = some (.int .i64 x3) ∧ V.cell? ⟨c, 3, none⟩ = some (.int .i64 x4)) (first | go_keep | exact E8.out) (first
      | (go_at_call 41; refine (placeOf_agg f _).mono ?_; rintro e w2 ⟨rfl, hb2⟩; have HB2 := hide (below_trans ((Below.refl _ _).drew) hb2); have E8 := hide (And.intro (HF0.out.below HB2.out).cells.1 (And.intro (HF0.out.below HB2.out).cells.2.1 (And.intro (HF0.out.below HB2.out).cells.2.2.1 (And.intro (HF0.out.below HB2.out).cells.2.2.2.1 (And.intro (HF0.out.below HB2.out).cells.2.2.2.2.1 (And.intro (HF0.out.below HB2.out).cells.2.2.2.2.2.1 (And.intro (HF0.out.below HB2.out).cells.2.2.2.2.2.2.1 (And.intro (HF0.out.below HB2.out).cells.2.2.2.2.2.2.2 (HC0.out.below HB2.out).cells)))))))); clear hb2))
    all_goals
      go_wp2_with fail
      go_ret
      exact ⟨rfl, below_trans HB0.out HB2.out⟩
  · go_wp2_with fail
    go_region_held (fun V => V.cell? ⟨p, 0, none⟩ = some (.int .i64 f.k) ∧ V.cell? ⟨p, 1, none⟩ = some (.int .i64 f.j) ∧ V.cell? ⟨p, 2, none⟩ = some (.int .i64 f.t) ∧ V.cell? ⟨p, 3, none⟩ = some (.int .i64 f.a) ∧ V.cell? ⟨p, 4, none⟩ = some (.int .i64 f.m) ∧ V.cell? ⟨p, 5, none⟩ = some (.int .i64 f.r) ∧ V.cell? ⟨p, 6, none⟩ = some (.int .i64 f.p) ∧ V.cell? ⟨p, 7, none⟩ = some (.int .u32 (f.q.toNat : Int)) ∧ V.cell? ⟨c, 0, none⟩ = some (.int .i64 x1) ∧ V.cell? ⟨c, 1, none⟩ = some (.int .i64 x2) ∧ V.cell? ⟨c, 2, none⟩ = some (.int .i64 x3) ∧ V.cell? ⟨c, 3, none⟩ = some (.int .i64 x4)) (first | go_keep | exact E8.out) (first
      | (go_at_call 41; refine (placeOf_agg f _).mono ?_; rintro e w2 ⟨rfl, hb2⟩; have HB2 := hide (below_trans ((Below.refl _ _).drew) hb2); have E8 := hide (And.intro (HF0.out.below HB2.out).cells.1 (And.intro (HF0.out.below HB2.out).cells.2.1 (And.intro (HF0.out.below HB2.out).cells.2.2.1 (And.intro (HF0.out.below HB2.out).cells.2.2.2.1 (And.intro (HF0.out.below HB2.out).cells.2.2.2.2.1 (And.intro (HF0.out.below HB2.out).cells.2.2.2.2.2.1 (And.intro (HF0.out.below HB2.out).cells.2.2.2.2.2.2.1 (And.intro (HF0.out.below HB2.out).cells.2.2.2.2.2.2.2 (HC0.out.below HB2.out).cells)))))))); clear hb2))
    all_goals
      go_wp2_with fail
      go_ret
      exact ⟨rfl, below_trans HB0.out HB2.out⟩
end Go.Proofs.Ytbmbhcjocgbbpaa.Fa
