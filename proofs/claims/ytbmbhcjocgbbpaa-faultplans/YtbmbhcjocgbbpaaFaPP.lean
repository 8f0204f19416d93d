/-
  Plans that may be nil: what each call tells, and what is left.
-/
import Derived.Test.YtbmbhcjocgbbpaaFaNil
namespace Go.Proofs.Ytbmbhcjocgbbpaa.Fa
open Go.ChangeShapes Go.WideShapes Go.ChangeAt Go.RowKit
open Go.Proofs.Ytbmbhcjocgbbpaa.Base
set_option linter.unusedVariables false
/-- The block that a pointer leads to. -/
def pb (v : Value) : Option Nat := match v with | .pointer (some a) => some a.block | _ => none
/-- A plan of the program: nil, or these entries are left. -/
def PP (w : World) (base : Nat) (pv lv : Value) (fs : List Flt) : Prop :=
  (pv = .pointer none ∧ fs = [] ∧ lv = .slice none 0 0) ∨ (∃ p, pv = .pointer (some ⟨p, 0, none⟩) ∧ base ≤ p ∧ PlB w p lv ∧ OwnL w base lv fs)
/-- A plan of the document. -/
def RP (w : World) (base : Nat) (pv lv : Value) (fs : List Flt) : Prop :=
  (pv = .pointer none ∧ fs = [] ∧ lv = .slice none 0 0) ∨ (∃ p, pv = .pointer (some ⟨p, 0, none⟩) ∧ base ≤ p ∧ RPl w p lv ∧ OwnL w base lv fs)
theorem stopE_one {fs : List Flt} (h : fs.length ≤ 1) : stopE fs = stopV fs := by
  match fs, h with
  | [], _ => rfl
  | [f], _ => rfl
  | f :: g :: r, h => simp at h
theorem stops_one {fs : List Flt} (h : (fs.map plc).Nodup) (x : P4) : (fs.filter (isStop x)).length ≤ 1 := by
  induction fs with
  | nil => simp
  | cons f r ih =>
    rw [List.map_cons, List.nodup_cons] at h
    by_cases hf : isStop x f = true
    · have hn : r.filter (isStop x) = [] := by
        rw [List.filter_eq_nil_iff]
        intro g hg hs
        exact h.1 (List.mem_map.2 ⟨g, hg, (isStop_true hs).trans (isStop_true hf).symm⟩)
      rw [List.filter_cons_of_pos hf, hn]
      simp
    · rw [List.filter_cons_of_neg hf]
      exact ih h.2
theorem PP.below {w w' : World} {base : Nat} {pv lv : Value} {fs : List Flt} (h : PP w base pv lv fs) (hb : Below w.heap.size w w') : PP w' base pv lv fs := by
  rcases h with h | ⟨p, h1, h2, h3, h4⟩
  · exact .inl h
  · exact .inr ⟨p, h1, h2, h3.below hb, h4.below hb⟩
theorem PP.grown {w w' : World} {base : Nat} {pv lv : Value} {fs : List Flt} {q : Option Nat} (h : PP w base pv lv fs) (hg : w.grownBy w' q) (h1 : ∀ i, q = some i → pb pv ≠ some i) (h2 : ∀ i, q = some i → lv.ownBlock ≠ some i) : PP w' base pv lv fs := by
  rcases h with h | ⟨p, rfl, h3, h4, h5⟩
  · exact .inl h
  · exact .inr ⟨p, rfl, h3, h4.grown hg (fun e => h1 p e rfl), h5.kept hg (fun i e e2 => h2 i e2 e)⟩
theorem PP.blk {w : World} {base : Nat} {pv lv : Value} {fs : List Flt} (h : PP w base pv lv fs) : (∀ i, pb pv = some i → base ≤ i ∧ i < w.heap.size) ∧ (∀ i, lv.ownBlock = some i → base ≤ i ∧ i < w.heap.size) := by
  rcases h with ⟨rfl, _, rfl⟩ | ⟨p, rfl, h3, h4, h5⟩
  · exact ⟨(fun i e => by cases e), (fun i e => by cases e)⟩
  · exact ⟨(fun i e => by cases e; exact ⟨h3, h4.lt⟩), h5.blk⟩
/-- Stop. -/
theorem pstop_p (k t at_ : Int) (base : Nat) (pv lv : Value) (fs : List Flt) (w : World) (h : PP w base pv lv fs) (hl : fs.length ≤ 1048576) (hbase : base ≤ w.heap.size) :
    Calls Try.prog 17 #[pv, .int .i64 k, .int .i64 t, .int .i64 at_] w fun e w' => e = .returned (.tuple #[.int .i64 (stopV (fs.filter (isStop ((0, k, t, at_) : P4)))).1, .bool (stopV (fs.filter (isStop ((0, k, t, at_) : P4)))).2]) ∧ (∃ lv', PP w' base pv lv' (fs.filter (fun f => !isStop ((0, k, t, at_) : P4) f)) ∧ ∀ i, lv'.ownBlock = some i → w.heap.size ≤ i) ∧ w.grownBy w' (pb pv) := by
  rcases h with ⟨rfl, rfl, rfl⟩ | ⟨p, rfl, h3, h4, h5⟩
  · refine (pstop_nil k t at_ w).mono ?_
    rintro e w' ⟨rfl, hb⟩
    exact ⟨rfl, ⟨.slice none 0 0, .inl ⟨rfl, rfl, rfl⟩, fun i e => by cases e⟩, grown_any (below_grown hb) _⟩
  · obtain ⟨a, c, rfl, _, _⟩ := h5.shape
    refine (pstop_any k t at_ p base fs.length c a fs w h4 h5 hl).mono ?_
    rintro e w' ⟨lv', rfl, k1, k2, k3⟩
    exact ⟨rfl, ⟨lv', .inr ⟨p, rfl, h3, k2, k1.base hbase⟩, fun i e => (k1.blk i e).1⟩, k3⟩
/-- Due. -/
theorem pdue_p (t at_ m r : Int) (base : Nat) (pv lv : Value) (fs : List Flt) (w : World) (h : PP w base pv lv fs) (hl : fs.length ≤ 1048576) (hbase : base ≤ w.heap.size) :
    Calls Try.prog 18 #[pv, .int .i64 t, .int .i64 at_, .int .i64 m, .int .i64 r] w fun e w' => (∃ v lv', e = .returned v ∧ OwnL w' w.heap.size v (fs.filter (isDue (t, at_, m, rdr m r))) ∧ PP w' base pv lv' (fs.filter (fun f => !isDue (t, at_, m, rdr m r) f)) ∧ Ap2 v lv' ∧ ∀ i, lv'.ownBlock = some i → w.heap.size ≤ i) ∧ w.grownBy w' (pb pv) := by
  rcases h with ⟨rfl, rfl, rfl⟩ | ⟨p, rfl, h3, h4, h5⟩
  · refine (pdue_nil t at_ m r w).mono ?_
    rintro e w' ⟨rfl, hb⟩
    exact ⟨⟨_, .slice none 0 0, rfl, ownl_none _ _, .inl ⟨rfl, rfl, rfl⟩, (fun i e => by cases e), (fun i e => by cases e)⟩, grown_any (below_grown hb) _⟩
  · obtain ⟨a, c, rfl, _, _⟩ := h5.shape
    refine (pdue_any t at_ m r p base fs.length c a fs w h4 h5 hl).mono ?_
    rintro e w' ⟨v, lv', rfl, k0, k1, k2, k4, k3⟩
    exact ⟨⟨v, lv', rfl, k0, .inr ⟨p, rfl, h3, k2, k1.base hbase⟩, k4, fun i e => (k1.blk i e).1⟩, k3⟩
/-- Left. -/
theorem pleft_p (base : Nat) (pv lv : Value) (fs : List Flt) (w : World) (h : PP w base pv lv fs) (hl : fs.length ≤ 1048576) :
    Calls Try.prog 19 #[pv] w fun e w' => (∃ v, e = .returned v ∧ OwnL w' w.heap.size v fs) ∧ Below w.heap.size w w' := by
  rcases h with ⟨rfl, rfl, rfl⟩ | ⟨p, rfl, h3, h4, h5⟩
  · refine (pleft_nil w).mono ?_
    rintro e w' ⟨rfl, hb⟩
    exact ⟨⟨_, rfl, ownl_none _ _⟩, hb⟩
  · obtain ⟨a, c, rfl, _, _⟩ := h5.shape
    refine (pleft_any p base fs.length c a fs w h4 h5 hl).mono ?_
    rintro e w' ⟨v, rfl, k0, k3⟩
    exact ⟨⟨v, rfl, k0⟩, k3⟩
theorem RP.below {w w' : World} {base : Nat} {pv lv : Value} {fs : List Flt} (h : RP w base pv lv fs) (hb : Below w.heap.size w w') : RP w' base pv lv fs := by
  rcases h with h | ⟨p, h1, h2, h3, h4⟩
  · exact .inl h
  · exact .inr ⟨p, h1, h2, h3.below hb, h4.below hb⟩
theorem RP.grown {w w' : World} {base : Nat} {pv lv : Value} {fs : List Flt} {q : Option Nat} (h : RP w base pv lv fs) (hg : w.grownBy w' q) (h1 : ∀ i, q = some i → pb pv ≠ some i) (h2 : ∀ i, q = some i → lv.ownBlock ≠ some i) : RP w' base pv lv fs := by
  rcases h with h | ⟨p, rfl, h3, h4, h5⟩
  · exact .inl h
  · exact .inr ⟨p, rfl, h3, h4.grown hg (fun e => h1 p e rfl), h5.kept hg (fun i e e2 => h2 i e2 e)⟩
theorem RP.blk {w : World} {base : Nat} {pv lv : Value} {fs : List Flt} (h : RP w base pv lv fs) : (∀ i, pb pv = some i → base ≤ i ∧ i < w.heap.size) ∧ (∀ i, lv.ownBlock = some i → base ≤ i ∧ i < w.heap.size) := by
  rcases h with ⟨rfl, _, rfl⟩ | ⟨p, rfl, h3, h4, h5⟩
  · exact ⟨(fun i e => by cases e), (fun i e => by cases e)⟩
  · exact ⟨(fun i e => by cases e; exact ⟨h3, h4.lt⟩), h5.blk⟩
/-- Stop. -/
theorem rstop_p (k t at_ : Int) (base : Nat) (pv lv : Value) (fs : List Flt) (w : World) (h : RP w base pv lv fs) (hl : fs.length ≤ 1048576) (hbase : base ≤ w.heap.size) (hnd : (fs.map plc).Nodup) :
    Calls Try.prog 25 #[pv, .int .i64 k, .int .i64 t, .int .i64 at_] w fun e w' => e = .returned (.tuple #[.int .i64 (stopV (fs.filter (isStop ((0, k, t, at_) : P4)))).1, .bool (stopV (fs.filter (isStop ((0, k, t, at_) : P4)))).2]) ∧ (∃ lv', RP w' base pv lv' (fs.filter (fun f => !isStop ((0, k, t, at_) : P4) f)) ∧ ∀ i, lv'.ownBlock = some i → w.heap.size ≤ i) ∧ w.grownBy w' (pb pv) := by
  rcases h with ⟨rfl, rfl, rfl⟩ | ⟨p, rfl, h3, h4, h5⟩
  · refine (rstop_nil k t at_ w).mono ?_
    rintro e w' ⟨rfl, hb⟩
    exact ⟨rfl, ⟨.slice none 0 0, .inl ⟨rfl, rfl, rfl⟩, fun i e => by cases e⟩, grown_any (below_grown hb) _⟩
  · obtain ⟨a, c, rfl, _, _⟩ := h5.shape
    refine (rstop_any k t at_ p base fs.length c a fs w h4 h5 hl).mono ?_
    rintro e w' ⟨lv', rfl, k1, k2, k3⟩
    exact ⟨by rw [stopE_one (stops_one hnd _)], ⟨lv', .inr ⟨p, rfl, h3, k2, k1.base hbase⟩, fun i e => (k1.blk i e).1⟩, k3⟩
/-- Due. -/
theorem rdue_p (t at_ m r : Int) (base : Nat) (pv lv : Value) (fs : List Flt) (w : World) (h : RP w base pv lv fs) (hl : fs.length ≤ 1048576) (hbase : base ≤ w.heap.size) (hall : fs.all may = true) :
    Calls Try.prog 26 #[pv, .int .i64 t, .int .i64 at_, .int .i64 m, .int .i64 r] w fun e w' => (∃ v lv', e = .returned v ∧ OwnL w' w.heap.size v (fs.filter (isDue (t, at_, m, rdr m r))) ∧ RP w' base pv lv' (fs.filter (fun f => !isDue (t, at_, m, rdr m r) f)) ∧ Ap2 v lv' ∧ ∀ i, lv'.ownBlock = some i → w.heap.size ≤ i) ∧ w.grownBy w' (pb pv) := by
  rcases h with ⟨rfl, rfl, rfl⟩ | ⟨p, rfl, h3, h4, h5⟩
  · refine (rdue_nil t at_ m r w).mono ?_
    rintro e w' ⟨rfl, hb⟩
    exact ⟨⟨_, .slice none 0 0, rfl, ownl_none _ _, .inl ⟨rfl, rfl, rfl⟩, (fun i e => by cases e), (fun i e => by cases e)⟩, grown_any (below_grown hb) _⟩
  · obtain ⟨a, c, rfl, _, _⟩ := h5.shape
    refine (rdue_any t at_ m r p base fs.length c a fs w h4 h5 hl hall).mono ?_
    rintro e w' ⟨v, lv', rfl, k0, k1, k2, k4, k3⟩
    exact ⟨⟨v, lv', rfl, k0, .inr ⟨p, rfl, h3, k2, k1.base hbase⟩, k4, fun i e => (k1.blk i e).1⟩, k3⟩
/-- Left. -/
theorem rleft_p (base : Nat) (pv lv : Value) (fs : List Flt) (w : World) (h : RP w base pv lv fs) (hl : fs.length ≤ 1048576) :
    Calls Try.prog 28 #[pv] w fun e w' => (∃ v, e = .returned v ∧ OwnL w' w.heap.size v fs) ∧ Below w.heap.size w w' := by
  rcases h with ⟨rfl, rfl, rfl⟩ | ⟨p, rfl, h3, h4, h5⟩
  · refine (rleft_nil w).mono ?_
    rintro e w' ⟨rfl, hb⟩
    exact ⟨⟨_, rfl, ownl_none _ _⟩, hb⟩
  · obtain ⟨a, c, rfl, _, _⟩ := h5.shape
    refine (rleft_any p base fs.length c a fs w h4 h5 hl).mono ?_
    rintro e w' ⟨v, rfl, k0, k3⟩
    exact ⟨⟨v, rfl, k0⟩, k3⟩
end Go.Proofs.Ytbmbhcjocgbbpaa.Fa
