/-
  An entry is read: the program's next.
-/
import Derived.Test.YtbmbhcjocgbbpabFaCur
import Derived.Test.YtbmbhcjocgbbpabFaBlk
import Derived.Test.YtbmbhcjocgbbpabFaList
import Derived.Laws.ResultCell
import Derived.Deep.MidRow
namespace Go.Proofs.Ytbmbhcjocgbbpab.Fa
open Go.ChangeShapes Go.WideShapes Go.ChangeAt Go.RowKit
open Go.Proofs.Ytbmbhcjocgbbpab.Base Go.Proofs.Ytbmbhcjocgbbpab.Nums Go.Proofs.Ytbmbhcjocgbbpab.Curs
set_option linter.unusedVariables false
/-- The entry that comes next, and what is left. -/
def nextS (s : St) : Flt × St :=
  let s1 := fixS s 1
  let s2 := fixS s1.2 1
  let s3 := numS s2.2 65535
  let s4 := numS s3.2 16
  let s5 := fixS s4.2 1
  let s6 := numS s5.2 65535
  let s7 := fixS s6.2 8
  let s8 := fixS s7.2 4
  (⟨(s1.1 : Int), (s2.1 : Int), (s3.1 : Int), (s4.1 : Int), (s5.1 : Int), (s6.1 : Int), wrap64 (s7.1 : Int), BitVec.ofNat 32 s8.1⟩, s8.2)
theorem word_small (bs : List (BitVec 8)) (k : Nat) (h : bs.length ≤ k) (hk : k ≤ 8) : word bs < 256 ^ k := by
  have h1 := wordFrom_lt (bs.take 8) 0
  have h2 : (bs.take 8).length ≤ k := by rw [List.length_take]; omega
  have h3 := Nat.pow_le_pow_right (n := 256) (by omega) h2
  unfold word
  simp only [Nat.pow_zero, Nat.zero_add] at h1
  omega
theorem fixS_lt (s : St) (k : Nat) (h1 : 1 ≤ k) (h8 : k ≤ 8) : (fixS s (k : Int)).1 < 256 ^ k := by
  have hp : 0 < 256 ^ k := Nat.pow_pos (by omega)
  cases s with
  | none => exact hp
  | some L =>
    unfold fixS
    simp only
    split
    · unfold fixAt
      rw [if_neg (by omega)]
      split
      · exact hp
      · exact word_small _ k (by rw [List.length_take]; omega) h8
    · exact hp
theorem numS_le (s : St) (k : Nat) : (numS s (k : Int)).1 ≤ k := by
  cases s with
  | none => exact Nat.zero_le _
  | some L =>
    unfold numS
    simp only
    split
    · unfold atMost
      split
      · exact Nat.zero_le _
      · split
        · exact Nat.zero_le _
        · omega
    · exact Nat.zero_le _
theorem fb_cell_kind {w : World} {b o : Nat} {f : Flt} {c : BitVec 8} (h : FB w b f) (hc : w.cell? ⟨b, o, none⟩ = some (.int .u8 (c.toNat : Int))) : False := by
  rw [cell_of_row _ _ _ _ _ _ h] at hc
  match o, hc with
  | 0, hc => cases hc
  | 1, hc => cases hc
  | 2, hc => cases hc
  | 3, hc => cases hc
  | 4, hc => cases hc
  | 5, hc => cases hc
  | 6, hc => cases hc
  | 7, hc => cases hc
  | o + 8, hc => simp at hc
theorem Cst.kept {w w' : World} {g b : Nat} {s : St} {f : Flt} (h : Cst w g s) (hf : FB w b f) (hg : w.grownBy w' (some b)) (hne : b ≠ g) : Cst w' g s := by
  cases s with
  | none =>
    obtain ⟨p, er, hr, he⟩ := h
    exact ⟨p, er, hr.grown hg (fun e => hne (Option.some.inj e)), he⟩
  | some L =>
    obtain ⟨p, a, c, hrow, hrd, h1, h2, h3, h4, h5, h6⟩ := h
    refine ⟨p, a, c, hrow.grown hg (fun e => hne (Option.some.inj e)), ?_, h1, h2, h3, h4, Nat.lt_of_lt_of_le h5 hg.size, h6⟩
    by_cases h0 : L.length = 0
    · have : L = [] := List.length_eq_zero_iff.1 h0
      subst this
      exact rd_zero _ _
    · refine hrd.grown hg (fun ad e e2 => ?_)
      obtain ⟨b1, off, e3, hlt, hc⟩ := hrd.2.2 (by omega)
      cases e
      cases e3
      have e4 : b = b1 := Option.some.inj e2
      subst e4
      exact fb_cell_kind hf (hc 0 (by omega))
theorem fb_ret {fn : Func} {p : Tmp} (h : fn.results = #[.cell p 39]) (tmps : Array Value) (w : World) (g : Nat) (f : Flt) (hp : tmps.getD p undef = .pointer (some ⟨g, 0, none⟩)) (hf : FB w g f) :
    (results fn tmps).run Try.prog w = .ok f.val w :=
  results_cell_row h tmps w g 39 _ (0, 0) _ hp hf Try.underlying39 rfl (by kernel_rfl)
theorem FB.s0 {w : World} {p : Nat} {f : Flt} (h : FB w p f) (y : Int) : FB (w.setCell ⟨p, 0, none⟩ (.int .i64 y)) p ⟨y, f.j, f.t, f.a, f.m, f.r, f.p, f.q⟩ := by
  unfold FB
  rw [heap_setCell_same _ _ 0 _ _ _ h]
  rfl
theorem FB.s1 {w : World} {p : Nat} {f : Flt} (h : FB w p f) (y : Int) : FB (w.setCell ⟨p, 1, none⟩ (.int .i64 y)) p ⟨f.k, y, f.t, f.a, f.m, f.r, f.p, f.q⟩ := by
  unfold FB
  rw [heap_setCell_same _ _ 1 _ _ _ h]
  rfl
theorem FB.s2 {w : World} {p : Nat} {f : Flt} (h : FB w p f) (y : Int) : FB (w.setCell ⟨p, 2, none⟩ (.int .i64 y)) p ⟨f.k, f.j, y, f.a, f.m, f.r, f.p, f.q⟩ := by
  unfold FB
  rw [heap_setCell_same _ _ 2 _ _ _ h]
  rfl
theorem FB.s3 {w : World} {p : Nat} {f : Flt} (h : FB w p f) (y : Int) : FB (w.setCell ⟨p, 3, none⟩ (.int .i64 y)) p ⟨f.k, f.j, f.t, y, f.m, f.r, f.p, f.q⟩ := by
  unfold FB
  rw [heap_setCell_same _ _ 3 _ _ _ h]
  rfl
theorem FB.s4 {w : World} {p : Nat} {f : Flt} (h : FB w p f) (y : Int) : FB (w.setCell ⟨p, 4, none⟩ (.int .i64 y)) p ⟨f.k, f.j, f.t, f.a, y, f.r, f.p, f.q⟩ := by
  unfold FB
  rw [heap_setCell_same _ _ 4 _ _ _ h]
  rfl
theorem FB.s5 {w : World} {p : Nat} {f : Flt} (h : FB w p f) (y : Int) : FB (w.setCell ⟨p, 5, none⟩ (.int .i64 y)) p ⟨f.k, f.j, f.t, f.a, f.m, y, f.p, f.q⟩ := by
  unfold FB
  rw [heap_setCell_same _ _ 5 _ _ _ h]
  rfl
theorem FB.s6 {w : World} {p : Nat} {f : Flt} (h : FB w p f) (y : Int) : FB (w.setCell ⟨p, 6, none⟩ (.int .i64 y)) p ⟨f.k, f.j, f.t, f.a, f.m, f.r, y, f.q⟩ := by
  unfold FB
  rw [heap_setCell_same _ _ 6 _ _ _ h]
  rfl
theorem FB.s7 {w : World} {p : Nat} {f : Flt} (h : FB w p f) (y : BitVec 32) : FB (w.setCell ⟨p, 7, none⟩ (.int .u32 (y.toNat : Int))) p ⟨f.k, f.j, f.t, f.a, f.m, f.r, f.p, y⟩ := by
  unfold FB
  rw [heap_setCell_same _ _ 7 _ _ _ h]
  rfl
theorem fb_copy {w : World} {p : Nat} {f f' : Flt} (h : FB w p f) : FB ((((((((w.setCell ⟨p, 0, none⟩ (.int .i64 f'.k)).setCell ⟨p, 1, none⟩ (.int .i64 f'.j)).setCell ⟨p, 2, none⟩ (.int .i64 f'.t)).setCell ⟨p, 3, none⟩ (.int .i64 f'.a)).setCell ⟨p, 4, none⟩ (.int .i64 f'.m)).setCell ⟨p, 5, none⟩ (.int .i64 f'.r)).setCell ⟨p, 6, none⟩ (.int .i64 f'.p)).setCell ⟨p, 7, none⟩ (.int .u32 (f'.q.toNat : Int))) p f' :=
  (((((((h.s0 f'.k).s1 f'.j).s2 f'.t).s3 f'.a).s4 f'.m).s5 f'.r).s6 f'.p).s7 f'.q
set_option maxHeartbeats 4000000 in
set_option maxRecDepth 100000 in
theorem next_any (g : Nat) (s : St) (w : World) (h : Cst w g s) :
    Calls Try.prog 23 #[.pointer (some ⟨g, 0, none⟩)] w fun e w' => e = .returned (nextS s).1.val ∧ w.grownBy w' (some g) ∧ Cst w' g (nextS s).2 := by
  obtain ⟨w0, hw0⟩ : ∃ w0, (w.alloc (.cells #[.int .i64 0, .int .i64 0, .int .i64 0, .int .i64 0, .int .i64 0, .int .i64 0, .int .i64 0, .int .u32 0] 39)).alloc (.cells #[.int .i64 0, .int .i64 0, .int .i64 0, .int .i64 0, .int .i64 0, .int .i64 0, .int .i64 0, .int .u32 0] 39) = w0 := ⟨_, rfl⟩
  have HB0 : Hid (Below w.heap.size w w0) := by show Below _ _ _; rw [← hw0]; exact ((Below.refl _ _).alloc (Nat.le_refl _) _).alloc (by simp) _
  have HFr0 : Hid (FB w0 w.heap.size ⟨0, 0, 0, 0, 0, 0, 0, 0#32⟩) := by
    show FB _ _ _
    rw [← hw0]
    exact FB.below (w := w.alloc (.cells #[.int .i64 0, .int .i64 0, .int .i64 0, .int .i64 0, .int .i64 0, .int .i64 0, .int .i64 0, .int .u32 0] 39)) (heap_alloc_new _ _) ((Below.refl _ _).alloc (Nat.le_refl _) _)
  have HF0 : Hid (FB w0 (w.heap.size + 1) ⟨0, 0, 0, 0, 0, 0, 0, 0#32⟩) := by
    show FB _ _ _
    have h1 := heap_alloc_new (w.alloc (.cells #[.int .i64 0, .int .i64 0, .int .i64 0, .int .i64 0, .int .i64 0, .int .i64 0, .int .i64 0, .int .u32 0] 39)) (.cells #[.int .i64 0, .int .i64 0, .int .i64 0, .int .i64 0, .int .i64 0, .int .i64 0, .int .i64 0, .int .u32 0] 39)
    rw [show (w.alloc (.cells #[.int .i64 0, .int .i64 0, .int .i64 0, .int .i64 0, .int .i64 0, .int .i64 0, .int .i64 0, .int .u32 0] 39)).heap.size = w.heap.size + 1 by simp] at h1
    rw [← hw0]
    exact h1
  have HC0 := hide (h.below HB0.out)
  have HGL := hide h.lt
  obtain ⟨rb, hrb⟩ : ∃ rb, w.heap.size = rb := ⟨_, rfl⟩
  obtain ⟨fb, hfb⟩ : ∃ fb, rb + 1 = fb := ⟨_, rfl⟩
  have HG0 : Hid (w.grownBy w0 (some g)) := grown_any (below_grown HB0.out) _
  rw [hrb] at HFr0 HF0
  rw [hfb] at HF0
  have HFB : Hid (fb ≠ g ∧ rb ≠ g ∧ fb ≠ rb ∧ w.heap.size ≤ fb ∧ w.heap.size ≤ rb) := by have := HGL.out; show _ ∧ _; omega
  have HE : Hid (nextS s = nextS s) := rfl
  clear h
  have B1 := fixS_lt s 1 (by omega) (by omega)
  obtain ⟨X1, s1, hs1⟩ : ∃ X1 s1, fixS s 1 = (X1, s1) := ⟨_, _, rfl⟩
  have B2 := fixS_lt s1 1 (by omega) (by omega)
  obtain ⟨X2, s2, hs2⟩ : ∃ X2 s2, fixS s1 1 = (X2, s2) := ⟨_, _, rfl⟩
  have B3 := numS_le s2 65535
  obtain ⟨X3, s3, hs3⟩ : ∃ X3 s3, numS s2 65535 = (X3, s3) := ⟨_, _, rfl⟩
  have B4 := numS_le s3 16
  obtain ⟨X4, s4, hs4⟩ : ∃ X4 s4, numS s3 16 = (X4, s4) := ⟨_, _, rfl⟩
  have B5 := fixS_lt s4 1 (by omega) (by omega)
  obtain ⟨X5, s5, hs5⟩ : ∃ X5 s5, fixS s4 1 = (X5, s5) := ⟨_, _, rfl⟩
  have B6 := numS_le s5 65535
  obtain ⟨X6, s6, hs6⟩ : ∃ X6 s6, numS s5 65535 = (X6, s6) := ⟨_, _, rfl⟩
  have B7 := fixS_lt s6 8 (by omega) (by omega)
  obtain ⟨X7, s7, hs7⟩ : ∃ X7 s7, fixS s6 8 = (X7, s7) := ⟨_, _, rfl⟩
  have B8' := fixS_lt s7 4 (by omega) (by omega)
  obtain ⟨X8, s8, hs8⟩ : ∃ X8 s8, fixS s7 4 = (X8, s8) := ⟨_, _, rfl⟩
  rw [show ((1 : Nat) : Int) = 1 from rfl, hs1] at B1
  rw [show ((1 : Nat) : Int) = 1 from rfl, hs2] at B2
  rw [show ((65535 : Nat) : Int) = 65535 from rfl, hs3] at B3
  rw [show ((16 : Nat) : Int) = 16 from rfl, hs4] at B4
  rw [show ((1 : Nat) : Int) = 1 from rfl, hs5] at B5
  rw [show ((65535 : Nat) : Int) = 65535 from rfl, hs6] at B6
  rw [show ((8 : Nat) : Int) = 8 from rfl, hs7] at B7
  rw [show ((4 : Nat) : Int) = 4 from rfl, hs8] at B8'
  simp only at B1 B2 B3 B4 B5 B6 B7 B8'
  obtain ⟨P, hP⟩ : ∃ P, wrap64 (X7 : Int) = P := ⟨_, rfl⟩
  obtain ⟨Q, hQ⟩ : ∃ Q, BitVec.ofNat 32 X8 = Q := ⟨_, rfl⟩
  have HNX : Hid (nextS s = (⟨(X1 : Int), (X2 : Int), (X3 : Int), (X4 : Int), (X5 : Int), (X6 : Int), P, Q⟩, s8)) := by
    show _ = _
    unfold nextS
    simp only [hs1, hs2, hs3, hs4, hs5, hs6, hs7, hs8, hP, hQ]
  have z1 : IntKind.i64.wrap (X1 : Int) = (X1 : Int) := by rw [IntKind.wrap_i64]; omega
  have z2 : IntKind.i64.wrap (X2 : Int) = (X2 : Int) := by rw [IntKind.wrap_i64]; omega
  have z5 : IntKind.i64.wrap (X5 : Int) = (X5 : Int) := by rw [IntKind.wrap_i64]; omega
  have z7 : IntKind.i64.wrap (X7 : Int) = P := by rw [← hP, IntKind.wrap_i64]; unfold wrap64; omega
  have y1 : wrap64 (X1 : Int) = (X1 : Int) := by unfold wrap64; omega
  have y2 : wrap64 (X2 : Int) = (X2 : Int) := by unfold wrap64; omega
  have y5 : wrap64 (X5 : Int) = (X5 : Int) := by unfold wrap64; omega
  have z8 : (X8 : Int) % 4294967296 = (Q.toNat : Int) := by rw [← hQ, BitVec.toNat_ofNat]; omega
  have y8 : IntKind.u32.wrap (X8 : Int) = (Q.toNat : Int) := by rw [← z8]; simp [IntKind.wrap, IntKind.bits, IntKind.signed]
  have HS1 := hide hs1
  have HS2 := hide hs2
  have HS3 := hide hs3
  have HS4 := hide hs4
  have HS5 := hide hs5
  have HS6 := hide hs6
  have HS7 := hide hs7
  have HS8 := hide hs8
  clear hs1 hs2 hs3 hs4 hs5 hs6 hs7 hs8 hQ B1 B2 B3 B4 B5 B6 B7 B8' HE
  go_enter Try.func23, Try.ntmps23
  go_wp2_with fail
  refine (fix_st g s 1 _ HC0.out).mono ?_
  rintro e a0 ⟨rfl, hg, hc⟩
  rw [HS1.out] at hc ⊢
  simp only at hc ⊢
  have HFx := hide (HF0.out.grown hg (fun e => HFB.out.1 (Option.some.inj e).symm))
  obtain ⟨t0, t1, t2, t3, t4, t5, t6, t7⟩ := HFx.out.cells
  have tz := HFx.out.fz 0
  obtain ⟨w1, hw1⟩ : ∃ w1, a0.setCell ⟨fb, 0, none⟩ (.int .i64 (X1 : Int)) = w1 := ⟨_, rfl⟩
  have HF1 : Hid (FB w1 fb ⟨(X1 : Int), 0, 0, 0, 0, 0, 0, 0#32⟩) := by show FB _ _ _; rw [← hw1]; exact HFx.out.s0 _
  have hgs : a0.grownBy w1 (some fb) := by rw [← hw1]; exact grown_cell (World.grownBy.refl _ _) _ _
  have HFr1 := hide ((HFr0.out.grown hg (fun e => HFB.out.2.1 (Option.some.inj e).symm)).grown hgs (fun e => HFB.out.2.2.1 (Option.some.inj e)))
  have HC1 := hide (hc.kept HFx.out hgs HFB.out.1)
  have HG1 : Hid (w.grownBy w1 (some g)) := grown_new (grown_trans HG0.out hg) hgs (fun j e => by cases e; exact HFB.out.2.2.2.1)
  simp only at t0 t1 t2 t3 t4 t5 t6 t7
  clear hg hc hgs
  go_wp2_with fail
  refine (fix_st g s1 1 _ HC1.out).mono ?_
  rintro e a1 ⟨rfl, hg, hc⟩
  rw [HS2.out] at hc ⊢
  simp only at hc ⊢
  have HFx := hide (HF1.out.grown hg (fun e => HFB.out.1 (Option.some.inj e).symm))
  obtain ⟨t0, t1, t2, t3, t4, t5, t6, t7⟩ := HFx.out.cells
  have tz := HFx.out.fz 1
  obtain ⟨w2, hw2⟩ : ∃ w2, a1.setCell ⟨fb, 1, none⟩ (.int .i64 (X2 : Int)) = w2 := ⟨_, rfl⟩
  have HF2 : Hid (FB w2 fb ⟨(X1 : Int), (X2 : Int), 0, 0, 0, 0, 0, 0#32⟩) := by show FB _ _ _; rw [← hw2]; exact HFx.out.s1 _
  have hgs : a1.grownBy w2 (some fb) := by rw [← hw2]; exact grown_cell (World.grownBy.refl _ _) _ _
  have HFr2 := hide ((HFr1.out.grown hg (fun e => HFB.out.2.1 (Option.some.inj e).symm)).grown hgs (fun e => HFB.out.2.2.1 (Option.some.inj e)))
  have HC2 := hide (hc.kept HFx.out hgs HFB.out.1)
  have HG2 : Hid (w.grownBy w2 (some g)) := grown_new (grown_trans HG1.out hg) hgs (fun j e => by cases e; exact HFB.out.2.2.2.1)
  simp only at t0 t1 t2 t3 t4 t5 t6 t7
  clear hg hc hgs
  go_wp2_with fail
  refine (num_st g s2 65535 _ HC2.out).mono ?_
  rintro e a2 ⟨rfl, hg, hc⟩
  rw [HS3.out] at hc ⊢
  simp only at hc ⊢
  have HFx := hide (HF2.out.grown hg (fun e => HFB.out.1 (Option.some.inj e).symm))
  obtain ⟨t0, t1, t2, t3, t4, t5, t6, t7⟩ := HFx.out.cells
  have tz := HFx.out.fz 2
  obtain ⟨w3, hw3⟩ : ∃ w3, a2.setCell ⟨fb, 2, none⟩ (.int .i64 (X3 : Int)) = w3 := ⟨_, rfl⟩
  have HF3 : Hid (FB w3 fb ⟨(X1 : Int), (X2 : Int), (X3 : Int), 0, 0, 0, 0, 0#32⟩) := by show FB _ _ _; rw [← hw3]; exact HFx.out.s2 _
  have hgs : a2.grownBy w3 (some fb) := by rw [← hw3]; exact grown_cell (World.grownBy.refl _ _) _ _
  have HFr3 := hide ((HFr2.out.grown hg (fun e => HFB.out.2.1 (Option.some.inj e).symm)).grown hgs (fun e => HFB.out.2.2.1 (Option.some.inj e)))
  have HC3 := hide (hc.kept HFx.out hgs HFB.out.1)
  have HG3 : Hid (w.grownBy w3 (some g)) := grown_new (grown_trans HG2.out hg) hgs (fun j e => by cases e; exact HFB.out.2.2.2.1)
  simp only at t0 t1 t2 t3 t4 t5 t6 t7
  clear hg hc hgs
  go_wp2_with fail
  refine (num_st g s3 16 _ HC3.out).mono ?_
  rintro e a3 ⟨rfl, hg, hc⟩
  rw [HS4.out] at hc ⊢
  simp only at hc ⊢
  have HFx := hide (HF3.out.grown hg (fun e => HFB.out.1 (Option.some.inj e).symm))
  obtain ⟨t0, t1, t2, t3, t4, t5, t6, t7⟩ := HFx.out.cells
  have tz := HFx.out.fz 3
  obtain ⟨w4, hw4⟩ : ∃ w4, a3.setCell ⟨fb, 3, none⟩ (.int .i64 (X4 : Int)) = w4 := ⟨_, rfl⟩
  have HF4 : Hid (FB w4 fb ⟨(X1 : Int), (X2 : Int), (X3 : Int), (X4 : Int), 0, 0, 0, 0#32⟩) := by show FB _ _ _; rw [← hw4]; exact HFx.out.s3 _
  have hgs : a3.grownBy w4 (some fb) := by rw [← hw4]; exact grown_cell (World.grownBy.refl _ _) _ _
  have HFr4 := hide ((HFr3.out.grown hg (fun e => HFB.out.2.1 (Option.some.inj e).symm)).grown hgs (fun e => HFB.out.2.2.1 (Option.some.inj e)))
  have HC4 := hide (hc.kept HFx.out hgs HFB.out.1)
  have HG4 : Hid (w.grownBy w4 (some g)) := grown_new (grown_trans HG3.out hg) hgs (fun j e => by cases e; exact HFB.out.2.2.2.1)
  simp only at t0 t1 t2 t3 t4 t5 t6 t7
  clear hg hc hgs
  go_wp2_with fail
  refine (fix_st g s4 1 _ HC4.out).mono ?_
  rintro e a4 ⟨rfl, hg, hc⟩
  rw [HS5.out] at hc ⊢
  simp only at hc ⊢
  have HFx := hide (HF4.out.grown hg (fun e => HFB.out.1 (Option.some.inj e).symm))
  obtain ⟨t0, t1, t2, t3, t4, t5, t6, t7⟩ := HFx.out.cells
  have tz := HFx.out.fz 4
  obtain ⟨w5, hw5⟩ : ∃ w5, a4.setCell ⟨fb, 4, none⟩ (.int .i64 (X5 : Int)) = w5 := ⟨_, rfl⟩
  have HF5 : Hid (FB w5 fb ⟨(X1 : Int), (X2 : Int), (X3 : Int), (X4 : Int), (X5 : Int), 0, 0, 0#32⟩) := by show FB _ _ _; rw [← hw5]; exact HFx.out.s4 _
  have hgs : a4.grownBy w5 (some fb) := by rw [← hw5]; exact grown_cell (World.grownBy.refl _ _) _ _
  have HFr5 := hide ((HFr4.out.grown hg (fun e => HFB.out.2.1 (Option.some.inj e).symm)).grown hgs (fun e => HFB.out.2.2.1 (Option.some.inj e)))
  have HC5 := hide (hc.kept HFx.out hgs HFB.out.1)
  have HG5 : Hid (w.grownBy w5 (some g)) := grown_new (grown_trans HG4.out hg) hgs (fun j e => by cases e; exact HFB.out.2.2.2.1)
  simp only at t0 t1 t2 t3 t4 t5 t6 t7
  clear hg hc hgs
  go_wp2_with fail
  refine (num_st g s5 65535 _ HC5.out).mono ?_
  rintro e a5 ⟨rfl, hg, hc⟩
  rw [HS6.out] at hc ⊢
  simp only at hc ⊢
  have HFx := hide (HF5.out.grown hg (fun e => HFB.out.1 (Option.some.inj e).symm))
  obtain ⟨t0, t1, t2, t3, t4, t5, t6, t7⟩ := HFx.out.cells
  have tz := HFx.out.fz 5
  obtain ⟨w6, hw6⟩ : ∃ w6, a5.setCell ⟨fb, 5, none⟩ (.int .i64 (X6 : Int)) = w6 := ⟨_, rfl⟩
  have HF6 : Hid (FB w6 fb ⟨(X1 : Int), (X2 : Int), (X3 : Int), (X4 : Int), (X5 : Int), (X6 : Int), 0, 0#32⟩) := by show FB _ _ _; rw [← hw6]; exact HFx.out.s5 _
  have hgs : a5.grownBy w6 (some fb) := by rw [← hw6]; exact grown_cell (World.grownBy.refl _ _) _ _
  have HFr6 := hide ((HFr5.out.grown hg (fun e => HFB.out.2.1 (Option.some.inj e).symm)).grown hgs (fun e => HFB.out.2.2.1 (Option.some.inj e)))
  have HC6 := hide (hc.kept HFx.out hgs HFB.out.1)
  have HG6 : Hid (w.grownBy w6 (some g)) := grown_new (grown_trans HG5.out hg) hgs (fun j e => by cases e; exact HFB.out.2.2.2.1)
  simp only at t0 t1 t2 t3 t4 t5 t6 t7
  clear hg hc hgs
  go_wp2_with fail
  refine (fix_st g s6 8 _ HC6.out).mono ?_
  rintro e a6 ⟨rfl, hg, hc⟩
  rw [HS7.out] at hc ⊢
  simp only at hc ⊢
  have HFx := hide (HF6.out.grown hg (fun e => HFB.out.1 (Option.some.inj e).symm))
  obtain ⟨t0, t1, t2, t3, t4, t5, t6, t7⟩ := HFx.out.cells
  have tz := HFx.out.fz 6
  obtain ⟨w7, hw7⟩ : ∃ w7, a6.setCell ⟨fb, 6, none⟩ (.int .i64 P) = w7 := ⟨_, rfl⟩
  have HF7 : Hid (FB w7 fb ⟨(X1 : Int), (X2 : Int), (X3 : Int), (X4 : Int), (X5 : Int), (X6 : Int), P, 0#32⟩) := by show FB _ _ _; rw [← hw7]; exact HFx.out.s6 _
  have hgs : a6.grownBy w7 (some fb) := by rw [← hw7]; exact grown_cell (World.grownBy.refl _ _) _ _
  have HFr7 := hide ((HFr6.out.grown hg (fun e => HFB.out.2.1 (Option.some.inj e).symm)).grown hgs (fun e => HFB.out.2.2.1 (Option.some.inj e)))
  have HC7 := hide (hc.kept HFx.out hgs HFB.out.1)
  have HG7 : Hid (w.grownBy w7 (some g)) := grown_new (grown_trans HG6.out hg) hgs (fun j e => by cases e; exact HFB.out.2.2.2.1)
  simp only at t0 t1 t2 t3 t4 t5 t6 t7
  clear hg hc hgs
  go_wp2_with fail
  refine (fix_st g s7 4 _ HC7.out).mono ?_
  rintro e a7 ⟨rfl, hg, hc⟩
  rw [HS8.out] at hc ⊢
  simp only at hc ⊢
  have HFx := hide (HF7.out.grown hg (fun e => HFB.out.1 (Option.some.inj e).symm))
  obtain ⟨t0, t1, t2, t3, t4, t5, t6, t7⟩ := HFx.out.cells
  have tz := HFx.out.fz 7
  have t7 : a7.cell? ⟨fb, 7, none⟩ = some (.int .u32 0) := t7
  obtain ⟨w8, hw8⟩ : ∃ w8, a7.setCell ⟨fb, 7, none⟩ (.int .u32 (Q.toNat : Int)) = w8 := ⟨_, rfl⟩
  have HF8 : Hid (FB w8 fb ⟨(X1 : Int), (X2 : Int), (X3 : Int), (X4 : Int), (X5 : Int), (X6 : Int), P, Q⟩) := by show FB _ _ _; rw [← hw8]; exact HFx.out.s7 _
  have hgs : a7.grownBy w8 (some fb) := by rw [← hw8]; exact grown_cell (World.grownBy.refl _ _) _ _
  have HFr8 := hide ((HFr7.out.grown hg (fun e => HFB.out.2.1 (Option.some.inj e).symm)).grown hgs (fun e => HFB.out.2.2.1 (Option.some.inj e)))
  have HC8 := hide (hc.kept HFx.out hgs HFB.out.1)
  have HG8 : Hid (w.grownBy w8 (some g)) := grown_new (grown_trans HG7.out hg) hgs (fun j e => by cases e; exact HFB.out.2.2.2.1)
  simp only at t0 t1 t2 t3 t4 t5 t6 t7
  clear hg hc hgs
  clear t0 t1 t2 t3 t4 t5 t6 t7
  obtain ⟨t0, t1, t2, t3, t4, t5, t6, t7⟩ := HF8.out.cells
  obtain ⟨r0, r1, r2, r3, r4, r5, r6, r7⟩ := HFr8.out.cells
  have rz0 := HFr8.out.fz 0
  have rz1 := HFr8.out.fz 1
  have rz2 := HFr8.out.fz 2
  have rz3 := HFr8.out.fz 3
  have rz4 := HFr8.out.fz 4
  have rz5 := HFr8.out.fz 5
  have rz6 := HFr8.out.fz 6
  have rz7 := HFr8.out.fz 7
  simp only at t0 t1 t2 t3 t4 t5 t6 t7 r0 r1 r2 r3 r4 r5 r6 r7
  obtain ⟨w9, hw9⟩ : ∃ w9, (((((((w8.setCell ⟨rb, 0, none⟩ (.int .i64 (X1 : Int))).setCell ⟨rb, 1, none⟩ (.int .i64 (X2 : Int))).setCell ⟨rb, 2, none⟩ (.int .i64 (X3 : Int))).setCell ⟨rb, 3, none⟩ (.int .i64 (X4 : Int))).setCell ⟨rb, 4, none⟩ (.int .i64 (X5 : Int))).setCell ⟨rb, 5, none⟩ (.int .i64 (X6 : Int))).setCell ⟨rb, 6, none⟩ (.int .i64 P)).setCell ⟨rb, 7, none⟩ (.int .u32 (Q.toNat : Int)) = w9 := ⟨_, rfl⟩
  have HF9 : Hid (FB w9 rb ⟨(X1 : Int), (X2 : Int), (X3 : Int), (X4 : Int), (X5 : Int), (X6 : Int), P, Q⟩) := by show FB _ _ _; rw [← hw9]; exact fb_copy (f' := ⟨(X1 : Int), (X2 : Int), (X3 : Int), (X4 : Int), (X5 : Int), (X6 : Int), P, Q⟩) HFr8.out
  have HG9 : Hid (w8.grownBy w9 (some rb)) := by
    show World.grownBy _ _ _
    rw [← hw9]
    exact grown_cell (grown_cell (grown_cell (grown_cell (grown_cell (grown_cell (grown_cell (grown_cell (World.grownBy.refl _ _) _ _) _ _) _ _) _ _) _ _) _ _) _ _) _ _
  go_wp2_with fail
  refine bodyPost_ret (v := Flt.val ⟨(X1 : Int), (X2 : Int), (X3 : Int), (X4 : Int), (X5 : Int), (X6 : Int), P, Q⟩) (fb_ret rfl _ _ rb _ rfl HF9.out) rfl ⟨by rw [HNX.out], grown_new HG8.out HG9.out (fun j e => by cases e; exact HFB.out.2.2.2.2), ?_⟩
  rw [HNX.out]
  exact HC8.out.kept HFr8.out HG9.out HFB.out.2.1
end Go.Proofs.Ytbmbhcjocgbbpab.Fa
