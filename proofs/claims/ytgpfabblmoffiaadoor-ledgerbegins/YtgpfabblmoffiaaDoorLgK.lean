/-
  Which blocks have turned; lists of states of the call's own; states compared, lists compared, books compared.
-/
import Derived.Test.YtgpfabblmoffiaaDoorLgC
import Derived.Test.YtgpfabblmoffiaaDoorRowF3
namespace Go.Proofs.YtgpfabblmoffiaaDoor.Lg
open Go.ChangeShapes Go.WideShapes Go.ChangeAt Go.RowKit
open Go.Proofs.YtgpfabblmoffiaaDoor.Base Go.Proofs.YtgpfabblmoffiaaDoor.Rf
set_option linter.unusedVariables false
/-- Of what was there nothing has turned but blocks that S takes. -/
structure Kp (S : Nat → Prop) (w w' : World) : Prop where
  os : w'.os = w.os
  tape : w'.tape = w.tape
  output : w'.output = w.output
  size : w.heap.size ≤ w'.heap.size
  block : ∀ i, i < w.heap.size → ¬ S i → w'.heap[i]? = w.heap[i]?
theorem Kp.refl (S : Nat → Prop) (w : World) : Kp S w w := ⟨rfl, rfl, rfl, Nat.le_refl _, fun _ _ _ => rfl⟩
theorem Kp.trans {S S' : Nat → Prop} {w w1 w2 : World} (h : Kp S w w1) (k : Kp S' w1 w2) (hs : ∀ i, S' i → i < w.heap.size → S i) : Kp S w w2 :=
  ⟨k.os.trans h.os, k.tape.trans h.tape, k.output.trans h.output, Nat.le_trans h.size k.size, fun i hi hn => (k.block i (Nat.lt_of_lt_of_le hi h.size) (fun e => hn (hs i e hi))).trans (h.block i hi hn)⟩
theorem Kp.mono {S S' : Nat → Prop} {w w' : World} (h : Kp S w w') (hs : ∀ i, S i → i < w.heap.size → S' i) : Kp S' w w' :=
  ⟨h.os, h.tape, h.output, h.size, fun i hi hn => h.block i hi (fun e => hn (hs i e hi))⟩
theorem Kp.of_below {S : Nat → Prop} {w w' : World} (h : Below w.heap.size w w') : Kp S w w' := ⟨h.os, h.tape, h.output, h.size, fun i hi _ => h.block i hi⟩
theorem Kp.below {S : Nat → Prop} {B : Nat} {w0 w w' : World} (hb : Below B w0 w) (h : Kp S w w') (hS : ∀ i, S i → B ≤ i) (hB : B ≤ w.heap.size) : Below B w0 w' :=
  ⟨h.os.trans hb.os, h.tape.trans hb.tape, h.output.trans hb.output, Nat.le_trans hb.size h.size, fun i hi => (h.block i (by omega) (fun e => by have := hS i e; omega)).trans (hb.block i hi)⟩
theorem Kp.add {S : Nat → Prop} {w w1 w2 : World} (h : Kp S w w1) (k : Below w1.heap.size w1 w2) : Kp S w w2 := h.trans (S' := fun _ => False) (Kp.of_below k) (fun _ e => e.elim)
theorem Kp.pre {S : Nat → Prop} {w w1 w2 : World} (k : Below w.heap.size w w1) (h : Kp S w1 w2) : Kp S w w2 := (Kp.of_below k).trans h (fun _ e _ => e)
theorem Kp.of_grown {w w' : World} {r : Option Nat} (g : w.grownBy w' r) : Kp (fun i => r = some i) w w' :=
  ⟨g.os, g.tape, g.output, g.size, fun i hi hn => g.block i hi (fun e => hn e.symm)⟩
/-- The slice's block is not one that S takes. -/
def Off (S : Nat → Prop) (v : Value) : Prop := ∀ i, v.ownBlock = some i → ¬ S i
theorem OwnF.kp {w w' : World} {base t z : Nat} {v : Value} {n : Nat} {f : Nat → List Value} {S : Nat → Prop} (h : OwnF w base t z v n f) (k : Kp S w w') (hS : Off S v) : OwnF w' base t z v n f := by
  have hlt := h.lt
  obtain ⟨h1, h2⟩ := h
  refine ⟨h1, ?_⟩
  rcases h2 with h2 | ⟨g, cap, cur, e1, e2, e3, e4⟩
  · exact .inl h2
  · have hb : v.ownBlock = some g := by rw [e1]; rfl
    exact .inr ⟨g, cap, cur, e1, e2, (k.block g (hlt g hb).2 (hS g hb)).trans e3, e4⟩
/-- A list of states of the call's own. -/
def OwnT (w : World) (base : Nat) (v : Value) (L : List TS) : Prop := OwnF w base 43 3 v L.length (tf L)
theorem OwnT.below {w w' : World} {base : Nat} {v : Value} {L : List TS} (h : OwnT w base v L) (hb : Below w.heap.size w w') : OwnT w' base v L := OwnF.below h hb
theorem OwnT.mono {w : World} {base base' : Nat} {v : Value} {L : List TS} (h : OwnT w base v L) (hb : base' ≤ base) : OwnT w base' v L := OwnF.mono h hb
theorem OwnT.kp {w w' : World} {base : Nat} {v : Value} {L : List TS} {S : Nat → Prop} (h : OwnT w base v L) (k : Kp S w w') (hS : Off S v) : OwnT w' base v L := OwnF.kp h k hS
theorem ownt_none (w : World) (base : Nat) : OwnT w base (.slice none 0 0) [] := ownf_none _ _ _ _ _
theorem OwnT.rdt {w : World} {base n c : Nat} {a : Option Addr} {L : List TS} (h : OwnT w base (.slice a n c) L) (hl : L.length ≤ 4611686018427387904) : RdT w a L.length L := ⟨rfl, hl, OwnF.rdf h (tf_len L)⟩
theorem OwnT.shape {w : World} {base : Nat} {v : Value} {L : List TS} (h : OwnT w base v L) : ∃ a c, v = .slice a L.length c ∧ L.length ≤ c ∧ (a = none → L.length = 0 ∧ c = 0) ∧ (∀ ad, a = some ad → ad.off = 0 ∧ ad.spot = none ∧ base ≤ ad.block ∧ ad.block < w.heap.size) := OwnF.shape h
/-- A reading list, kept where its block has not turned. -/
theorem RdT.kp {w w' : World} {a : Option Addr} {n c : Nat} {L : List TS} {S : Nat → Prop} (h : RdT w a n L) (k : Kp S w w') (hS : Off S (.slice a n c)) : RdT w' a n L := by
  refine ⟨h.1, h.2.1, fun hp => ?_⟩
  obtain ⟨b, off, rfl, hlt, hc⟩ := h.2.2 hp
  have hbl : w'.heap[b]? = w.heap[b]? := k.block b hlt (hS b rfl)
  refine ⟨b, off, rfl, Nat.lt_of_lt_of_le hlt k.size, fun i j u hi hu hj => ?_⟩
  rw [← hc i j u hi hu hj]
  unfold World.cell?
  rw [hbl]
/-- Are two states unlike? -/
def nq (x y : TS) : Bool := !(x.s == y.s && (x.a == y.a && x.c == y.c))
theorem nq_iff {x y : TS} : nq x y = false ↔ x = y := by
  unfold nq
  constructor
  · intro h
    simp only [Bool.not_eq_false', Bool.and_eq_true, beq_iff_eq] at h
    exact ts_ext h.1 h.2.1 h.2.2
  · rintro rfl; simp
theorem neq_run (x y : TS) (W : World) : (binOp .neq 43 (.agg #[.int .i64 x.s, .int .i64 x.a, .int .i64 x.c]) (.agg #[.int .i64 y.s, .int .i64 y.a, .int .i64 y.c])).run Tryd.prog W = .ok (.bool (nq x y)) W := by
  unfold nq
  by_cases h1 : x.s = y.s
  · by_cases h2 : x.a = y.a
    · by_cases h3 : x.c = y.c
      · simp [h1, h2, h3, go_sem]
      · simp [h1, h2, h3, go_sem]
    · simp [h1, h2, go_sem]
  · simp [h1, go_sem]
set_option maxHeartbeats 2000000 in
set_option maxRecDepth 100000 in
theorem sameStates_eq (L : List TS) (n : Nat) (a b : Option Addr) (ca cb : Nat) (w : World) (ha : RdT w a n L) (hb : RdT w b n L) :
    Calls Tryd.prog 57 #[.slice a n ca, .slice b n cb] w fun e w' => e = .returned (.bool true) ∧ Below w.heap.size w w' := by
  have hn := ha.2.1
  have HA := hide ha
  have HB := hide hb
  clear ha hb
  go_enter Tryd.func57, Tryd.ntmps57
  go_wp2_with fail
  go_loopw [5] (fun i wr => ∃ k : Nat, k ≤ n ∧ i = .int .i64 (k : Int) ∧ Hid (Below w.heap.size w wr)) (fun i _ => n - (intOf i).toNat)
  case atStart => exact ⟨0, Nat.zero_le _, rfl, Below.refl _ _⟩
  case round =>
    obtain ⟨k, hk, rfl, HW⟩ := hrel
    by_cases hlt : k < n
    · have hki : (k : Int) < (n : Int) := by omega
      obtain ⟨b1, o1, rfl, hl1, e1, e2, e3⟩ := (HA.out.below HW.out).at k hlt
      obtain ⟨b2, o2, rfl, hl2, f1, f2, f3⟩ := (HB.out.below HW.out).at k hlt
      generalize L.getD k z0 = x at e1 e2 e3 f1 f2 f3
      have hq := neq_run x x
      rw [nq_iff.2 rfl] at hq
      go_wp2_with fail
      go_region
      all_goals
        go_wp2_with fail
        go_roundw
        case rel => exact ⟨k + 1, hlt, by go_num, by first | exact below_trans HW.out (below_drewN' _ _ _) | exact below_trans HW.out ((Below.refl _ _).drew)⟩
        case measure => simp [intOf]; omega
    · obtain rfl : n = k := by omega
      go_wp2_with fail
      go_ret
      exact ⟨rfl, HW.out⟩
set_option maxHeartbeats 1000000 in
theorem same_eq (M R : List TS) (t : Int) (f : Bool) (a1 a2 b1 b2 : Option Addr) (n1 n2 c1 c2 d1 d2 : Nat) (w : World) (h1 : RdT w a1 n1 M) (h2 : RdT w a2 n2 R) (h3 : RdT w b1 n1 M) (h4 : RdT w b2 n2 R) :
    Calls Tryd.prog 30 #[.agg #[.int .i64 t, .slice a1 n1 c1, .slice a2 n2 c2, .bool f], .agg #[.int .i64 t, .slice b1 n1 d1, .slice b2 n2 d2, .bool f]] w fun e w' => e = .returned (.bool true) ∧ Below w.heap.size w w' := by
  obtain ⟨w1, hw1⟩ : ∃ w1, w.alloc (.cells #[.int .i64 t, .slice a1 n1 c1, .slice a2 n2 c2, .bool f] 26) = w1 := ⟨_, rfl⟩
  have HB1 : Hid (Below w.heap.size w w1) := by rw [← hw1]; exact (Below.refl _ _).alloc (Nat.le_refl _) _
  have HC1 : Hid (BC w1 w.heap.size t (.slice a1 n1 c1) (.slice a2 n2 c2) f) := by rw [← hw1]; exact bc_new _ _ _ _ _
  obtain ⟨w2, hw2⟩ : ∃ w2, w1.alloc (.cells #[.int .i64 t, .slice b1 n1 d1, .slice b2 n2 d2, .bool f] 26) = w2 := ⟨_, rfl⟩
  have hb2 : Below w1.heap.size w1 w2 := by rw [← hw2]; exact (Below.refl _ _).alloc (Nat.le_refl _) _
  have HB2 : Hid (Below w.heap.size w w2) := below_trans HB1.out hb2
  have HC2 : Hid (BC w2 w1.heap.size t (.slice b1 n1 d1) (.slice b2 n2 d2) f) := by rw [← hw2]; exact bc_new _ _ _ _ _
  have HC1 := hide (HC1.out.below hb2)
  clear hb2
  have HR1 := hide (h1.below HB2.out)
  have HR2 := hide (h2.below HB2.out)
  have HR3 := hide (h3.below HB2.out)
  have HR4 := hide (h4.below HB2.out)
  clear h1 h2 h3 h4
  obtain ⟨g, hg⟩ : ∃ g, w.heap.size = g := ⟨_, rfl⟩
  rw [hg] at HC1
  have HG := hide hg
  obtain ⟨q, hq⟩ : ∃ q, w1.heap.size = q := ⟨_, rfl⟩
  rw [hq] at HC2
  have x0 := HC1.out.c0
  have x1 := HC1.out.c1
  have x2 := HC1.out.c2
  have x3 := HC1.out.c3
  have y0 := HC2.out.c0
  have y1 := HC2.out.c1
  have y2 := HC2.out.c2
  have y3 := HC2.out.c3
  have hff : (f == f) = true := by simp
  go_enter Tryd.func30, Tryd.ntmps30
  go_wp2_with (first
    | (refine (sameStates_eq M n1 a1 b1 c1 d1 _ HR1.out HR3.out).mono ?_; clear HR1 HR3 hw1 hw2 hq hg x0 x1 x2 x3 y0 y1 y2 y3; rintro e w3 ⟨rfl, hb⟩; have HB3 := hide (below_trans HB2.out hb); have HC13 := hide (HC1.out.below hb); have HC23 := hide (HC2.out.below hb); have HR23 := hide (HR2.out.below hb); have HR43 := hide (HR4.out.below hb); clear hb; have x2 := HC13.out.c2; have y2 := HC23.out.c2)
    | (refine (sameStates_eq R n2 a2 b2 c2 d2 _ HR23.out HR43.out).mono ?_; clear x2 y2; rintro e w4 ⟨rfl, hb⟩; have HB4 := hide (below_trans HB3.out hb); clear hb))
  go_ret
  exact ⟨rfl, HB4.out⟩
end Go.Proofs.YtgpfabblmoffiaaDoor.Lg
