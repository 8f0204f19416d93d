/-
  head: two little sources are merged.
-/
import Derived.Test.YtoobgocnooeojaaMeRunC
namespace Go.Proofs.Ytoobgocnooeojaa.Me
open Go.ChangeShapes Go.WideShapes Go.ChangeAt Go.RowKit
open Go.Proofs.Ytoobgocnooeojaa.Base
set_option linter.unusedVariables false
theorem Best.uniq {B : Nat → Fd} {n : Nat} {pos : Nat → Nat} {v u : Nat} (h : Best B n pos v) (k : Best B n pos u) : v = u := by
  have h1 := h.2.2 u k.1 k.2.1
  have h2 := k.2.2 v h.1 h.2.1
  omega
theorem Run.uniq {B : Nat → Fd} {n : Nat} {pos : Nat → Nat} {L L' : List Th} {e e' : Int} (h : Run B n pos L e) : Run B n pos L' e' → L = L' ∧ e = e' := by
  induction h using Run.ind generalizing L' e' with
  | stop pos hs =>
    intro k
    rcases k.inv with ⟨h1, h2, _⟩ | ⟨v, hb, _⟩ | ⟨v, _, hb, _⟩
    · exact ⟨h1.symm, h2.symm⟩
    · have := hs v hb.1; have := hb.2.1; omega
    · have := hs v hb.1; have := hb.2.1; omega
  | err pos v hb hc =>
    intro k
    rcases k.inv with ⟨_, _, hs⟩ | ⟨u, hb', _, h1, h2⟩ | ⟨u, _, hb', hc', _⟩
    · have := hs v hb.1; have := hb.2.1; omega
    · obtain rfl := hb.uniq hb'; exact ⟨h1.symm, h2.symm⟩
    · obtain rfl := hb.uniq hb'; exact absurd hc' hc
  | more pos v L e hb hc _ ih =>
    intro k
    rcases k.inv with ⟨_, _, hs⟩ | ⟨u, hb', hc', _⟩ | ⟨u, L1, hb', hc', h', h1⟩
    · have := hs v hb.1; have := hb.2.1; omega
    · obtain rfl := hb.uniq hb'; exact absurd hc hc'
    · obtain rfl := hb.uniq hb'
      obtain ⟨rfl, rfl⟩ := ih h'
      exact ⟨h1.symm, rfl⟩
/-- The two little sources. -/
def hB (a b : Option Addr) : Nat → Fd := fun j => if j = 0 then ⟨a, 2, [⟨1, 1⟩, ⟨4, 2⟩], 0, 0, 0, false, false⟩ else if j = 1 then ⟨b, 2, [⟨1, 3⟩, ⟨2, 4⟩], 0, 0, 0, false, false⟩ else src0.fd
def hpos (x y : Nat) : Nat → Nat := fun j => if j = 0 then x else if j = 1 then y else 0
theorem up_hpos0 (x y : Nat) : upP (hpos x y) 0 = hpos (x + 1) y := by funext j; unfold upP hpos; by_cases e : j = 0 <;> simp [e]
theorem up_hpos1 (x y : Nat) : upP (hpos x y) 1 = hpos x (y + 1) := by
  funext j
  unfold upP hpos
  by_cases e : j = 0
  · subst e; simp
  · by_cases e1 : j = 1
    · subst e1; simp
    · simp [e, e1]
theorem two_cases {P : Nat → Prop} (h0 : P 0) (h1 : P 1) : ∀ j, j < 2 → P j := fun j hj => by
  match j, hj with
  | 0, _ => exact h0
  | 1, _ => exact h1
theorem head_run (a b : Option Addr) : Run (hB a b) 2 (hpos 0 0) [⟨1, 1⟩, ⟨1, 3⟩, ⟨2, 4⟩, ⟨4, 2⟩] 0 := by
  refine .more (hpos 0 0) 0 _ _ ⟨by omega, (by show (0 : Nat) < 2; omega), two_cases (fun _ => .inr ⟨rfl, Nat.le_refl _⟩) (fun _ => .inr ⟨rfl, by omega⟩)⟩ rfl ?_
  rw [up_hpos0]
  refine .more (hpos 1 0) 1 _ _ ⟨by omega, (by show (0 : Nat) < 2; omega), two_cases (fun _ => .inl (by show (1 : Int) < 4; omega)) (fun _ => .inr ⟨rfl, Nat.le_refl _⟩)⟩ rfl ?_
  rw [up_hpos1]
  refine .more (hpos 1 1) 1 _ _ ⟨by omega, (by show (1 : Nat) < 2; omega), two_cases (fun _ => .inl (by show (2 : Int) < 4; omega)) (fun _ => .inr ⟨rfl, Nat.le_refl _⟩)⟩ rfl ?_
  rw [up_hpos1]
  refine .more (hpos 1 2) 0 _ _ ⟨by omega, (by show (1 : Nat) < 2; omega), two_cases (fun _ => .inr ⟨rfl, Nat.le_refl _⟩) (fun h => absurd h (by show ¬ (2 : Nat) < 2; omega))⟩ rfl ?_
  rw [up_hpos0]
  exact .stop _ (two_cases rfl rfl)
theorem pos0_h : pos0 = hpos 0 0 := by funext j; unfold pos0 hpos; by_cases e : j = 0 <;> simp [e]
theorem head_runs {a b : Option Addr} {L : List Th} {e : Int} (h : Runs (hB a b) 2 L e) : L = [⟨1, 1⟩, ⟨1, 3⟩, ⟨2, 4⟩, ⟨4, 2⟩] ∧ e = 0 := by
  rcases h with ⟨m, h1, h2, _⟩ | ⟨_, h⟩
  · match m, h1, h2 with
    | 0, _, h2 => cases h2
    | 1, _, h2 => cases h2
  · rw [pos0_h] at h
    exact h.uniq (head_run a b)
/-- Blocks that lie one behind the other. -/
theorem five_new (w : World) (a b c d e : Obj) : ∃ w5, ((((w.alloc a).alloc b).alloc c).alloc d).alloc e = w5 ∧ Below w.heap.size w w5 ∧ w5.heap.size = w.heap.size + 5 ∧ w5.heap[w.heap.size]? = some a ∧ w5.heap[w.heap.size + 1 + 1]? = some c ∧ w5.heap[w.heap.size + 1 + 1 + 1 + 1]? = some e := by
  have e1 : ∀ (V : World) (o : Obj), (V.alloc o).heap.size = V.heap.size + 1 := fun V o => by simp
  have b1 : ∀ (V : World) (o : Obj), Below V.heap.size V (V.alloc o) := fun V o => (Below.refl _ _).alloc (Nat.le_refl _) _
  have z1 := e1 w a
  have z2 := e1 (w.alloc a) b
  have z3 := e1 ((w.alloc a).alloc b) c
  have z4 := e1 (((w.alloc a).alloc b).alloc c) d
  have z5 := e1 ((((w.alloc a).alloc b).alloc c).alloc d) e
  have q1 := b1 w a
  have q2 := b1 (w.alloc a) b
  have q3 := b1 ((w.alloc a).alloc b) c
  have q4 := b1 (((w.alloc a).alloc b).alloc c) d
  have q5 := b1 ((((w.alloc a).alloc b).alloc c).alloc d) e
  refine ⟨_, rfl, below_trans (below_trans (below_trans (below_trans q1 q2) q3) q4) q5, by omega, ?_, ?_, ?_⟩
  · exact (q5.block _ (by omega)).trans ((q4.block _ (by omega)).trans ((q3.block _ (by omega)).trans ((q2.block _ (by omega)).trans (heap_alloc_new _ _))))
  · have h := heap_alloc_new ((w.alloc a).alloc b) c
    rw [z2, z1] at h
    exact (q5.block _ (by omega)).trans ((q4.block _ (by omega)).trans h)
  · have h := heap_alloc_new ((((w.alloc a).alloc b).alloc c).alloc d) e
    rw [z4, z3, z2, z1] at h
    exact h
theorem four_of {w : World} {g : Nat} {v0 v1 v2 v3 : Value} {ty : Nat} (h : w.heap[g]? = some (.cells #[v0, v1, v2, v3] ty)) : w.cell? ⟨g, 0, none⟩ = some v0 ∧ w.cell? ⟨g, 1, none⟩ = some v1 ∧ w.cell? ⟨g, 2, none⟩ = some v2 ∧ w.cell? ⟨g, 3, none⟩ = some v3 := by
  refine ⟨?_, ?_, ?_, ?_⟩ <;> (rw [cell_of_row _ _ _ _ _ _ h]; rfl)
def hss (x y : Nat) : List Src := [⟨some ⟨x, 0, none⟩, 2, [⟨1, 1⟩, ⟨4, 2⟩], 0⟩, ⟨some ⟨y, 0, none⟩, 2, [⟨1, 3⟩, ⟨2, 4⟩], 0⟩]
theorem hss_fd (x y : Nat) : (fun j => ((hss x y).getD j src0).fd) = hB (some ⟨x, 0, none⟩) (some ⟨y, 0, none⟩) := by
  funext j
  match j with
  | 0 => rfl
  | 1 => rfl
  | j + 2 => rfl
theorem own_four {w : World} {base : Nat} {v : Value} (h : OwnT w base v [⟨1, 1⟩, ⟨1, 3⟩, ⟨2, 4⟩, ⟨4, 2⟩]) : ∃ g cap, v = .slice (some ⟨g, 0, none⟩) 4 cap ∧ w.cell? ⟨g, 1, none⟩ = some (.int .i64 1) ∧ w.cell? ⟨g, 3, none⟩ = some (.int .i64 3) ∧ w.cell? ⟨g, 5, none⟩ = some (.int .i64 4) ∧ w.cell? ⟨g, 7, none⟩ = some (.int .i64 2) := by
  rcases h.2 with ⟨h1, h2⟩ | ⟨g, cap, cur, h1, h2, h3, h4, h5, h6, h7⟩
  · cases h2
  · have e : ∀ j u, (thv [⟨1, 1⟩, ⟨1, 3⟩, ⟨2, 4⟩, ⟨4, 2⟩])[j]? = some u → j < 8 → w.cell? ⟨g, j, none⟩ = some u := fun j u hu hj => by
      rw [← h7, List.getElem?_take_of_lt (by show j < 8; exact hj), Array.getElem?_toList] at hu
      rw [cell_of_row _ _ _ _ _ _ h3]
      exact hu
    exact ⟨g, cap, h1, e 1 _ rfl (by omega), e 3 _ rfl (by omega), e 5 _ rfl (by omega), e 7 _ rfl (by omega)⟩
set_option maxHeartbeats 4000000 in
set_option maxRecDepth 100000 in
theorem head_any (w : World) : Calls Try.prog 16 #[] w fun e w' => e = .returned (.bool true) ∧ Below w.heap.size w w' := by
  obtain ⟨w5, hw5, hb5, hz5, h0, h2, h4⟩ := five_new w (.cells #[.int .i64 1, .int .i64 1, .int .i64 4, .int .i64 2] 36) (.cells #[.slice (some ⟨w.heap.size, 0, none⟩) 2 2, .int .i64 0] 49) (.cells #[.int .i64 1, .int .i64 3, .int .i64 2, .int .i64 4] 36) (.cells #[.slice (some ⟨w.heap.size + 1 + 1, 0, none⟩) 2 2, .int .i64 0] 49) (.cells #[.slice (some ⟨w.heap.size, 0, none⟩) 2 2, .int .i64 0, .slice (some ⟨w.heap.size + 1 + 1, 0, none⟩) 2 2, .int .i64 0] 49)
  have HRQ : RdQ w5 (some ⟨w.heap.size + 1 + 1 + 1 + 1, 0, none⟩) (hss w.heap.size (w.heap.size + 1 + 1)) := fun _ => by
    obtain ⟨c0, c1, c2, c3⟩ := four_of h4
    exact ⟨_, 0, rfl, lt_row h4, two_cases ⟨c0, c1⟩ ⟨c2, c3⟩⟩
  have HFE : Hid (Calls Try.prog 9 #[.slice (some ⟨w.heap.size + 1 + 1 + 1 + 1, 0, none⟩) 2 2] w5 fun e w' => ∃ v gs, e = .returned v ∧ gs.length = 2 ∧ Row w' w5.heap.size v gs (hB (some ⟨w.heap.size, 0, none⟩) (some ⟨w.heap.size + 1 + 1, 0, none⟩)) ∧ Below w5.heap.size w5 w') := by
    have q := feeds_any (some ⟨w.heap.size + 1 + 1 + 1 + 1, 0, none⟩) 2 (hss w.heap.size (w.heap.size + 1 + 1)) w5 HRQ (by show (2 + 1) * 8 ≤ _; omega)
    rw [hss_fd] at q
    exact q
  have HFED : Hid (∀ (V : World) (v : Value) (gs : List Nat), gs.length = 2 → Row V w5.heap.size v gs (hB (some ⟨w.heap.size, 0, none⟩) (some ⟨w.heap.size + 1 + 1, 0, none⟩)) → Below w5.heap.size w5 V → ∃ al cl, v = .slice al 2 cl ∧ Calls Try.prog 17 #[.slice al 2 cl] V fun e w' => ∃ v, e = .returned (.tuple #[v, .int .i64 0, .bool true]) ∧ OwnT w' V.heap.size v [⟨1, 1⟩, ⟨1, 3⟩, ⟨2, 4⟩, ⟨4, 2⟩] ∧ Below w5.heap.size V w') := fun V v gs hg hr hb => by
    obtain ⟨al, cl, hv⟩ : ∃ al cl, v = .slice al gs.length cl := by
      rcases hr.row.2 with ⟨q1, q2⟩ | ⟨g, cap, cur, q1, _⟩
      · exact ⟨none, 0, by rw [q1, q2]⟩
      · exact ⟨_, _, q1⟩
    refine ⟨al, cl, by rw [hv, hg], ?_⟩
    rw [hv] at hr
    have hfed : Fed V w5.heap.size (.slice al gs.length cl) gs (hB (some ⟨w.heap.size, 0, none⟩) (some ⟨w.heap.size + 1 + 1, 0, none⟩)) := by
      refine ⟨hr, ?_, ?_, ?_, ?_⟩
      · rw [hg]
        refine two_cases (fun _ => ?_) (fun _ => ?_)
        · obtain ⟨c0, c1, c2, c3⟩ := four_of ((hb.block _ (by omega)).trans h0)
          exact ⟨_, 0, rfl, (by have := hb.size; omega), two_cases ⟨c0, c1⟩ ⟨c2, c3⟩⟩
        · obtain ⟨c0, c1, c2, c3⟩ := four_of ((hb.block _ (by omega)).trans h2)
          exact ⟨_, 0, rfl, (by have := hb.size; omega), two_cases ⟨c0, c1⟩ ⟨c2, c3⟩⟩
      · rw [hg]
        refine two_cases (fun b off e _ => ?_) (fun b off e _ => ?_)
        · have e2 := Option.some.inj e; injection e2 with e3; omega
        · have e2 := Option.some.inj e; injection e2 with e3; omega
      · rw [hg]; exact two_cases ⟨rfl, rfl, rfl, rfl⟩ ⟨rfl, rfl, rfl, rfl⟩
      · rw [hg]; exact two_cases (by show 2 + 2 ≤ _; omega) (by show 2 + 2 ≤ _; omega)
    have q := run_any al cl w5.heap.size gs _ V hfed hb.size (by omega) (by rw [hg]; show (0 + 2 + 2 + 1) * 16 ≤ _; omega)
    rw [hg] at q
    refine q.mono ?_
    rintro e w' ⟨v, L, x, rfl, hru, how, hbw⟩
    obtain ⟨rfl, rfl⟩ := head_runs hru
    exact ⟨v, rfl, how, hbw⟩
  have HB5 := hide hb5
  clear HRQ hb5 hz5 h0 h2 h4
  go_enter Try.func16, Try.ntmps16
  go_wp2_with (first
    | (go_at_call 9; refine HFE.out.mono ?_; rintro e w6 ⟨v6, gs6, rfl, hg6, hr6, hb6⟩; obtain ⟨al6, cl6, rfl, hrun⟩ := HFED.out w6 v6 gs6 hg6 hr6 hb6; have HRUN := hide hrun; have HB6 := hide hb6; clear hg6 hr6 hb6 hrun)
    | (go_at_call 17; refine HRUN.out.mono ?_; rintro e w7 ⟨v7, rfl, how, hbw⟩; obtain ⟨g7, c7, rfl, k1, k3, k5, k7⟩ := own_four how; have HB7 := hide hbw; clear how hbw))
  go_ret
  have hb6 := HB6.out
  have hb7 := HB7.out
  have hb5 := HB5.out
  refine ⟨rfl, ?_⟩
  exact ⟨hb7.os.trans (hb6.os.trans hb5.os), hb7.tape.trans (hb6.tape.trans hb5.tape), hb7.output.trans (hb6.output.trans hb5.output), Nat.le_trans hb5.size (Nat.le_trans hb6.size hb7.size), fun k hk => (hb7.block k (by have := hb5.size; omega)).trans ((hb6.block k (by have := hb5.size; omega)).trans (hb5.block k hk))⟩
end Go.Proofs.Ytoobgocnooeojaa.Me
