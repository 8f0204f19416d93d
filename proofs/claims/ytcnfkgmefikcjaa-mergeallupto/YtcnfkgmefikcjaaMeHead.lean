/-
  head: two little sources are merged.
-/
import Derived.Test.YtcnfkgmefikcjaaMeRunC
namespace Go.Proofs.Ytcnfkgmefikcjaa.Me
open Go.ChangeShapes Go.WideShapes Go.ChangeAt Go.RowKit
open Go.Proofs.Ytcnfkgmefikcjaa.Base
set_option linter.unusedVariables false
theorem Best.uniq {B : Nat → Fd} {n : Nat} {pos : Nat → Nat} {v u : Nat} (h : Best B n pos v) (k : Best B n pos u) : v = u := by
  have h1 := h.2.2 u k.1 k.2.1
  have h2 := k.2.2 v h.1 h.2.1
  omega
theorem Run.uniq {B : Nat → Fd} {n : Nat} {pos : Nat → Nat} {L L' : List Th} {e e' : Int} (h : Run B n pos L e) : Run B n pos L' e' → L = L' ∧ e = e' := by
  induction h using Run.ind generalizing L' e' with
  | stop pos hs =>
    intro k
    rcases k.inv with ⟨h1, h2, _⟩ | ⟨v, hb, _⟩ | ⟨v, _, hb, _⟩
    · exact ⟨h1.symm, h2.symm⟩
    · have := hs v hb.1; have := hb.2.1; omega
    · have := hs v hb.1; have := hb.2.1; omega
  | err pos v hb hc =>
    intro k
    rcases k.inv with ⟨_, _, hs⟩ | ⟨u, hb', _, h1, h2⟩ | ⟨u, _, hb', hc', _⟩
    · have := hs v hb.1; have := hb.2.1; omega
    · obtain rfl := hb.uniq hb'; exact ⟨h1.symm, h2.symm⟩
    · obtain rfl := hb.uniq hb'; exact absurd hc' hc
  | more pos v L e hb hc _ ih =>
    intro k
    rcases k.inv with ⟨_, _, hs⟩ | ⟨u, hb', hc', _⟩ | ⟨u, L1, hb', hc', h', h1⟩
    · have := hs v hb.1; have := hb.2.1; omega
    · obtain rfl := hb.uniq hb'; exact absurd hc hc'
    · obtain rfl := hb.uniq hb'
      obtain ⟨rfl, rfl⟩ := ih h'
      exact ⟨h1.symm, rfl⟩
/-- The two little sources. -/
def hB (a b : Option Addr) : Nat → Fd := fun j => if j = 0 then ⟨a, 2, [⟨1, 1⟩, ⟨4, 2⟩], 0, 0, 0, false, false⟩ else if j = 1 then ⟨b, 2, [⟨1, 3⟩, ⟨2, 4⟩], 0, 0, 0, false, false⟩ else src0.fd
def hpos (x y : Nat) : Nat → Nat := fun j => if j = 0 then x else if j = 1 then y else 0
theorem up_hpos0 (x y : Nat) : upP (hpos x y) 0 = hpos (x + 1) y := by funext j; unfold upP hpos; by_cases e : j = 0 <;> simp [e]
theorem up_hpos1 (x y : Nat) : upP (hpos x y) 1 = hpos x (y + 1) := by
  funext j
  unfold upP hpos
  by_cases e : j = 0
  · subst e; simp
  · by_cases e1 : j = 1
    · subst e1; simp
    · simp [e, e1]
theorem two_cases {P : Nat → Prop} (h0 : P 0) (h1 : P 1) : ∀ j, j < 2 → P j := fun j hj => by
  match j, hj with
  | 0, _ => exact h0
  | 1, _ => exact h1
theorem head_run (a b : Option Addr) : Run (hB a b) 2 (hpos 0 0) [⟨1, 1⟩, ⟨1, 3⟩, ⟨2, 4⟩, ⟨4, 2⟩] 0 := by
  refine .more (hpos 0 0) 0 _ _ ⟨by omega, (by show (0 : Nat) < 2; omega), two_cases (fun _ => .inr ⟨rfl, Nat.le_refl _⟩) (fun _ => .inr ⟨rfl, by omega⟩)⟩ rfl ?_
  rw [up_hpos0]
  refine .more (hpos 1 0) 1 _ _ ⟨by omega, (by show (0 : Nat) < 2; omega), two_cases (fun _ => .inl (by show (1 : Int) < 4; omega)) (fun _ => .inr ⟨rfl, Nat.le_refl _⟩)⟩ rfl ?_
  rw [up_hpos1]
  refine .more (hpos 1 1) 1 _ _ ⟨by omega, (by show (1 : Nat) < 2; omega), two_cases (fun _ => .inl (by show (2 : Int) < 4; omega)) (fun _ => .inr ⟨rfl, Nat.le_refl _⟩)⟩ rfl ?_
  rw [up_hpos1]
  refine .more (hpos 1 2) 0 _ _ ⟨by omega, (by show (1 : Nat) < 2; omega), two_cases (fun _ => .inr ⟨rfl, Nat.le_refl _⟩) (fun h => absurd h (by show ¬ (2 : Nat) < 2; omega))⟩ rfl ?_
  rw [up_hpos0]
  exact .stop _ (two_cases rfl rfl)
theorem pos0_h : pos0 = hpos 0 0 := by funext j; unfold pos0 hpos; by_cases e : j = 0 <;> simp [e]
theorem head_runs {a b : Option Addr} {L : List Th} {e : Int} (h : Runs (hB a b) 2 L e) : L = [⟨1, 1⟩, ⟨1, 3⟩, ⟨2, 4⟩, ⟨4, 2⟩] ∧ e = 0 := by
  rcases h with ⟨m, h1, h2, _⟩ | ⟨_, h⟩
  · match m, h1, h2 with
    | 0, _, h2 => cases h2
    | 1, _, h2 => cases h2
  · rw [pos0_h] at h
    exact h.uniq (head_run a b)
/-- Blocks that lie one behind the other. -/
theorem five_new (w : World) (a b c d e : Obj) : ∃ w5, ((((w.alloc a).alloc b).alloc c).alloc d).alloc e = w5 ∧ Below w.heap.size w w5 ∧ w5.heap.size = w.heap.size + 5 ∧ w5.heap[w.heap.size]? = some a ∧ w5.heap[w.heap.size + 1 + 1]? = some c ∧ w5.heap[w.heap.size + 1 + 1 + 1 + 1]? = some e := by
  have e1 : ∀ (V : World) (o : Obj), (V.alloc o).heap.size = V.heap.size + 1 := fun V o => by simp
  have b1 : ∀ (V : World) (o : Obj), Below V.heap.size V (V.alloc o) := fun V o => (Below.refl _ _).alloc (Nat.le_refl _) _
  have z1 := e1 w a
  have z2 := e1 (w.alloc a) b
  have z3 := e1 ((w.alloc a).alloc b) c
  have z4 := e1 (((w.alloc a).alloc b).alloc c) d
  have z5 := e1 ((((w.alloc a).alloc b).alloc c).alloc d) e
  have q1 := b1 w a
  have q2 := b1 (w.alloc a) b
  have q3 := b1 ((w.alloc a).alloc b) c
  have q4 := b1 (((w.alloc a).alloc b).alloc c) d
  have q5 := b1 ((((w.alloc a).alloc b).alloc c).alloc d) e
  refine ⟨_, rfl, below_trans (below_trans (below_trans (below_trans q1 q2) q3) q4) q5, by omega, ?_, ?_, ?_⟩
  · exact (q5.block _ (by omega)).trans ((q4.block _ (by omega)).trans ((q3.block _ (by omega)).trans ((q2.block _ (by omega)).trans (heap_alloc_new _ _))))
  · have h := heap_alloc_new ((w.alloc a).alloc b) c
    rw [z2, z1] at h
    exact (q5.block _ (by omega)).trans ((q4.block _ (by omega)).trans h)
  · have h := heap_alloc_new ((((w.alloc a).alloc b).alloc c).alloc d) e
    rw [z4, z3, z2, z1] at h
    exact h
theorem four_of {w : World} {g : Nat} {v0 v1 v2 v3 : Value} {ty : Nat} (h : w.heap[g]? = some (.cells #[v0, v1, v2, v3] ty)) : w.cell? ⟨g, 0, none⟩ = some v0 ∧ w.cell? ⟨g, 1, none⟩ = some v1 ∧ w.cell? ⟨g, 2, none⟩ = some v2 ∧ w.cell? ⟨g, 3, none⟩ = some v3 := by
  refine ⟨?_, ?_, ?_, ?_⟩ <;> (rw [cell_of_row _ _ _ _ _ _ h]; rfl)
def hss (x y : Nat) : List Src := [⟨some ⟨x, 0, none⟩, 2, [⟨1, 1⟩, ⟨4, 2⟩], 0⟩, ⟨some ⟨y, 0, none⟩, 2, [⟨1, 3⟩, ⟨2, 4⟩], 0⟩]
theorem hss_fd (x y : Nat) : (fun j => ((hss x y).getD j src0).fd) = hB (some ⟨x, 0, none⟩) (some ⟨y, 0, none⟩) := by
  funext j
  match j with
  | 0 => rfl
  | 1 => rfl
  | j + 2 => rfl
theorem own_four {w : World} {base : Nat} {v : Value} (h : OwnT w base v [⟨1, 1⟩, ⟨1, 3⟩, ⟨2, 4⟩, ⟨4, 2⟩]) : ∃ g cap, v = .slice (some ⟨g, 0, none⟩) 4 cap ∧ w.cell? ⟨g, 1, none⟩ = some (.int .i64 1) ∧ w.cell? ⟨g, 3, none⟩ = some (.int .i64 3) ∧ w.cell? ⟨g, 5, none⟩ = some (.int .i64 4) ∧ w.cell? ⟨g, 7, none⟩ = some (.int .i64 2) := by
  rcases h.2 with ⟨h1, h2⟩ | ⟨g, cap, cur, h1, h2, h3, h4, h5, h6, h7⟩
  · cases h2
  · have e : ∀ j u, (thv [⟨1, 1⟩, ⟨1, 3⟩, ⟨2, 4⟩, ⟨4, 2⟩])[j]? = some u → j < 8 → w.cell? ⟨g, j, none⟩ = some u := fun j u hu hj => by
      rw [← h7, List.getElem?_take_of_lt (by show j < 8; exact hj), Array.getElem?_toList] at hu
      rw [cell_of_row _ _ _ _ _ _ h3]
      exact hu
    exact ⟨g, cap, h1, e 1 _ rfl (by omega), e 3 _ rfl (by omega), e 5 _ rfl (by omega), e 7 _ rfl (by omega)⟩
end Go.Proofs.Ytcnfkgmefikcjaa.Me
