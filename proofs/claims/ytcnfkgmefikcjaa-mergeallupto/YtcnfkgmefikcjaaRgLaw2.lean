/-
  A range over a function whose loop variables are plain; several marks left behind by loops.
-/
import Derived.Test.YtcnfkgmefikcjaaRgLaw
namespace Go.Proofs.Ytcnfkgmefikcjaa.Rg
open Go.RowKit
open Go.Proofs.Ytcnfkgmefikcjaa.Base
set_option linter.unusedVariables false
theorem wp_range_t {P : Program} {g : Operand} {ps : Array Tmp} {assign body : Code} {Q : Exit → Act → World → Prop} {a : Act} {w : World} {gf : Nat} {lb : Array Value} {N : Nat} {E : Nat → Array Value} {S : World → World → Prop} {G : World → Prop}
    (hg : a.eval g = .func (.func gf) #[] lb) (eg : ∀ args w, (callFunc gf args).run P w = .ok (.enter gf args) w) (hit : Iter P gf lb N E S G) (hS : Keeps S) (hps : ∀ k, k < N → (E k).size = ps.size)
    (F : Nat → Array Value → Array Value) (I : Nat → World → Prop) (Ix : Code → Nat → World → Prop) (hI : ∀ k, Lasts w.heap.size (I k)) (hIx : ∀ c k, Lasts w.heap.size (Ix c k))
    (hIS : ∀ k W W', I k W → S W W' → I k W') (hIxS : ∀ c k W W', Ix c k W → S W W' → Ix c k W') (hG : ∀ k W, I k W → G W) (h0 : ∀ W, Below w.heap.size w W → I 0 W)
    (hassign : ∀ l k W (K : Act → World → Prop), k < N → K { tmps := F k a.tmps, defers := [] } W →
      assign.wpIn (Fence.wide.inRound l) 9 P (Exit.then K (fun _ _ _ => False)) { tmps := (ps.zip (E k)).foldl (fun t (p, v) => t.setIfInBounds p v) a.tmps, defers := [] } W)
    (hbody : ∀ l k W, w.heap.size ≤ l → k < N → (∃ r, W.heap[l]? = some (.loop r)) → I k W → body.wpIn (Fence.wide.inRound l) 9 P (roundEnd w.heap.size I Ix k W) { tmps := F k a.tmps, defers := [] } W)
    (hdone : ∀ D W, w.heap.size ≤ D → I N W → W.heap[D]? = some (.deferred (some [])) → Q .normal { a with defers := { target := .collected D, args := #[] } :: a.defers } W)
    (hstop : ∀ D c k W, w.heap.size ≤ D → k < N → Ix c k W → W.heap[D]? = some (.deferred (some [])) → c.wp P Q { a with defers := { target := .collected D, args := #[] } :: a.defers } W) :
    (Code.rangeFunc g ps assign body).wp P Q a w :=
  wp_range hg eg hit hS hps I Ix hI hIx (fun k a' _ => a' = { tmps := F k a.tmps, defers := [] }) (fun _ _ _ _ _ _ h _ _ _ => h) hIS hIxS hG h0
    (fun l k W K hl hk hi hK => hassign l k W K hk (hK _ _ (KeepsFrom.refl _ _) hi rfl)) (fun l k a' W hl hk hr hi e => by subst e; exact hbody l k W hl hk hr hi) hdone hstop
theorem wp_range_in_t {P : Program} {g : Operand} {ps : Array Tmp} {assign body : Code} {Q : Exit → Act → World → Prop} {a : Act} {w : World} {l₀ : Nat} {r₀ : Loop} {gf : Nat} {lb : Array Value} {N : Nat} {E : Nat → Array Value} {S : World → World → Prop} {G : World → Prop}
    (hl₀ : w.heap[l₀]? = some (.loop r₀)) (hg : a.eval g = .func (.func gf) #[] lb) (eg : ∀ args w, (callFunc gf args).run P w = .ok (.enter gf args) w) (hit : Iter P gf lb N E S G) (hS : Keeps S) (hps : ∀ k, k < N → (E k).size = ps.size)
    (F : Nat → Array Value → Array Value) (I : Nat → World → Prop) (Ix : Code → Nat → World → Prop) (hI : ∀ k, Lasts w.heap.size (I k)) (hIx : ∀ c k, Lasts w.heap.size (Ix c k))
    (hIS : ∀ k W W', I k W → S W W' → I k W') (hIxS : ∀ c k W W', Ix c k W → S W W' → Ix c k W') (hG : ∀ k W, I k W → G W) (h0 : ∀ W, Below w.heap.size w W → I 0 W)
    (hassign : ∀ l k W (K : Act → World → Prop), k < N → K { tmps := F k a.tmps, defers := [] } W →
      assign.wpIn (Fence.wide.inRound l) 9 P (Exit.then K (fun _ _ _ => False)) { tmps := (ps.zip (E k)).foldl (fun t (p, v) => t.setIfInBounds p v) a.tmps, defers := [] } W)
    (hbody : ∀ l k W, w.heap.size ≤ l → k < N → (∃ r, W.heap[l]? = some (.loop r)) → I k W → body.wpIn (Fence.wide.inRound l) 9 P (roundEnd w.heap.size I Ix k W) { tmps := F k a.tmps, defers := [] } W)
    (hdone : ∀ W, I N W → Q .normal a W)
    (hstop : ∀ c k W, k < N → Ix c k W → c.wpIn (Fence.wide.inRound l₀) 9 P Q a W) :
    (Code.rangeFunc g ps assign body).wpIn (Fence.wide.inRound l₀) 9 P Q a w :=
  wp_range_in hl₀ hg eg hit hS hps I Ix hI hIx (fun k a' _ => a' = { tmps := F k a.tmps, defers := [] }) (fun _ _ _ _ _ _ h _ _ _ => h) hIS hIxS hG h0
    (fun l k W K hl hk hi hK => hassign l k W K hk (hK _ _ (KeepsFrom.refl _ _) hi rfl)) (fun l k a' W hl hk hr hi e => by subst e; exact hbody l k W hl hk hr hi) hdone hstop
/-- The marks that loops have left, from the block B on. -/
def Marks (B : Nat) (w : World) : List Deferred → Prop
  | [] => True
  | d :: ds => (∃ D, d = { target := .collected D, args := #[] } ∧ B ≤ D ∧ w.heap[D]? = some (.deferred (some [])) ∧ ∀ d' ∈ ds, d' ≠ d) ∧ Marks B w ds
theorem Marks.kept {B : Nat} {w w' : World} (h : ∀ D, B ≤ D → w.heap[D]? = some (.deferred (some [])) → w'.heap[D]? = some (.deferred (some []))) : ∀ {ds : List Deferred}, Marks B w ds → Marks B w' ds
  | [], _ => trivial
  | _ :: _, ⟨⟨D, e, hB, hD, hn⟩, hr⟩ => ⟨⟨D, e, hB, h D hB hD, hn⟩, Marks.kept h hr⟩
theorem Marks.below {B : Nat} {w w' : World} {ds : List Deferred} (h : Marks B w ds) (hb : Below w.heap.size w w') : Marks B w' ds :=
  h.kept (fun D _ hD => (hb.block D (Array.getElem?_eq_some_iff.1 hD).1).trans hD)
theorem Marks.lt {B : Nat} {w : World} : ∀ {ds : List Deferred}, Marks B w ds → ∀ d ∈ ds, ∃ D, d = { target := .collected D, args := #[] } ∧ D < w.heap.size
  | [], _, d, hd => absurd hd List.not_mem_nil
  | _ :: _, ⟨⟨D, e, _, hD, _⟩, hr⟩, d, hd => by
    rcases List.mem_cons.1 hd with h | h
    · exact ⟨D, h.trans e, (Array.getElem?_eq_some_iff.1 hD).1⟩
    · exact Marks.lt hr d h
/-- One mark more, of a loop that began in the world w. -/
theorem Marks.more {B : Nat} {w W : World} {ds : List Deferred} {D : Nat} (h : Marks B w ds) (hB : B ≤ w.heap.size) (hD : w.heap.size ≤ D) (hW : W.heap[D]? = some (.deferred (some []))) (hk : Marks B W ds) : Marks B W ({ target := .collected D, args := #[] } :: ds) := by
  refine ⟨⟨D, rfl, by omega, hW, fun d hd e => ?_⟩, hk⟩
  obtain ⟨D', e', hlt⟩ := h.lt d hd
  rw [e'] at e
  cases e
  omega
theorem leaves_marks {P : Program} {fn : Func} {tmps : Array Value} {R : Ending → World → Prop} {B : Nat} {v : Value} {gc : Nat} (hgc : gc < B) (hload : ∀ V : World, V.cell? ⟨gc, 0, none⟩ = some v → (results fn tmps).run P V = .ok v V) :
    ∀ (ds : List Deferred) (W : World), B ≤ W.heap.size → Marks B W ds → W.cell? ⟨gc, 0, none⟩ = some v → (∀ V, Below B W V → R (.returned v) V) → LeavesInM Fence.wide 1 P fn tmps R ds .returning W := by
  intro ds
  induction ds with
  | nil => intro W _ _ hc hR; exact ⟨v, hload W hc, hR W (Below.refl _ _)⟩
  | cons d ds ih =>
    intro W hB hm hc hR
    obtain ⟨⟨D, e, hBD, hD, hn⟩, hr⟩ := hm
    have hb : Below B W (W.putObj D (.deferred none)) := ⟨rfl, rfl, rfl, by simp, fun k hk => World.putObj_heap_other (by omega)⟩
    refine ⟨by simp, .inl ⟨D, _, by rw [e], run_takeDeferred hD, ?_⟩⟩
    refine ih _ (by simp; exact hB) ?_ ((hb.cell (p := ⟨gc, 0, none⟩) hgc).trans hc) (fun V hV => hR V (hb.trans hV))
    have key : ∀ l : List Deferred, (∀ d' ∈ l, d' ≠ d) → Marks B W l → Marks B (W.putObj D (.deferred none)) l := by
      intro l
      induction l with
      | nil => intro _ _; trivial
      | cons x l ih2 =>
        rintro hne ⟨⟨D2, e2, h2, h3, h4⟩, h5⟩
        refine ⟨⟨D2, e2, h2, ?_, h4⟩, ih2 (fun d' hd' => hne d' (List.mem_cons_of_mem _ hd')) h5⟩
        have : D2 ≠ D := fun e3 => hne x List.mem_cons_self (by rw [e2, e, e3])
        exact (World.putObj_heap_other this).trans h3
    exact key ds hn hr
end Go.Proofs.Ytcnfkgmefikcjaa.Rg
