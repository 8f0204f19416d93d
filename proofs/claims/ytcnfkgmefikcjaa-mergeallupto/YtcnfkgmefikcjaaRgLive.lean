/-
  A range over an iterator that keeps its state in cells: what the iterator owes, what the loop's body owes.
-/
import Derived.Test.YtcnfkgmefikcjaaRgLaw2
namespace Go.Proofs.Ytcnfkgmefikcjaa.Rg
open Go.RowKit
open Go.Proofs.Ytcnfkgmefikcjaa.Base
set_option linter.unusedVariables false
/-- The iterator 'gf, lb' gives E 0, E 1, .. up to N; ahead of the round k it changes memory as S k tells, at its end as Se tells; it reads what G k tells. -/
def Live (P : Program) (gf : Nat) (lb : Array Value) (N : Nat) (E : Nat → Array Value) (S : Nat → World → World → Prop) (Se : World → World → Prop) (G : Nat → World → Prop) : Prop :=
  ∀ (l : Nat) (J J' Jx : Nat → World → Prop) (Je : World → Prop) (W : World),
    (∀ k W W', k < N → J k W → S k W W' → J' k W') → (∀ W W', J N W → Se W W' → Je W') → (∀ k W, k ≤ N → J k W → G k W) →
    (∀ k W, k < N → J' k W → YieldAt Fence.wide 9 P l (E k) W fun e W' => (e = .returned (.bool true) ∧ J (k + 1) W') ∨ (e = .returned (.bool false) ∧ Jx k W')) →
    J 0 W → Calls P gf (#[.func (.yield l) #[] #[]] ++ lb) W fun e W' => (∃ v, e = .returned v) ∧ (Je W' ∨ ∃ k, k < N ∧ Jx k W')
/-- What stands ahead of a round and behind it. -/
def pick (I' I : World → Prop) : Nat → World → Prop
  | 0 => I'
  | _ + 1 => I
theorem live_round {P : Program} {ps : Array Tmp} {assign body : Code} {tmps : Array Value} {fn : FuncId} {l B df : Nat} (hl : B ≤ l) (E : Array Value) (hps : E.size = ps.size)
    (I' I : World → Prop) (Ix : Code → World → Prop) (hI' : Lasts B I') (hI : Lasts B I) (hIx : ∀ c, Lasts B (Ix c)) (A : Act → World → Prop) (hA : ∀ a', Lasts B (A a'))
    (R : World → Prop) (hR : ∀ W W', R W → KeepsFrom B W W' → R W') (hRl : ∀ W o, R W → R (W.putObj l o))
    (hassign : ∀ W (K : Act → World → Prop), I' W → (∀ a' W', KeepsFrom B W W' → I' W' → A a' W' → K a' W') →
      assign.wpIn (Fence.wide.inRound l) 9 P (Exit.then K (fun _ _ _ => False)) { tmps := (ps.zip E).foldl (fun t (p, v) => t.setIfInBounds p v) tmps, defers := [] } W)
    (hbody : ∀ a' W, (∃ r, W.heap[l]? = some (.loop r)) → I' W → A a' W → body.wpIn (Fence.wide.inRound l) 9 P (roundEnd B (pick I' I) (fun c _ => Ix c) 0 W) a' W)
    (W : World) (hi : I' W) (hr : R W) (hrec : W.heap[l]? = some (.loop { state := .ready, pending := none, fn, tmps, params := ps, assign, body, defers := df })) :
    YieldAt Fence.wide 9 P l E W fun e W' =>
      (e = .returned (.bool true) ∧ I W' ∧ W'.heap[l]? = some (.loop { state := .ready, pending := none, fn, tmps, params := ps, assign, body, defers := df }) ∧ R W') ∨
      (e = .returned (.bool false) ∧ ∃ c, Ix c W' ∧ W'.heap[l]? = some (.loop { state := .done, pending := some c, fn, tmps, params := ps, assign, body, defers := df }) ∧ R W') :=
  one_round (B := B) hl 1 (fun _ => E) (fun _ _ => hps) (pick I' I) (fun c _ => Ix c) (fun k => by cases k <;> assumption) (fun c _ => hIx c) (fun _ => A) (fun _ => hA) R hR hRl
    (fun k W K hk hi hK => by
      obtain rfl : k = 0 := by omega
      exact hassign W K hi hK)
    (fun k a' W hk hr hi ha => by
      obtain rfl : k = 0 := by omega
      exact hbody a' W hr hi ha) 0 W (by omega) hi hr hrec
/-- The statement, in the plain walk. -/
theorem wp_range_live {P : Program} {g : Operand} {ps : Array Tmp} {assign body : Code} {Q : Exit → Act → World → Prop} {a : Act} {w : World} {gf : Nat} {lb : Array Value} {N : Nat} {E : Nat → Array Value} {S : Nat → World → World → Prop} {Se : World → World → Prop} {G : Nat → World → Prop}
    (hg : a.eval g = .func (.func gf) #[] lb) (eg : ∀ args w, (callFunc gf args).run P w = .ok (.enter gf args) w) (hit : Live P gf lb N E S Se G) (hS : ∀ k, Keeps (S k)) (hSe : Keeps Se) (hps : ∀ k, k < N → (E k).size = ps.size)
    (I I' : Nat → World → Prop) (Ix : Code → Nat → World → Prop) (Ie : World → Prop) (hI : ∀ k, Lasts w.heap.size (I k)) (hI' : ∀ k, Lasts w.heap.size (I' k)) (hIx : ∀ c k, Lasts w.heap.size (Ix c k)) (hIe : Lasts w.heap.size Ie) (A : Nat → Act → World → Prop) (hA : ∀ k a', Lasts w.heap.size (A k a'))
    (hIS : ∀ k W W', k < N → I k W → S k W W' → I' k W') (hIE : ∀ W W', I N W → Se W W' → Ie W') (hG : ∀ k W, k ≤ N → I k W → G k W) (h0 : ∀ W, Below w.heap.size w W → I 0 W)
    (hassign : ∀ l k W (K : Act → World → Prop), w.heap.size ≤ l → k < N → I' k W → (∀ a' W', KeepsFrom w.heap.size W W' → I' k W' → A k a' W' → K a' W') →
      assign.wpIn (Fence.wide.inRound l) 9 P (Exit.then K (fun _ _ _ => False)) { tmps := (ps.zip (E k)).foldl (fun t (p, v) => t.setIfInBounds p v) a.tmps, defers := [] } W)
    (hbody : ∀ l k a' W, w.heap.size ≤ l → k < N → (∃ r, W.heap[l]? = some (.loop r)) → I' k W → A k a' W → body.wpIn (Fence.wide.inRound l) 9 P (roundEnd w.heap.size (pick (I' k) (I (k + 1))) (fun c _ => Ix c k) 0 W) a' W)
    (hdone : ∀ D W, w.heap.size ≤ D → Ie W → W.heap[D]? = some (.deferred (some [])) → Q .normal { a with defers := { target := .collected D, args := #[] } :: a.defers } W)
    (hstop : ∀ D c k W, w.heap.size ≤ D → k < N → Ix c k W → W.heap[D]? = some (.deferred (some [])) → c.wp P Q { a with defers := { target := .collected D, args := #[] } :: a.defers } W) :
    (Code.rangeFunc g ps assign body).wp P Q a w := by
  refine (wpIn_wide (n := 9)).1 (wpIn_rangeFunc ?_)
  intro fn hfn
  obtain ⟨D, hD⟩ : ∃ D, w.heap.size = D := ⟨_, rfl⟩
  obtain ⟨W1, hW1⟩ : ∃ W1, (w.alloc (.deferred (some []))).alloc (.loop { state := .ready, pending := none, fn, tmps := a.tmps, params := ps, assign, body, defers := w.heap.size }) = W1 := ⟨_, rfl⟩
  have hL1 : W1.heap[w.heap.size + 1]? = some (.loop { state := .ready, pending := none, fn, tmps := a.tmps, params := ps, assign, body, defers := w.heap.size }) := by
    rw [← hW1]; have := World.alloc_heap_new (w.alloc (.deferred (some []))) (.loop { state := .ready, pending := none, fn, tmps := a.tmps, params := ps, assign, body, defers := w.heap.size }); rwa [World.size_alloc] at this
  have hK1 : W1.heap[w.heap.size]? = some (.deferred (some [])) := by
    rw [← hW1]; exact (Below.heap_alloc _ _ _ (by simp)).trans (World.alloc_heap_new w _)
  have hb1 : Below w.heap.size w W1 := by
    rw [← hW1]; exact ((Below.refl _ w).alloc (Nat.le_refl _) _).alloc (by simp) _
  refine ⟨w.heap.size + 1, [{ target := .collected w.heap.size, args := #[] }], W1, { target := .fn (.func gf) lb, args := #[.func (.yield (w.heap.size + 1)) #[] #[]] }, W1, gf,
    #[.func (.yield (w.heap.size + 1)) #[] #[]] ++ lb, W1, ?_, ?_, ?_, ?_, fun _ => by omega, ?_⟩
  · rw [← hW1]; exact run_enterLoop_outer _ _ _ _ _
  · simp only [resolve, hg]
    simp [go_sem]
  · intro f' hf'; trivial
  · simp [invoke, go_sem, eg]
  · refine callsIn_wide.2 ((hit (w.heap.size + 1)
      (fun k W => I k W ∧ W.heap[w.heap.size + 1]? = some (.loop { state := .ready, pending := none, fn, tmps := a.tmps, params := ps, assign, body, defers := w.heap.size }) ∧ W.heap[w.heap.size]? = some (.deferred (some [])))
      (fun k W => I' k W ∧ W.heap[w.heap.size + 1]? = some (.loop { state := .ready, pending := none, fn, tmps := a.tmps, params := ps, assign, body, defers := w.heap.size }) ∧ W.heap[w.heap.size]? = some (.deferred (some [])))
      (fun k W => ∃ c, Ix c k W ∧ W.heap[w.heap.size + 1]? = some (.loop { state := .done, pending := some c, fn, tmps := a.tmps, params := ps, assign, body, defers := w.heap.size }) ∧ W.heap[w.heap.size]? = some (.deferred (some [])))
      (fun W => Ie W ∧ W.heap[w.heap.size + 1]? = some (.loop { state := .ready, pending := none, fn, tmps := a.tmps, params := ps, assign, body, defers := w.heap.size }) ∧ W.heap[w.heap.size]? = some (.deferred (some [])))
      W1 ?_ ?_ (fun k W hk h => hG k W hk h.1) ?_ ⟨h0 W1 hb1, hL1, hK1⟩).mono ?_)
    · rintro k W W' hk ⟨h1, h2, h3⟩ hs
      have hk' := hS k W W' hs
      exact ⟨hIS k W W' hk h1 hs, hk'.same _ _ h2 rfl, hk'.same _ _ h3 rfl⟩
    · rintro W W' ⟨h1, h2, h3⟩ hs
      have hk' := hSe W W' hs
      exact ⟨hIE W W' h1 hs, hk'.same _ _ h2 rfl, hk'.same _ _ h3 rfl⟩
    · rintro k W hk ⟨h1, h2, h3⟩
      exact live_round (B := w.heap.size) (Nat.le_succ _) (E k) (hps k hk) (I' k) (I (k + 1)) (fun c => Ix c k) (hI' k) (hI (k + 1)) (fun c => hIx c k) (A k) (hA k) (fun W => W.heap[w.heap.size]? = some (.deferred (some [])))
        (fun W W' h hk => hk.same _ _ (Nat.le_refl _) h rfl) (fun W o h => (World.putObj_heap_other (by omega)).trans h) (fun W K hi hK => hassign _ k W K (Nat.le_succ _) hk hi hK) (fun a' W hr hi ha => hbody _ k a' W (Nat.le_succ _) hk hr hi ha) W h1 h3 h2
    · rintro e W2 ⟨⟨v, rfl⟩, (⟨hi, hl, hk⟩ | ⟨k, hk0, c, hi, hl, hk⟩)⟩
      · exact ⟨none, _, run_endLoop (P := P) hl (by simp), hdone _ _ (Nat.le_refl _) (hIe _ _ _ _ hi (Nat.le_succ _) hl rfl) ((World.putObj_heap_other (by omega)).trans hk)⟩
      · exact ⟨some c, _, run_endLoop (P := P) hl (by simp), wpIn_wide.2 (hstop _ c k _ (Nat.le_refl _) hk0 (hIx c k _ _ _ _ hi (Nat.le_succ _) hl rfl) ((World.putObj_heap_other (by omega)).trans hk))⟩
/-- The statement, where the loop's variable lies in a box of its own. -/
theorem wp_range_live_b {P : Program} {g : Operand} {ps : Array Tmp} {assign body : Code} {Q : Exit → Act → World → Prop} {a : Act} {w : World} {gf : Nat} {lb : Array Value} {N : Nat} {E : Nat → Array Value} {S : Nat → World → World → Prop} {Se : World → World → Prop} {G : Nat → World → Prop}
    (hg : a.eval g = .func (.func gf) #[] lb) (eg : ∀ args w, (callFunc gf args).run P w = .ok (.enter gf args) w) (hit : Live P gf lb N E S Se G) (hS : ∀ k, Keeps (S k)) (hSe : Keeps Se) (hps : ∀ k, k < N → (E k).size = ps.size)
    (T : TypeId) (cs : Nat → Array Value) (F : Nat → Nat → Array Value → Array Value)
    (I I' : Nat → World → Prop) (Ix : Code → Nat → World → Prop) (Ie : World → Prop) (hI : ∀ k, Lasts w.heap.size (I k)) (hI' : ∀ k, Lasts w.heap.size (I' k)) (hIx : ∀ c k, Lasts w.heap.size (Ix c k)) (hIe : Lasts w.heap.size Ie)
    (hIS : ∀ k W W', k < N → I k W → S k W W' → I' k W') (hIE : ∀ W W', I N W → Se W W' → Ie W') (hG : ∀ k W, k ≤ N → I k W → G k W) (h0 : ∀ W, Below w.heap.size w W → I 0 W) (hIB : ∀ k W W', I' k W → Below W.heap.size W W' → I' k W')
    (hassign : ∀ l k W (K : Act → World → Prop), k < N → (∀ gx W', Below W.heap.size W W' → W'.heap[gx]? = some (.cells (cs k) T) → K { tmps := F k gx a.tmps, defers := [] } W') →
      assign.wpIn (Fence.wide.inRound l) 9 P (Exit.then K (fun _ _ _ => False)) { tmps := (ps.zip (E k)).foldl (fun t (p, v) => t.setIfInBounds p v) a.tmps, defers := [] } W)
    (hbody : ∀ l k gx W, w.heap.size ≤ l → k < N → (∃ r, W.heap[l]? = some (.loop r)) → I' k W → W.heap[gx]? = some (.cells (cs k) T) → body.wpIn (Fence.wide.inRound l) 9 P (roundEnd w.heap.size (pick (I' k) (I (k + 1))) (fun c _ => Ix c k) 0 W) { tmps := F k gx a.tmps, defers := [] } W)
    (hdone : ∀ D W, w.heap.size ≤ D → Ie W → W.heap[D]? = some (.deferred (some [])) → Q .normal { a with defers := { target := .collected D, args := #[] } :: a.defers } W)
    (hstop : ∀ D c k W, w.heap.size ≤ D → k < N → Ix c k W → W.heap[D]? = some (.deferred (some [])) → c.wp P Q { a with defers := { target := .collected D, args := #[] } :: a.defers } W) :
    (Code.rangeFunc g ps assign body).wp P Q a w :=
  wp_range_live hg eg hit hS hSe hps I I' Ix Ie hI hI' hIx hIe (fun k a' W => ∃ gx, a' = { tmps := F k gx a.tmps, defers := [] } ∧ W.heap[gx]? = some (.cells (cs k) T))
    (fun k a' W j o o' ⟨gx, e, h⟩ _ hj ho => ⟨gx, e, (World.putObj_heap_other (fun e2 => by rw [e2, hj] at h; cases h; cases ho)).trans h⟩) hIS hIE hG h0
    (fun l k W K hl hk hi hK => hassign l k W K hk (fun gx W' hb hx => hK _ _ ((keeps_below _ _ hb).from _) (hIB k W W' hi hb) ⟨gx, rfl, hx⟩))
    (fun l k a' W hl hk hr hi ⟨gx, e, hx⟩ => by subst e; exact hbody l k gx W hl hk hr hi hx) hdone hstop
end Go.Proofs.Ytcnfkgmefikcjaa.Rg
