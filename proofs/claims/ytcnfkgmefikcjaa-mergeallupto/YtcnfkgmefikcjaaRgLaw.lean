/-
  A range over a function whose rounds are counted: what an iterator owes, what a loop's body owes.
-/
import Derived.Test.YtcnfkgmefikcjaaBase
import Derived.RangeFuncNested
import Derived.RangeFuncBound
import Derived.RangeFuncCalls
import Derived.RangeFuncLeaves
namespace Go.Proofs.Ytcnfkgmefikcjaa.Rg
open Go.RowKit
open Go.Proofs.Ytcnfkgmefikcjaa.Base
set_option linter.unusedVariables false
/-- The iterator 'gf, lb' gives E 0, E 1, .. up to N; between two rounds it changes memory as S tells; it reads what G tells. -/
def Iter (P : Program) (gf : Nat) (lb : Array Value) (N : Nat) (E : Nat → Array Value) (S : World → World → Prop) (G : World → Prop) : Prop :=
  ∀ (l : Nat) (J Jx : Nat → World → Prop) (W : World),
    (∀ k W W', J k W → S W W' → J k W') → (∀ k W W', Jx k W → S W W' → Jx k W') → (∀ k W, J k W → G W) →
    (∀ k W, k < N → J k W → YieldAt Fence.wide 9 P l (E k) W fun e W' => (e = .returned (.bool true) ∧ J (k + 1) W') ∨ (e = .returned (.bool false) ∧ Jx k W')) →
    J 0 W → Calls P gf (#[.func (.yield l) #[] #[]] ++ lb) W fun e W' => (∃ v, e = .returned v) ∧ (J N W' ∨ ∃ k, k < N ∧ Jx k W')
/-- What a change of memory between two rounds keeps: whatever is no cells. -/
def Keeps (S : World → World → Prop) : Prop := ∀ W W', S W W' → KeepsOthers W W'
theorem keeps_below : Keeps (fun W W' => Below W.heap.size W W') := fun W W' h => ⟨h.size, fun k o hk _ => (h.block k (Array.getElem?_eq_some_iff.1 hk).1).trans hk⟩
/-- What stays as it is while a block that holds no cells, from B on, is turned. -/
def Lasts (B : Nat) (I : World → Prop) : Prop := ∀ W j o o', I W → B ≤ j → W.heap[j]? = some o → o.isCells = false → I (W.putObj j o')
/-- How a round may be left. -/
def roundEnd (B : Nat) (I : Nat → World → Prop) (Ix : Code → Nat → World → Prop) (k : Nat) (W : World) : Exit → Act → World → Prop
  | .normal, _, W' => KeepsFrom B W W' ∧ I (k + 1) W'
  | .ret, _, W' => KeepsFrom B W W' ∧ Ix .ret k W'
  | .exit id, _, W' => KeepsFrom B W W' ∧ Ix (.exit id) k W'
  | .goto t, _, W' => KeepsFrom B W W' ∧ Ix (.goto t) k W'
  | .panic _, _, _ => False
  | .outgrown, _, _ => False
/-- One round, over the loop's record l. -/
theorem one_round {P : Program} {ps : Array Tmp} {assign body : Code} {tmps : Array Value} {fn : FuncId} {l B df : Nat} (hl : B ≤ l) (N : Nat) (E : Nat → Array Value) (hps : ∀ k, k < N → (E k).size = ps.size)
    (I : Nat → World → Prop) (Ix : Code → Nat → World → Prop) (hI : ∀ k, Lasts B (I k)) (hIx : ∀ c k, Lasts B (Ix c k)) (A : Nat → Act → World → Prop) (hA : ∀ k a', Lasts B (A k a'))
    (R : World → Prop) (hR : ∀ W W', R W → KeepsFrom B W W' → R W') (hRl : ∀ W o, R W → R (W.putObj l o))
    (hassign : ∀ k W (K : Act → World → Prop), k < N → I k W → (∀ a' W', KeepsFrom B W W' → I k W' → A k a' W' → K a' W') →
      assign.wpIn (Fence.wide.inRound l) 9 P (Exit.then K (fun _ _ _ => False)) { tmps := (ps.zip (E k)).foldl (fun t (p, v) => t.setIfInBounds p v) tmps, defers := [] } W)
    (hbody : ∀ k a' W, k < N → (∃ r, W.heap[l]? = some (.loop r)) → I k W → A k a' W → body.wpIn (Fence.wide.inRound l) 9 P (roundEnd B I Ix k W) a' W)
    (k : Nat) (W : World) (hk : k < N) (hi : I k W) (hr : R W) (hrec : W.heap[l]? = some (.loop { state := .ready, pending := none, fn, tmps, params := ps, assign, body, defers := df })) :
    YieldAt Fence.wide 9 P l (E k) W fun e W' =>
      (e = .returned (.bool true) ∧ I (k + 1) W' ∧ W'.heap[l]? = some (.loop { state := .ready, pending := none, fn, tmps, params := ps, assign, body, defers := df }) ∧ R W') ∨
      (e = .returned (.bool false) ∧ ∃ c, Ix c k W' ∧ W'.heap[l]? = some (.loop { state := .done, pending := some c, fn, tmps, params := ps, assign, body, defers := df }) ∧ R W') := by
  refine ⟨fn, _, assign, body, run_yield (P := P) (args := E k) hrec (hps k hk), roundIn_of_wpIn trivial (hassign k W _ hk hi ?_)⟩
  intro a' Wa hka hia hax
  have hla := hka.same _ _ hl hrec rfl
  have hlt : l < Wa.heap.size := (Array.getElem?_eq_some_iff.1 hla).1
  refine ⟨_, run_beginRound hla rfl, ?_⟩
  obtain ⟨Wb, hWb⟩ : ∃ Wb, Wa.putObj l (.loop { state := .busy, pending := none, fn, tmps, params := ps, assign, body, defers := df }) = Wb := ⟨_, rfl⟩
  have hlb : Wb.heap[l]? = some (.loop { state := .busy, pending := none, fn, tmps, params := ps, assign, body, defers := df }) := by rw [← hWb]; exact World.putObj_heap_same hlt
  have hib : I k Wb := by rw [← hWb]; exact hI k _ _ _ _ hia hl hla rfl
  have hab : A k a' Wb := by rw [← hWb]; exact hA k a' _ _ _ _ hax hl hla rfl
  have hrb : R Wb := by rw [← hWb]; exact hRl _ _ (hR _ _ hr hka)
  show body.wpIn _ _ _ _ _ (Wa.putObj l (.loop { state := .busy, pending := none, fn, tmps, params := ps, assign, body, defers := df }))
  rw [hWb]
  refine wpIn_mono (hbody k a' Wb hk ⟨_, hlb⟩ hib hab) ?_
  have fin : ∀ (jump : Option Code) (W3 : World), KeepsFrom B Wb W3 →
      ∃ W4, (Instr.endRound l jump).run P W3 = .ok (.bool jump.isNone) W4 ∧ W4 = W3.putObj l (.loop { state := if jump.isNone then .ready else .done, pending := jump, fn, tmps, params := ps, assign, body, defers := df }) ∧ W3.heap[l]? = some (.loop { state := .busy, pending := none, fn, tmps, params := ps, assign, body, defers := df }) ∧ l < W3.heap.size := fun jump W3 hk3 => by
    have hl3 := hk3.same _ _ hl hlb rfl
    exact ⟨_, run_endRound (P := P) jump hl3, rfl, hl3, (Array.getElem?_eq_some_iff.1 hl3).1⟩
  rintro e a3 W3 hp
  cases e with
  | normal =>
    obtain ⟨hk3, hi3⟩ := hp
    obtain ⟨W4, h1, rfl, h3, h4⟩ := fin none W3 hk3
    exact ⟨_, _, h1, .inl ⟨rfl, hI _ _ _ _ _ hi3 hl h3 rfl, World.putObj_heap_same h4, hRl _ _ (hR _ _ hrb hk3)⟩⟩
  | ret =>
    obtain ⟨hk3, hi3⟩ := hp
    obtain ⟨W4, h1, rfl, h3, h4⟩ := fin (some .ret) W3 hk3
    exact ⟨_, _, h1, .inr ⟨rfl, .ret, hIx _ _ _ _ _ _ hi3 hl h3 rfl, World.putObj_heap_same h4, hRl _ _ (hR _ _ hrb hk3)⟩⟩
  | exit id =>
    obtain ⟨hk3, hi3⟩ := hp
    obtain ⟨W4, h1, rfl, h3, h4⟩ := fin (some (.exit id)) W3 hk3
    exact ⟨_, _, h1, .inr ⟨rfl, .exit id, hIx _ _ _ _ _ _ hi3 hl h3 rfl, World.putObj_heap_same h4, hRl _ _ (hR _ _ hrb hk3)⟩⟩
  | goto t =>
    obtain ⟨hk3, hi3⟩ := hp
    obtain ⟨W4, h1, rfl, h3, h4⟩ := fin (some (.goto t)) W3 hk3
    exact ⟨_, _, h1, .inr ⟨rfl, .goto t, hIx _ _ _ _ _ _ hi3 hl h3 rfl, World.putObj_heap_same h4, hRl _ _ (hR _ _ hrb hk3)⟩⟩
  | panic ch => exact hp.elim
  | outgrown => exact hp.elim
/-- The statement, in the plain walk. -/
theorem wp_range {P : Program} {g : Operand} {ps : Array Tmp} {assign body : Code} {Q : Exit → Act → World → Prop} {a : Act} {w : World} {gf : Nat} {lb : Array Value} {N : Nat} {E : Nat → Array Value} {S : World → World → Prop} {G : World → Prop}
    (hg : a.eval g = .func (.func gf) #[] lb) (eg : ∀ args w, (callFunc gf args).run P w = .ok (.enter gf args) w) (hit : Iter P gf lb N E S G) (hS : Keeps S) (hps : ∀ k, k < N → (E k).size = ps.size)
    (I : Nat → World → Prop) (Ix : Code → Nat → World → Prop) (hI : ∀ k, Lasts w.heap.size (I k)) (hIx : ∀ c k, Lasts w.heap.size (Ix c k)) (A : Nat → Act → World → Prop) (hA : ∀ k a', Lasts w.heap.size (A k a'))
    (hIS : ∀ k W W', I k W → S W W' → I k W') (hIxS : ∀ c k W W', Ix c k W → S W W' → Ix c k W') (hG : ∀ k W, I k W → G W) (h0 : ∀ W, Below w.heap.size w W → I 0 W)
    (hassign : ∀ l k W (K : Act → World → Prop), w.heap.size ≤ l → k < N → I k W → (∀ a' W', KeepsFrom w.heap.size W W' → I k W' → A k a' W' → K a' W') →
      assign.wpIn (Fence.wide.inRound l) 9 P (Exit.then K (fun _ _ _ => False)) { tmps := (ps.zip (E k)).foldl (fun t (p, v) => t.setIfInBounds p v) a.tmps, defers := [] } W)
    (hbody : ∀ l k a' W, w.heap.size ≤ l → k < N → (∃ r, W.heap[l]? = some (.loop r)) → I k W → A k a' W → body.wpIn (Fence.wide.inRound l) 9 P (roundEnd w.heap.size I Ix k W) a' W)
    (hdone : ∀ D W, w.heap.size ≤ D → I N W → W.heap[D]? = some (.deferred (some [])) → Q .normal { a with defers := { target := .collected D, args := #[] } :: a.defers } W)
    (hstop : ∀ D c k W, w.heap.size ≤ D → k < N → Ix c k W → W.heap[D]? = some (.deferred (some [])) → c.wp P Q { a with defers := { target := .collected D, args := #[] } :: a.defers } W) :
    (Code.rangeFunc g ps assign body).wp P Q a w := by
  refine (wpIn_wide (n := 9)).1 (wpIn_rangeFunc ?_)
  intro fn hfn
  obtain ⟨D, hD⟩ : ∃ D, w.heap.size = D := ⟨_, rfl⟩
  obtain ⟨W1, hW1⟩ : ∃ W1, (w.alloc (.deferred (some []))).alloc (.loop { state := .ready, pending := none, fn, tmps := a.tmps, params := ps, assign, body, defers := w.heap.size }) = W1 := ⟨_, rfl⟩
  have hL1 : W1.heap[w.heap.size + 1]? = some (.loop { state := .ready, pending := none, fn, tmps := a.tmps, params := ps, assign, body, defers := w.heap.size }) := by
    rw [← hW1]; have := World.alloc_heap_new (w.alloc (.deferred (some []))) (.loop { state := .ready, pending := none, fn, tmps := a.tmps, params := ps, assign, body, defers := w.heap.size }); rwa [World.size_alloc] at this
  have hK1 : W1.heap[w.heap.size]? = some (.deferred (some [])) := by
    rw [← hW1]; exact (Below.heap_alloc _ _ _ (by simp)).trans (World.alloc_heap_new w _)
  have hb1 : Below w.heap.size w W1 := by
    rw [← hW1]; exact ((Below.refl _ w).alloc (Nat.le_refl _) _).alloc (by simp) _
  refine ⟨w.heap.size + 1, [{ target := .collected w.heap.size, args := #[] }], W1, { target := .fn (.func gf) lb, args := #[.func (.yield (w.heap.size + 1)) #[] #[]] }, W1, gf,
    #[.func (.yield (w.heap.size + 1)) #[] #[]] ++ lb, W1, ?_, ?_, ?_, ?_, fun _ => by omega, ?_⟩
  · rw [← hW1]; exact run_enterLoop_outer _ _ _ _ _
  · simp only [resolve, hg]
    simp [go_sem]
  · intro f' hf'; trivial
  · simp [invoke, go_sem, eg]
  · refine callsIn_wide.2 ((hit (w.heap.size + 1)
      (fun k W => I k W ∧ W.heap[w.heap.size + 1]? = some (.loop { state := .ready, pending := none, fn, tmps := a.tmps, params := ps, assign, body, defers := w.heap.size }) ∧ W.heap[w.heap.size]? = some (.deferred (some [])))
      (fun k W => ∃ c, Ix c k W ∧ W.heap[w.heap.size + 1]? = some (.loop { state := .done, pending := some c, fn, tmps := a.tmps, params := ps, assign, body, defers := w.heap.size }) ∧ W.heap[w.heap.size]? = some (.deferred (some [])))
      W1 ?_ ?_ (fun k W h => hG k W h.1) ?_ ⟨h0 W1 hb1, hL1, hK1⟩).mono ?_)
    · rintro k W W' ⟨h1, h2, h3⟩ hs
      have hk := hS W W' hs
      exact ⟨hIS k W W' h1 hs, hk.same _ _ h2 rfl, hk.same _ _ h3 rfl⟩
    · rintro k W W' ⟨c, h1, h2, h3⟩ hs
      have hk := hS W W' hs
      exact ⟨c, hIxS c k W W' h1 hs, hk.same _ _ h2 rfl, hk.same _ _ h3 rfl⟩
    · rintro k W hk ⟨h1, h2, h3⟩
      exact one_round (B := w.heap.size) (Nat.le_succ _) N E hps I Ix hI hIx A hA (fun W => W.heap[w.heap.size]? = some (.deferred (some [])))
        (fun W W' h hk => hk.same _ _ (Nat.le_refl _) h rfl) (fun W o h => (World.putObj_heap_other (by omega)).trans h) (fun k W K hk hi hK => hassign _ k W K (Nat.le_succ _) hk hi hK) (fun k a' W hk hr hi ha => hbody _ k a' W (Nat.le_succ _) hk hr hi ha) k W hk h1 h3 h2
    · rintro e W2 ⟨⟨v, rfl⟩, (⟨hi, hl, hk⟩ | ⟨k, hk0, c, hi, hl, hk⟩)⟩
      · exact ⟨none, _, run_endLoop (P := P) hl (by simp), hdone _ _ (Nat.le_refl _) (hI N _ _ _ _ hi (Nat.le_succ _) hl rfl) ((World.putObj_heap_other (by omega)).trans hk)⟩
      · exact ⟨some c, _, run_endLoop (P := P) hl (by simp), wpIn_wide.2 (hstop _ c k _ (Nat.le_refl _) hk0 (hIx c k _ _ _ _ hi (Nat.le_succ _) hl rfl) ((World.putObj_heap_other (by omega)).trans hk))⟩
/-- The statement within a round of the loop l₀. -/
theorem wp_range_in {P : Program} {g : Operand} {ps : Array Tmp} {assign body : Code} {Q : Exit → Act → World → Prop} {a : Act} {w : World} {l₀ : Nat} {r₀ : Loop} {gf : Nat} {lb : Array Value} {N : Nat} {E : Nat → Array Value} {S : World → World → Prop} {G : World → Prop}
    (hl₀ : w.heap[l₀]? = some (.loop r₀)) (hg : a.eval g = .func (.func gf) #[] lb) (eg : ∀ args w, (callFunc gf args).run P w = .ok (.enter gf args) w) (hit : Iter P gf lb N E S G) (hS : Keeps S) (hps : ∀ k, k < N → (E k).size = ps.size)
    (I : Nat → World → Prop) (Ix : Code → Nat → World → Prop) (hI : ∀ k, Lasts w.heap.size (I k)) (hIx : ∀ c k, Lasts w.heap.size (Ix c k)) (A : Nat → Act → World → Prop) (hA : ∀ k a', Lasts w.heap.size (A k a'))
    (hIS : ∀ k W W', I k W → S W W' → I k W') (hIxS : ∀ c k W W', Ix c k W → S W W' → Ix c k W') (hG : ∀ k W, I k W → G W) (h0 : ∀ W, Below w.heap.size w W → I 0 W)
    (hassign : ∀ l k W (K : Act → World → Prop), w.heap.size ≤ l → k < N → I k W → (∀ a' W', KeepsFrom w.heap.size W W' → I k W' → A k a' W' → K a' W') →
      assign.wpIn (Fence.wide.inRound l) 9 P (Exit.then K (fun _ _ _ => False)) { tmps := (ps.zip (E k)).foldl (fun t (p, v) => t.setIfInBounds p v) a.tmps, defers := [] } W)
    (hbody : ∀ l k a' W, w.heap.size ≤ l → k < N → (∃ r, W.heap[l]? = some (.loop r)) → I k W → A k a' W → body.wpIn (Fence.wide.inRound l) 9 P (roundEnd w.heap.size I Ix k W) a' W)
    (hdone : ∀ W, I N W → Q .normal a W)
    (hstop : ∀ c k W, k < N → Ix c k W → c.wpIn (Fence.wide.inRound l₀) 9 P Q a W) :
    (Code.rangeFunc g ps assign body).wpIn (Fence.wide.inRound l₀) 9 P Q a w := by
  refine wpIn_rangeFunc ?_
  intro fn hfn
  obtain ⟨W1, hW1⟩ : ∃ W1, w.alloc (.loop { state := .ready, pending := none, fn, tmps := a.tmps, params := ps, assign, body, defers := r₀.defers }) = W1 := ⟨_, rfl⟩
  have hL1 : W1.heap[w.heap.size]? = some (.loop { state := .ready, pending := none, fn, tmps := a.tmps, params := ps, assign, body, defers := r₀.defers }) := by
    rw [← hW1]; exact World.alloc_heap_new w _
  have hb1 : Below w.heap.size w W1 := by
    rw [← hW1]; exact (Below.refl _ w).alloc (Nat.le_refl _) _
  refine ⟨w.heap.size, [], W1, { target := .fn (.func gf) lb, args := #[.func (.yield w.heap.size) #[] #[]] }, W1, gf,
    #[.func (.yield w.heap.size) #[] #[]] ++ lb, W1, ?_, ?_, ?_, ?_, fun _ => by omega, ?_⟩
  · rw [← hW1]; exact run_enterLoop_inner hl₀ _ _ _ _ _
  · simp only [resolve, hg]
    simp [go_sem]
  · intro f' hf'; trivial
  · simp [invoke, go_sem, eg]
  · refine CallsIn.inRound l₀ (callsIn_wide.2 ((hit w.heap.size
      (fun k W => I k W ∧ W.heap[w.heap.size]? = some (.loop { state := .ready, pending := none, fn, tmps := a.tmps, params := ps, assign, body, defers := r₀.defers }) ∧ True)
      (fun k W => ∃ c, Ix c k W ∧ W.heap[w.heap.size]? = some (.loop { state := .done, pending := some c, fn, tmps := a.tmps, params := ps, assign, body, defers := r₀.defers }) ∧ True)
      W1 ?_ ?_ (fun k W h => hG k W h.1) ?_ ⟨h0 W1 hb1, hL1, trivial⟩).mono ?_))
    · rintro k W W' ⟨h1, h2, _⟩ hs
      exact ⟨hIS k W W' h1 hs, (hS W W' hs).same _ _ h2 rfl, trivial⟩
    · rintro k W W' ⟨c, h1, h2, _⟩ hs
      exact ⟨c, hIxS c k W W' h1 hs, (hS W W' hs).same _ _ h2 rfl, trivial⟩
    · rintro k W hk ⟨h1, h2, _⟩
      exact one_round (B := w.heap.size) (Nat.le_refl _) N E hps I Ix hI hIx A hA (fun W => True)
        (fun _ _ _ _ => trivial) (fun _ _ _ => trivial) (fun k W K hk hi hK => hassign _ k W K (Nat.le_refl _) hk hi hK) (fun k a' W hk hr hi ha => hbody _ k a' W (Nat.le_refl _) hk hr hi ha) k W hk h1 trivial h2
    · rintro e W2 ⟨⟨v, rfl⟩, (⟨hi, hl, _⟩ | ⟨k, hk0, c, hi, hl, _⟩)⟩
      · exact ⟨none, _, run_endLoop (P := P) hl (by simp), hdone _ (hI N _ _ _ _ hi (Nat.le_refl _) hl rfl)⟩
      · exact ⟨some c, _, run_endLoop (P := P) hl (by simp), hstop c k _ hk0 (hIx c k _ _ _ _ hi (Nat.le_refl _) hl rfl)⟩
theorem enter_fn {P : Program} {K : Nat} {fn : Func} {c : Code} (hf : P.funcs[K]? = some fn) (hn : (fn.name == "runtime.NumGoroutine") = false) (hb : fn.body = some c) (args : Array Value) (W : World) : (callFunc K args).run P W = .ok (.enter K args) W := by
  have h1 : fn.name ≠ "runtime.NumGoroutine" := by simpa using hn
  simp [callFunc, hf, h1, hb, mark]
/-- A function whose body holds a range over a function. -/
theorem calls_marks {P : Program} {f : FuncId} {fn : Func} {c : Code} {args : Array Value} {w : World} {R : Ending → World → Prop} (hf : P.funcs[f]? = some fn) (hb : fn.body = some c)
    (h : c.wp P (bodyPostM Fence.wide 1 P fn R) { tmps := args ++ Array.replicate (fn.ntmps - args.size) undef, defers := [] } w) : Calls P f args w R :=
  (callsIn_wide (n := 1)).1 (callsIn_of_wp_marks hf hb trivial (wpIn_wide.2 h) rfl)
end Go.Proofs.Ytcnfkgmefikcjaa.Rg
