/-
  The document's run, walked.
-/
import Derived.Test.YtcnfkgmefikcjaaMeRef
import Derived.Deep.RegionLaw
import Derived.Deep.DeepCutAuto
namespace Go.Proofs.Ytcnfkgmefikcjaa.Me
open Go.ChangeShapes Go.WideShapes Go.ChangeAt Go.RowKit
open Go.Proofs.Ytcnfkgmefikcjaa.Base
set_option linter.unusedVariables false
theorem step_pushT {ops : Array Oper} {o : Oper} {a : Act} {w : World} {K : Act → World → Prop} {Q : Exit → Act → World → Prop} {E : Prop} (hgd : o.guard = none) (s x : Operand)
    (ho : o.op = .call { callee := .builtin .append, args := #[s, x], argTypes := #[30, 30] }) (d : Tmp) (hd : o.dst = some d)
    (base : Nat) (v : Value) (L : List Th) (hs : a.eval s = v) (hown : OwnT w base v L) (g0 : Nat) (t : Th) (hx : a.eval x = .slice (some ⟨g0, 0, none⟩) 1 1)
    (hr : w.heap[g0]? = some (.cells #[.int .i64 t.key, .int .i64 t.name] 36)) (hl : (L.length + 1) * 16 ≤ 140737488355328) (hbase : base ≤ w.heap.size)
    (h : ∀ g cap w', OwnT w' base (.slice (some ⟨g, 0, none⟩) (L.length + 1) cap) (L ++ [t]) → w.grownBy w' v.ownBlock → K (a.put (some d) (.slice (some ⟨g, 0, none⟩) (L.length + 1) cap)) w') :
    if Region.wanted o (yielded ops a.tmps) = true then Oper.wp Try.prog o a w K Q else E := by
  obtain ⟨i0, hi, hz0, hz1, hz2⟩ := info_th
  refine step_append_lies w hgd s x 30 ho base 36 i0 _ 2 16 Try.underlying30 hi hz0 hz1 hz2 rfl (by omega) v L.length (thv L) hs hown ⟨g0, 0, none⟩ 1 1 (thv [t]) hx (by rw [length_thv]; rfl) (fun j u hu => ?_) (thv_one _) (by omega) (by unfold maxLen; omega) hl hbase w.heap.size rfl ?_
  · match j, hu with
    | 0, hu =>
      have e : some (Value.int .i64 t.key) = some u := hu
      show w.cell? ⟨g0, 0, none⟩ = some u
      rw [← e, cell_of_row _ _ _ _ _ _ hr]; rfl
    | 1, hu =>
      have e : some (Value.int .i64 t.name) = some u := hu
      show w.cell? ⟨g0, 1, none⟩ = some u
      rw [← e, cell_of_row _ _ _ _ _ _ hr]; rfl
    | j + 2, hu => cases hu
  · intro g cap w' h1 h2 h3 _
    rw [hd]
    exact h g cap w' (by unfold OwnT; rw [List.length_append, thv_append]; exact h1) h2
theorem results_told {fn : Func} {p u : Tmp} (h : fn.results = #[.cell p 32, .tmp u]) (tmps : Array Value) (w : World) (g : Nat) (x y : Value) (hp : tmps.getD p undef = .pointer (some ⟨g, 0, none⟩)) (ht : w.heap[g]? = some (.cells #[x, y] 32)) :
    (results fn tmps).run Try.prog w = .ok (.tuple #[.agg #[x, y], tmps.getD u undef]) w := by
  have hp' : tmps[p]?.getD undef = .pointer (some ⟨g, 0, none⟩) := by simpa using hp
  simp [results, h, hp', asAddr, run_loadVar_row w g 32 32 _ (0, 0) _ ht Try.underlying32 rfl (by kernel_rfl)]
/-- The best of the first i. -/
def BestTo (B : Nat → Fd) (pos : Nat → Nat) (i : Nat) (bi : Int) : Prop := (bi = -1 ∧ ∀ j, j < i → ¬ pos j < (B j).ts.length) ∨ (∃ v : Nat, bi = (v : Int) ∧ v < i ∧ pos v < (B v).ts.length ∧ ∀ j, j < i → pos j < (B j).ts.length → keyP B pos v < keyP B pos j ∨ (keyP B pos v = keyP B pos j ∧ v ≤ j))
theorem BestTo.skip {B : Nat → Fd} {pos : Nat → Nat} {i : Nat} {bi : Int} (h : BestTo B pos i bi) (hn : ¬ pos i < (B i).ts.length) : BestTo B pos (i + 1) bi := by
  rcases h with ⟨h1, h2⟩ | ⟨v, h1, h2, h3, h4⟩
  · exact .inl ⟨h1, fun j hj => by by_cases e : j = i; · subst e; exact hn
                                   · exact h2 j (by omega)⟩
  · exact .inr ⟨v, h1, by omega, h3, fun j hj hp => by by_cases e : j = i; · subst e; exact absurd hp hn
                                                       · exact h4 j (by omega) hp⟩
theorem BestTo.first {B : Nat → Fd} {pos : Nat → Nat} {i : Nat} (h : ∀ j, j < i → ¬ pos j < (B j).ts.length) (hp : pos i < (B i).ts.length) : BestTo B pos (i + 1) (i : Int) :=
  .inr ⟨i, rfl, by omega, hp, fun j hj hpj => by by_cases e : j = i; · subst e; exact .inr ⟨rfl, Nat.le_refl _⟩
                                                 · exact absurd hpj (h j (by omega))⟩
theorem BestTo.take {B : Nat → Fd} {pos : Nat → Nat} {i v : Nat} (h : ∀ j, j < i → pos j < (B j).ts.length → keyP B pos v < keyP B pos j ∨ (keyP B pos v = keyP B pos j ∧ v ≤ j)) (hp : pos i < (B i).ts.length) (hk : keyP B pos i < keyP B pos v) : BestTo B pos (i + 1) (i : Int) :=
  .inr ⟨i, rfl, by omega, hp, fun j hj hpj => by by_cases e : j = i; · subst e; exact .inr ⟨rfl, Nat.le_refl _⟩
                                                 · have := h j (by omega) hpj; omega⟩
theorem BestTo.keep {B : Nat → Fd} {pos : Nat → Nat} {i v : Nat} (h : ∀ j, j < i → pos j < (B j).ts.length → keyP B pos v < keyP B pos j ∨ (keyP B pos v = keyP B pos j ∧ v ≤ j)) (hv : v < i) (hpv : pos v < (B v).ts.length) (hk : ¬ keyP B pos i < keyP B pos v) : BestTo B pos (i + 1) (v : Int) :=
  .inr ⟨v, rfl, by omega, hpv, fun j hj hpj => by by_cases e : j = i; · subst e; omega
                                                  · exact h j (by omega) hpj⟩
theorem BestTo.best {B : Nat → Fd} {pos : Nat → Nat} {n : Nat} {bi : Int} (h : BestTo B pos n bi) : (bi = -1 ∧ ∀ j, j < n → ¬ pos j < (B j).ts.length) ∨ ∃ v : Nat, bi = (v : Int) ∧ Best B n pos v := by
  rcases h with h | ⟨v, h1, h2, h3, h4⟩
  · exact .inl h
  · exact .inr ⟨v, h1, h2, h3, h4⟩
/-- What lies behind the three ways out. -/
theorem RR.out {w V : World} {gr gt ga gk n : Nat} {al : Option Addr} {cl : Nat} {P : List Th} {pos ask : Nat → Nat} (h : RR w V gr gt ga gk n al cl P pos ask) (x : Int) (V' : World) (hV : V' = V.setCell ⟨gt, 1, none⟩ (.int .i64 x) ∨ (V' = V ∧ x = 0)) :
    let Z := (V'.setCell ⟨gr, 0, none⟩ (.slice al P.length cl)).setCell ⟨gr, 1, none⟩ (.int .i64 x)
    Z.heap[gr]? = some (.cells #[.slice al P.length cl, .int .i64 x] 32) ∧ OwnT Z w.heap.size (.slice al P.length cl) P ∧ IA Z gk n ask ∧ Below w.heap.size w Z := by
  intro Z
  have hs : ∀ i, i < V.heap.size → i ≠ gt → i ≠ gr → Z.heap[i]? = V.heap[i]? := fun i hi h1 h2 => by
    have e0 : V'.heap[i]? = V.heap[i]? := by
      rcases hV with rfl | ⟨rfl, _⟩
      · exact set_other hi h1
      · rfl
    have l0 : i < V'.heap.size := by
      rcases hV with rfl | ⟨rfl, _⟩
      · exact Nat.lt_of_lt_of_le hi (grown_cell (World.grownBy.refl V (some gt)) 1 (.int .i64 x)).size
      · exact hi
    have l1 : i < (V'.setCell ⟨gr, 0, none⟩ (.slice al P.length cl)).heap.size := Nat.lt_of_lt_of_le l0 (grown_cell (World.grownBy.refl V' (some gr)) 0 (.slice al P.length cl)).size
    exact (set_other l1 h2).trans ((set_other l0 h2).trans e0)
  have hr : V'.heap[gr]? = some (.cells #[.slice none 0 0, .int .i64 0] 32) := by
    rcases hV with rfl | ⟨rfl, _⟩
    · exact (set_other (lt_row h.res) h.ne.1).trans h.res
    · exact h.res
  obtain ⟨cas, has, _⟩ := h.ask
  have hb : Below w.heap.size w V' := by
    rcases hV with rfl | ⟨rfl, _⟩
    · exact below_by h.bel (grown_cell (World.grownBy.refl _ _) _ _) (fun j q => by have e2 : gt = j := Option.some.inj q; have := h.lo; omega)
    · exact h.bel
  refine ⟨?_, h.own.same (fun i hi => hs i (row_blk h.own i hi).2 (fun q => own_ne h.own h.tld (by decide) (by rw [hi, q])) (fun q => own_ne h.own h.res (by decide) (by rw [hi, q]))), h.ask.same (hs _ h.ask.lt (fun q => ty_ne has h.tld (by decide) q) (fun q => ty_ne has h.res (by decide) q)), ?_⟩
  · show (((V'.setCell ⟨gr, 0, none⟩ (.slice al P.length cl)).setCell ⟨gr, 1, none⟩ (.int .i64 x))).heap[gr]? = _
    rw [heap_setCell_same _ _ _ _ _ _ (heap_setCell_same _ _ _ _ _ _ hr)]
    rfl
  · exact below_by (below_by hb (grown_cell (World.grownBy.refl _ (some gr)) 0 (.slice al P.length cl)) (fun j q => by have e2 : gr = j := Option.some.inj q; have := h.lo; omega)) (grown_cell (World.grownBy.refl _ (some gr)) 1 (.int .i64 x)) (fun j q => by have e2 : gr = j := Option.some.inj q; have := h.lo; omega)
theorem RR.outc {w V : World} {gr gt ga gk n : Nat} {al : Option Addr} {cl : Nat} {P : List Th} {pos ask : Nat → Nat} (h : RR w V gr gt ga gk n al cl P pos ask) (x : Int) (V' : World) (hV : V' = V.setCell ⟨gt, 1, none⟩ (.int .i64 x) ∨ (V' = V ∧ x = 0)) :
    (V'.cell? ⟨gt, 0, none⟩ = some (.slice al P.length cl) ∧ V'.cell? ⟨gt, 1, none⟩ = some (.int .i64 x)) ∧ (V'.cell? ⟨gr, 0, none⟩ = some (.slice none 0 0) ∧ V'.cell? ⟨gr, 1, none⟩ = some (.int .i64 0)) ∧ V'.frozen? ⟨gr, 0, none⟩ = false ∧ V'.frozen? ⟨gr, 1, none⟩ = false := by
  have hr : V'.heap[gr]? = some (.cells #[.slice none 0 0, .int .i64 0] 32) := by
    rcases hV with rfl | ⟨rfl, _⟩
    · exact (set_other (lt_row h.res) h.ne.1).trans h.res
    · exact h.res
  have ht : V'.heap[gt]? = some (.cells #[.slice al P.length cl, .int .i64 x] 32) := by
    rcases hV with rfl | ⟨rfl, rfl⟩
    · rw [heap_setCell_same _ _ _ _ _ _ h.tld]; rfl
    · exact h.tld
  exact ⟨two_of ht, two_of hr, frozen_of_row _ _ _ _ _ hr, frozen_of_row _ _ _ _ _ hr⟩
def lenAt (gt : Nat) (w : World) : Nat := match w.cell? ⟨gt, 0, none⟩ with | some (.slice _ n _) => n | _ => 0
theorem RR.lenAt {w V : World} {gr gt ga gk n : Nat} {al : Option Addr} {cl : Nat} {P : List Th} {pos ask : Nat → Nat} (h : RR w V gr gt ga gk n al cl P pos ask) : lenAt gt V = P.length := by
  unfold Me.lenAt
  rw [(two_of h.tld).1]
end Go.Proofs.Ytcnfkgmefikcjaa.Me
