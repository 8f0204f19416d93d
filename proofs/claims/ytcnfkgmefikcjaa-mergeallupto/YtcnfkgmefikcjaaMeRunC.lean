/-
  run: all that a merge tells, as the statements gather it.
-/
import Derived.Test.YtcnfkgmefikcjaaMeRun
namespace Go.Proofs.Ytcnfkgmefikcjaa.Me
open Go.ChangeShapes Go.WideShapes Go.ChangeAt Go.RowKit
open Go.Proofs.Ytcnfkgmefikcjaa.Base
set_option linter.unusedVariables false
def thv (L : List Th) : List Value := L.flatMap fun t => [.int .i64 t.key, .int .i64 t.name]
theorem thv_append (a b : List Th) : thv (a ++ b) = thv a ++ thv b := by unfold thv; rw [List.flatMap_append]
theorem infoTh : (Try.prog.info? 36).map (fun i => (i.zero, i.size, i.bytes)) = some (some (.agg #[.int .i64 0, .int .i64 0]), 2, 16) := by kernel_rfl
theorem info_th : ∃ i, Try.prog.info? 36 = some i ∧ i.zero = some (.agg #[.int .i64 0, .int .i64 0]) ∧ i.size = 2 ∧ i.bytes = 16 := by
  have hq := infoTh
  cases hi : Try.prog.info? 36 with
  | none => simp [hi] at hq
  | some i =>
    simp only [hi, Option.map_some, Option.some.injEq, Prod.mk.injEq] at hq
    exact ⟨i, rfl, hq.1, hq.2.1, hq.2.2⟩
/-- A list of things of the call's own. -/
def OwnT (w : World) (base : Nat) (v : Value) (L : List Th) : Prop := w.ownsRow base 36 2 v L.length (thv L)
/-- append of one thing. -/
theorem pushTh {ops : Array Oper} {rest : List Oper} {o : Oper} {a : Act} {Q : Exit → Act → World → Prop} (w : World) (hgd : o.guard = none) (s x : Operand)
    (ho : o.op = .call { callee := .builtin .append, args := #[s, x], argTypes := #[30, 30] })
    (base : Nat) (v : Value) (L : List Th) (hs : a.eval s = v) (hown : OwnT w base v L) (g0 : Nat) (t : Th) (hx : a.eval x = .slice (some ⟨g0, 0, none⟩) 1 1)
    (hr : w.heap[g0]? = some (.cells #[.int .i64 t.key, .int .i64 t.name] 36)) (hl : (L.length + 1) * 16 ≤ 140737488355328) (hbase : base ≤ w.heap.size)
    (h : ∀ g cap w', OwnT w' base (.slice (some ⟨g, 0, none⟩) (L.length + 1) cap) (L ++ [t]) → w.grownBy w' v.ownBlock → (v.ownBlock = some g ∨ g = w.heap.size) → wpList Try.prog ops Q rest (a.put o.dst (.slice (some ⟨g, 0, none⟩) (L.length + 1) cap)) w') : wpList Try.prog ops Q (o :: rest) a w := by
  obtain ⟨i0, hi, hz0, hz1, hz2⟩ := info_th
  refine wpList_append_lies w hgd s x 30 ho base 36 i0 _ 2 16 Try.underlying30 hi hz0 hz1 hz2 rfl (by omega) v L.length (thv L) hs hown ⟨g0, 0, none⟩ 1 1 (thv [t]) hx rfl (fun j u hu => ?_) (fun u hu => ?_) (by omega) (by unfold maxLen; omega) hl hbase w.heap.size rfl ?_
  · match j, hu with
    | 0, hu =>
      have e : some (Value.int .i64 t.key) = some u := hu
      show w.cell? ⟨g0, 0, none⟩ = some u
      rw [← e, cell_of_row _ _ _ _ _ _ hr]; rfl
    | 1, hu =>
      have e : some (Value.int .i64 t.name) = some u := hu
      show w.cell? ⟨g0, 1, none⟩ = some u
      rw [← e, cell_of_row _ _ _ _ _ _ hr]; rfl
    | j + 2, hu => cases hu
  · have hu2 : u ∈ [Value.int .i64 t.key, Value.int .i64 t.name] := hu
    simp only [List.mem_cons, List.not_mem_nil, or_false] at hu2
    rcases hu2 with rfl | rfl <;> rfl
  · intro g cap w' h1 h2 h3 _
    exact h g cap w' (by unfold OwnT; rw [List.length_append, thv_append]; exact h1) h2 h3
/-- The sources' own blocks and things, as feeds and tidy leave them. -/
structure Fed (w : World) (lo : Nat) (v : Value) (gs : List Nat) (fd : Nat → Fd) : Prop where
  row : Row w lo v gs fd
  rd : ∀ j, j < gs.length → RdH w (fd j).a (fd j).ts
  low : ∀ j, j < gs.length → ∀ b off, (fd j).a = some ⟨b, off, none⟩ → 0 < (fd j).ts.length → b < lo
  fr : Fresh fd gs.length
  len : ∀ j, j < gs.length → (fd j).ts.length + 2 ≤ 4611686018427387904
theorem RdH.below {w w' : World} {a : Option Addr} {ts : List Th} (h : RdH w a ts) (hb : Below w.heap.size w w') : RdH w' a ts := fun hp => by
  obtain ⟨b, off, e1, e2, e3⟩ := h hp
  exact ⟨b, off, e1, Nat.lt_of_lt_of_le e2 hb.size, fun k hk => ⟨(hb.cell (p := ⟨b, off + k * 2, none⟩) e2).trans (e3 k hk).1, (hb.cell (p := ⟨b, off + k * 2 + 1, none⟩) e2).trans (e3 k hk).2⟩⟩
theorem Fed.newly {w w' : World} {lo : Nat} {v : Value} {gs : List Nat} {fd : Nat → Fd} {gm g2 : Nat} (h : Fed w lo v gs fd) (hlo : lo ≤ w.heap.size) (hb : Below w.heap.size w w') (hm : MS w' gm g2 gs.length pos0 false false 0 (sc1 fun j => gs.getD j 0)) (h1 : w.heap.size ≤ gm) (h2 : w.heap.size ≤ g2) : Newly w' gm g2 gs.length (fun j => gs.getD j 0) fd := by
  have hr := h.row.below hb
  have hl : ∀ j, j < gs.length → gs.getD j 0 < w.heap.size := fun j hj => lt_row (h.row.fb j hj)
  refine ⟨⟨hr.fb, fun j hj => (h.rd j hj).below hb, fun j hj b off e1 e2 => ?_, h.row.inj, fun j hj => ?_, fun j hj => ?_, fun j hj => ?_⟩, ⟨_, hm⟩, h.fr⟩
  · have q := h.low j hj b off e1 e2
    exact ⟨by omega, by omega, fun k hk => by have := h.row.lo k hk; omega⟩
  · have := hl j hj; exact ⟨by omega, by omega⟩
  · have := h.len j hj; omega
  · rw [(h.fr j hj).2.1]; omega
theorem sum_mono (f : Nat → Nat) : ∀ {a b : Nat}, a ≤ b → sumN f a ≤ sumN f b
  | a, 0, h => by obtain rfl : a = 0 := by omega
                  exact Nat.le_refl _
  | a, b + 1, h => by
    by_cases e : a = b + 1
    · rw [e]; exact Nat.le_refl _
    · exact Nat.le_trans (sum_mono f (a := a) (b := b) (by omega)) (Nat.le_add_right _ _)
end Go.Proofs.Ytcnfkgmefikcjaa.Me
