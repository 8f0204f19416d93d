/-
  tidy: sources that are sorted, without errors, each thing with a name of its own.
-/
import Derived.Test.YtcnfkgmefikcjaaMeTidyM
namespace Go.Proofs.Ytcnfkgmefikcjaa.Me
open Go.ChangeShapes Go.WideShapes Go.ChangeAt Go.RowKit
open Go.Proofs.Ytcnfkgmefikcjaa.Base
set_option linter.unusedVariables false
theorem below_by {w0 w w' : World} {p : Option Nat} (hb : Below w0.heap.size w0 w) (hg : w.grownBy w' p) (hp : ∀ j, p = some j → w0.heap.size ≤ j) : Below w0.heap.size w0 w' :=
  ⟨hg.os.trans hb.os, hg.tape.trans hb.tape, hg.output.trans hb.output, Nat.le_trans hb.size hg.size, fun k hk => (hg.block k (Nat.lt_of_lt_of_le hk hb.size) (fun e => by have := hp k e.symm; omega)).trans (hb.block k hk)⟩
def srcv (ss : List Src) : List Value := ss.flatMap fun s => [.slice s.a s.ts.length s.c, .int .i64 s.fin]
theorem srcv_append (a b : List Src) : srcv (a ++ b) = srcv a ++ srcv b := by unfold srcv; rw [List.flatMap_append]
theorem srcv_cons (t : Src) (L : List Src) : srcv (t :: L) = [.slice t.a t.ts.length t.c, .int .i64 t.fin] ++ srcv L := by unfold srcv; rw [List.flatMap_cons]
theorem srcv_get : ∀ (L : List Src) (j : Nat), j < L.length → (srcv L)[j * 2]? = some (.slice (L.getD j src0).a (L.getD j src0).ts.length (L.getD j src0).c) ∧ (srcv L)[j * 2 + 1]? = some (.int .i64 (L.getD j src0).fin)
  | [], j, h => by simp at h
  | r :: rs, 0, _ => by rw [srcv_cons]; exact ⟨rfl, rfl⟩
  | r :: rs, j + 1, h => by
    have ih := srcv_get rs j (by simpa using h)
    have e : ∀ c, (srcv (r :: rs))[(j + 1) * 2 + c]? = (srcv rs)[j * 2 + c]? := fun c => by
      rw [srcv_cons, List.getElem?_append_right (by simp; omega)]
      congr 1
      simp; omega
    have e0 := e 0
    rw [Nat.add_zero, Nat.add_zero] at e0
    rw [e0, e 1]
    simpa using ih
theorem infoSrc : (Try.prog.info? 46).map (fun i => (i.zero, i.size, i.bytes)) = some (some (.agg #[.slice none 0 0, .int .i64 0]), 2, 32) := by kernel_rfl
theorem info_src : ∃ i, Try.prog.info? 46 = some i ∧ i.zero = some (.agg #[.slice none 0 0, .int .i64 0]) ∧ i.size = 2 ∧ i.bytes = 32 := by
  have hq := infoSrc
  cases hi : Try.prog.info? 46 with
  | none => simp [hi] at hq
  | some i =>
    simp only [hi, Option.map_some, Option.some.injEq, Prod.mk.injEq] at hq
    exact ⟨i, rfl, hq.1, hq.2.1, hq.2.2⟩
/-- append of one source. -/
theorem pushSrc {ops : Array Oper} {rest : List Oper} {o : Oper} {a : Act} {Q : Exit → Act → World → Prop} (w : World) (hgd : o.guard = none) (s x : Operand)
    (ho : o.op = .call { callee := .builtin .append, args := #[s, x], argTypes := #[22, 22] })
    (base : Nat) (v : Value) (L : List Src) (hs : a.eval s = v) (hown : w.ownsRow base 46 2 v L.length (srcv L)) (g0 : Nat) (t : Src) (hx : a.eval x = .slice (some ⟨g0, 0, none⟩) 1 1)
    (hr : w.heap[g0]? = some (.cells #[.slice t.a t.ts.length t.c, .int .i64 t.fin] 46)) (hl : (L.length + 1) * 32 ≤ 140737488355328) (hbase : base ≤ w.heap.size)
    (h : ∀ g cap w', w'.ownsRow base 46 2 (.slice (some ⟨g, 0, none⟩) (L.length + 1) cap) (L.length + 1) (srcv (L ++ [t])) → w.grownBy w' v.ownBlock → (v.ownBlock = some g ∨ g = w.heap.size) → wpList Try.prog ops Q rest (a.put o.dst (.slice (some ⟨g, 0, none⟩) (L.length + 1) cap)) w') : wpList Try.prog ops Q (o :: rest) a w := by
  obtain ⟨i0, hi, hz0, hz1, hz2⟩ := info_src
  refine wpList_append_lies w hgd s x 22 ho base 46 i0 _ 2 32 Try.underlying22 hi hz0 hz1 hz2 rfl (by omega) v L.length (srcv L) hs hown ⟨g0, 0, none⟩ 1 1 (srcv [t]) hx rfl (fun j u hu => ?_) (fun u hu => ?_) (by omega) (by unfold maxLen; omega) hl hbase w.heap.size rfl ?_
  · match j, hu with
    | 0, hu =>
      have e : some (Value.slice t.a t.ts.length t.c) = some u := hu
      show w.cell? ⟨g0, 0, none⟩ = some u
      rw [← e, cell_of_row _ _ _ _ _ _ hr]; rfl
    | 1, hu =>
      have e : some (Value.int .i64 t.fin) = some u := hu
      show w.cell? ⟨g0, 1, none⟩ = some u
      rw [← e, cell_of_row _ _ _ _ _ _ hr]; rfl
    | j + 2, hu => cases hu
  · have hu2 : u ∈ [Value.slice t.a t.ts.length t.c, Value.int .i64 t.fin] := hu
    simp only [List.mem_cons, List.not_mem_nil, or_false] at hu2
    rcases hu2 with rfl | rfl <;> rfl
  · intro g cap w' h1 h2 h3 _
    exact h g cap w' (by rw [srcv_append]; exact h1) h2 h3
/-- A list of sources of the call's own, each with things of the call's own. -/
structure OutS (w : World) (base : Nat) (v : Value) (ss : List Src) : Prop where
  row : w.ownsRow base 46 2 v ss.length (srcv ss)
  own : ∀ s ∈ ss, OwnT w base (.slice s.a s.ts.length s.c) s.ts
theorem OutS.below {w w' : World} {base : Nat} {v : Value} {ss : List Src} (h : OutS w base v ss) (hb : Below w.heap.size w w') : OutS w' base v ss :=
  ⟨row_same h.row (fun i hi => hb.block i (row_blk h.row i hi).2), fun s hs => (h.own s hs).below hb⟩
theorem OutS.nil (w : World) (base : Nat) : OutS w base (.slice none 0 0) [] := ⟨⟨rfl, .inl ⟨rfl, rfl⟩⟩, fun s hs => by cases hs⟩
theorem OutS.push {w w1 w2 : World} {base : Nat} {v v2 : Value} {ss : List Src} {s : Src} (h : OutS w base v ss) (hb : Below w.heap.size w w1) (hs : OwnT w1 base (.slice s.a s.ts.length s.c) s.ts) (hr : w2.ownsRow base 46 2 v2 (ss.length + 1) (srcv (ss ++ [s]))) (hg : w1.grownBy w2 v.ownBlock) : OutS w2 base v2 (ss ++ [s]) := by
  have h1 := h.below hb
  have key : ∀ t : Src, OwnT w1 base (.slice t.a t.ts.length t.c) t.ts → OwnT w2 base (.slice t.a t.ts.length t.c) t.ts := fun t ht =>
    ht.same (fun i hi => hg.block i (row_blk ht i hi).2 (fun e => by
      rcases h1.row.2 with ⟨q, _⟩ | ⟨g, cap, cur, q1, _, q3, _⟩
      · rw [q] at e; cases e
      · rw [q1] at e
        obtain rfl : i = g := Option.some.inj e
        rcases ht.2 with ⟨p, _⟩ | ⟨g', cap', cur', p1, _, p3, _⟩
        · rw [p] at hi; cases hi
        · rw [p1] at hi
          obtain rfl : g' = i := Option.some.inj hi
          rw [q3] at p3
          have e2 := Option.some.inj p3
          simp only [Obj.cells.injEq] at e2
          exact absurd e2.2.1 (by decide)))
  refine ⟨by rw [List.length_append, List.length_singleton]; exact hr, fun t ht => ?_⟩
  rcases List.mem_append.1 ht with q | q
  · exact key t (h1.own t q)
  · rw [List.mem_singleton] at q
    rw [q]
    exact key s hs
theorem OutS.rdq {w : World} {base : Nat} {a : Option Addr} {n c : Nat} {ss : List Src} (h : OutS w base (.slice a n c) ss) : RdQ w a ss := fun hp => by
  rcases h.row.2 with ⟨h1, h2⟩ | ⟨g, cap, cur, h1, h2, h3, h4, h5, h6, h7⟩
  · omega
  · simp only [Value.slice.injEq] at h1
    obtain ⟨rfl, _, rfl⟩ := h1
    refine ⟨g, 0, rfl, lt_row h3, fun j hj => ?_⟩
    obtain ⟨x, y⟩ := srcv_get ss j hj
    rw [← h7] at x y
    rw [List.getElem?_take_of_lt (by omega), Array.getElem?_toList] at x y
    rw [Nat.zero_add]
    exact ⟨by rw [cell_of_row _ _ _ _ _ _ h3]; exact x, by rw [cell_of_row _ _ _ _ _ _ h3]; exact y⟩
theorem sum_bound {f : Nat → Nat} {n M : Nat} (h : ∀ j, j < n → f j ≤ M) : sumN f n ≤ n * M := by
  induction n with
  | zero => exact Nat.zero_le _
  | succ n ih =>
    unfold sumN
    have h1 := ih (fun j hj => h j (by omega))
    have h2 := h n (by omega)
    rw [Nat.succ_mul]
    omega
/-- 'l[:n]' and 'l[n:]' of a list of the call's own. -/
theorem cutT {w : World} {base : Nat} {a : Option Addr} {k c : Nat} {L : List Th} (h : OwnT w base (.slice a k c) L) (n : Nat) (hn : n ≤ k) :
    (∀ W, (Instr.sliceAt 30 (.slice a k c) none (some (.int .i64 (n : Int))) none).run Try.prog W = .ok (.slice a n c) W) ∧ (a = none → n = 0 ∧ c = 0) ∧ ∃ la, (∀ W, (Instr.sliceAt 30 (.slice a k c) (some (.int .i64 (n : Int))) none none).run Try.prog W = .ok (.slice la (k - n) (c - n)) W) ∧ (∀ V, RdH V a L → RdH V la (L.drop n)) ∧ (la = none → k - n = 0 ∧ c - n = 0) := by
  have hz : ∀ x : Addr, x.add (0 * 2) = x := fun x => by unfold Addr.add; simp
  have hkc : k ≤ c ∧ (a = none → k = 0 ∧ c = 0) ∧ k = L.length := by
    rcases h.2 with ⟨h1, h2⟩ | ⟨g, cap, cur, h1, h2, h3, h4, _⟩
    · simp only [Value.slice.injEq] at h1; obtain ⟨rfl, rfl, rfl⟩ := h1; exact ⟨Nat.le_refl _, fun _ => ⟨rfl, rfl⟩, by omega⟩
    · simp only [Value.slice.injEq] at h1; obtain ⟨rfl, rfl, rfl⟩ := h1; exact ⟨h4, (fun h => nomatch h), rfl⟩
  refine ⟨fun W => ?_, fun e => ⟨by have := hkc.2.1 e; omega, (hkc.2.1 e).2⟩, (if c = n then a else a.map (·.add (n * 2))), fun W => ?_, fun V hV => ?_, fun e => ?_⟩
  · rw [run_sliceAt_slice (h := elT), run_slice_h (ht := elT) (h0 := by omega) (h2 := by omega), szT]
    simp only [Result.andThen, sliced, Int.toNat_natCast]
    congr 2
    by_cases e : c = 0
    · rw [if_pos e]
    · rw [if_neg e]
      cases a with
      | none => rfl
      | some x => show some (x.add (0 * 2)) = some x; rw [hz]
  · rw [run_sliceAt_slice (h := elT), run_slice_l (ht := elT) (h0 := by omega) (h1 := by omega), szT]
    simp only [Result.andThen, sliced, Int.toNat_natCast]
  · intro hp
    rw [List.length_drop] at hp
    obtain ⟨b, off, e1, e2, e3⟩ := hV (by omega)
    subst e1
    rw [if_neg (by omega)]
    exact (RdH.drop (w := V) (b := b) (off := off) hV n ((⟨b, off, none⟩ : Addr).add (n * 2)) (fun _ => ad_eq _ _ _)) (by rw [List.length_drop]; exact hp)
  · cases a with
    | none => have := hkc.2.1 rfl; omega
    | some x => split at e <;> cases e
end Go.Proofs.Ytcnfkgmefikcjaa.Me
