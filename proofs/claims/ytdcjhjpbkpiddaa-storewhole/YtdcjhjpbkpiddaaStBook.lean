/-
  The four books of a law: a block of twenty cells; what an Append must answer, by the words.
-/
import Derived.Test.YtdcjhjpbkpiddaaStGen4
import Derived.Deep.RegionWith
import Derived.Deep.RegionHeldLaw
import Derived.Deep.AppendLies
namespace Go.Proofs.Ytdcjhjpbkpiddaa.St
open Go.ChangeShapes Go.WideShapes Go.ChangeAt Go.RowKit
open Go.Proofs.Ytdcjhjpbkpiddaa.Base
set_option linter.unusedVariables false
/-- The block lb is four books; F k c is the cell c of the book k. -/
def LBF (w : World) (lb : Nat) (F : Nat → Nat → Value) : Prop := ∃ cur : Array Value, w.heap[lb]? = some (.cells cur 28) ∧ cur.size = 20 ∧ ∀ k c, k < 4 → c < 5 → cur[k * 5 + c]? = some (F k c)
def setF (F : Nat → Nat → Value) (k c : Nat) (v : Value) : Nat → Nat → Value := fun j d => if j = k ∧ d = c then v else F j d
theorem LBF.cell {w : World} {lb : Nat} {F : Nat → Nat → Value} (h : LBF w lb F) (k c : Nat) (hk : k < 4) (hc : c < 5) : w.cell? ⟨lb, k * 5 + c, none⟩ = some (F k c) := by
  obtain ⟨cur, h1, h2, h3⟩ := h
  rw [cell_of_row _ _ _ _ _ _ h1]
  exact h3 k c hk hc
theorem LBF.cell0 {w : World} {lb : Nat} {F : Nat → Nat → Value} (h : LBF w lb F) (k : Nat) (hk : k < 4) : w.cell? ⟨lb, k * 5, none⟩ = some (F k 0) := h.cell k 0 hk (by omega)
theorem LBF.frozen {w : World} {lb : Nat} {F : Nat → Nat → Value} (h : LBF w lb F) (j : Nat) : w.frozen? ⟨lb, j, none⟩ = false := by
  obtain ⟨cur, h1, _⟩ := h
  exact frozen_of_row _ _ _ _ _ h1
theorem LBF.lt {w : World} {lb : Nat} {F : Nat → Nat → Value} (h : LBF w lb F) : lb < w.heap.size := by
  obtain ⟨cur, h1, _⟩ := h
  by_cases hg : lb < w.heap.size
  · exact hg
  · rw [Array.getElem?_eq_none (by omega)] at h1; cases h1
theorem LBF.grown {w w' : World} {lb : Nat} {F : Nat → Nat → Value} {q : Option Nat} (h : LBF w lb F) (hg : w.grownBy w' q) (hq : q ≠ some lb) : LBF w' lb F := by
  have hl := h.lt
  obtain ⟨cur, h1, h2, h3⟩ := h
  exact ⟨cur, by rw [hg.block lb hl (fun e => hq e.symm)]; exact h1, h2, h3⟩
theorem LBF.kept {w w' : World} {lb : Nat} {F : Nat → Nat → Value} {p q : Option Nat} (h : LBF w lb F) (hg : Kept2 w w' p q) (hp : p ≠ some lb) (hq : q ≠ some lb) : LBF w' lb F := by
  have hl := h.lt
  obtain ⟨cur, h1, h2, h3⟩ := h
  exact ⟨cur, by rw [hg.block lb hl (fun e => hp e.symm) (fun e => hq e.symm)]; exact h1, h2, h3⟩
theorem LBF.set {w : World} {lb : Nat} {F : Nat → Nat → Value} (h : LBF w lb F) (k c : Nat) (hk : k < 4) (hc : c < 5) (v : Value) : LBF (w.setCell ⟨lb, k * 5 + c, none⟩ v) lb (setF F k c v) := by
  obtain ⟨cur, h1, h2, h3⟩ := h
  refine ⟨cur.setIfInBounds (k * 5 + c) v, by rw [heap_setCell_same _ _ _ _ _ _ h1], by simp [h2], fun j d hj hd => ?_⟩
  unfold setF
  by_cases e : j = k ∧ d = c
  · obtain ⟨rfl, rfl⟩ := e
    rw [if_pos ⟨rfl, rfl⟩, Array.getElem?_setIfInBounds, if_pos rfl, if_pos (by omega)]
  · rw [if_neg e, Array.getElem?_setIfInBounds, if_neg (by omega)]
    exact h3 j d hj hd
theorem LBF.congr {w : World} {lb : Nat} {F G : Nat → Nat → Value} (h : LBF w lb F) (e : ∀ k c, k < 4 → c < 5 → F k c = G k c) : LBF w lb G := by
  obtain ⟨cur, h1, h2, h3⟩ := h
  exact ⟨cur, h1, h2, fun k c hk hc => by rw [h3 k c hk hc, e k c hk hc]⟩
/-- The cells of one book. -/
structure BkAt (F : Nat → Nat → Value) (k : Nat) (v : Value) (O V S : Bool) (A : Int) : Prop where
  c0 : F k 0 = v
  c1 : F k 1 = .bool O
  c2 : F k 2 = .bool V
  c3 : F k 3 = .bool S
  c4 : F k 4 = .int .i64 A
theorem LBF.five {w : World} {lb k : Nat} {F : Nat → Nat → Value} {v : Value} {O V S : Bool} {A : Int} (h : LBF w lb F) (hk : k < 4) (b : BkAt F k v O V S A) :
    w.cell? ⟨lb, k * 5, none⟩ = some v ∧ w.cell? ⟨lb, k * 5 + 1, none⟩ = some (.bool O) ∧ w.cell? ⟨lb, k * 5 + 2, none⟩ = some (.bool V) ∧ w.cell? ⟨lb, k * 5 + 3, none⟩ = some (.bool S) ∧ w.cell? ⟨lb, k * 5 + 4, none⟩ = some (.int .i64 A) :=
  ⟨by rw [h.cell0 k hk, b.c0], by rw [h.cell k 1 hk (by omega), b.c1], by rw [h.cell k 2 hk (by omega), b.c2], by rw [h.cell k 3 hk (by omega), b.c3], by rw [h.cell k 4 hk (by omega), b.c4]⟩
/-- append of a whole slice at a step of a region that draws: where what comes back lies. -/
theorem step_join2_d {ops : Array Oper} {o : Oper} {a : Act} {w : World} {K : Act → World → Prop} {Q : Exit → Act → World → Prop} {E : Prop} (hgd : o.guard = none) (s x : Operand)
    (ho : o.op = .call { callee := .builtin .append, args := #[s, x], argTypes := #[25, 25] }) (d : Tmp) (hd : o.dst = some d)
    (base : Nat) (v : Value) (bs : List (BitVec 8)) (hs : a.eval s = v) (hown : Own w base v bs) (xa : Option Addr) (m cap : Nat) (cs : List (BitVec 8)) (hx : a.eval x = .slice xa m cap)
    (hr : Rd w xa m cs) (hnil : xa = none → m = 0 ∧ cap = 0) (hm : 0 < m) (hl : bs.length + m ≤ 140737488355328) (hbase : base ≤ w.heap.size)
    (h : ∀ v' w', Own w' base v' (bs ++ cs) → w.grownBy w' v.ownBlock → (v'.ownBlock = v.ownBlock ∨ ∃ g, v'.ownBlock = some g ∧ w.heap.size ≤ g) → K (a.put (some d) v') w') :
    if Region.wanted o (yielded ops a.tmps) = true then Oper.wp Try.prog o a w K Q else E := by
  obtain ⟨i0, hi, hz0, hz1, hz2⟩ := info_parts info8
  have hcl := hr.1
  cases xa with
  | none => have := (hnil rfl).1; omega
  | some ad =>
    refine step_append_lies w hgd s x 25 ho base 5 i0 (.int .u8 0) 1 1 Try.underlying25 hi hz0 hz1 hz2 rfl (by omega) v bs.length (vals bs) hs hown ad m cap (vals cs) hx (by rw [length_vals]; omega) (fun j u hu => hr.cellsAt ad rfl j u hu) (vals_one _) hm (by unfold maxLen; omega) (by omega) hbase w.heap.size rfl ?_
    intro g cp w' h1 h2 h3 _
    rw [hd]
    refine h _ w' (own_append h1 (by omega)) h2 ?_
    rcases h3 with h3 | h3
    · exact .inl h3.symm
    · exact .inr ⟨g, rfl, by omega⟩
set_option maxRecDepth 100000 in
theorem wants_out (lb k : Nat) (F : Nat → Nat → Value) (v more : Value) (V S : Bool) (A : Int) (w : World) (h : LBF w lb F) (hk : k < 4) (hb : BkAt F k v true V S A) :
    Calls Try.prog 11 #[.pointer (some ⟨lb, k * 5, none⟩), more] w fun e w' => e = .returned (.int .i64 54) ∧ w' = w := by
  obtain ⟨c0, c1, c2, c3, c4⟩ := h.five hk hb
  clear h hb
  go_enter Try.func11, Try.ntmps11
  go_wp2_with fail
  go_ret
  exact ⟨rfl, rfl⟩
set_option maxRecDepth 100000 in
theorem wants_over (lb k : Nat) (F : Nat → Nat → Value) (v more : Value) (S : Bool) (A : Int) (w : World) (h : LBF w lb F) (hk : k < 4) (hb : BkAt F k v false true S A) :
    Calls Try.prog 11 #[.pointer (some ⟨lb, k * 5, none⟩), more] w fun e w' => e = .returned (.int .i64 55) ∧ w' = w := by
  obtain ⟨c0, c1, c2, c3, c4⟩ := h.five hk hb
  clear h hb
  go_enter Try.func11, Try.ntmps11
  go_wp2_with fail
  go_ret
  exact ⟨rfl, rfl⟩
set_option maxHeartbeats 1000000 in
set_option maxRecDepth 100000 in
/-- No stop is passed. -/
theorem wants_more (lb k base : Nat) (F : Nat → Nat → Value) (la : Option Addr) (ll lc : Nat) (S : Bool) (A : Int) (xs : List (BitVec 8)) (ma : Option Addr) (ml mc : Nat) (bs : List (BitVec 8)) (w : World) (h : LBF w lb F) (hk : k < 4) (hb : BkAt F k (.slice la ll lc) false false S A)
    (ho : Own w base (.slice la ll lc) xs) (hbase : base ≤ w.heap.size) (hbb : lb < base) (hr : Rd w ma ml bs) (hnil : ma = none → ml = 0 ∧ mc = 0) (hl : ll + ml ≤ 268435456) (hS : S = false ∨ (ll : Int) + (ml : Int) ≤ A) :
    Calls Try.prog 11 #[.pointer (some ⟨lb, k * 5, none⟩), .slice ma ml mc] w fun e w' => ∃ v, e = .returned (.int .i64 0) ∧ LBF w' lb (setF F k 0 v) ∧ Own w' base v (xs ++ bs) ∧ Kept2 w w' (some lb) (Value.slice la ll lc).ownBlock ∧ Whr w (.slice la ll lc) v := by
  obtain ⟨c0, c1, c2, c3, c4⟩ := h.five hk hb
  have HF := hide h
  have HR := hide hr
  have HO := hide ho
  have HXL : Hid (xs.length = ll) := (Got.cap ho).2.symm
  have hli : (ml : Int) ≤ 268435456 := by omega
  have hli0 : (ll : Int) ≤ 268435456 := by omega
  have HNE : Hid (∀ i, (Value.slice la ll lc).ownBlock = some i → i ≠ lb) := fun i e => by have := (blk ho i e).1; omega
  clear h hb hr ho
  cases S with
  | false =>
    clear hS
    go_enter Try.func11, Try.ntmps11
    go_wp2_with (at_builtin; refine join2 _ rfl _ _ rfl base (.slice la ll lc) xs rfl HO.out ma ml mc bs rfl HR.out hnil (by have := HXL.out; omega) hbase ?_
                 intro v3 w3 ho3 hg3 hwh3
                 obtain ⟨a3, k3, hv3⟩ := ho3.shape
                 obtain ⟨N3, hN3⟩ : ∃ N, (xs ++ bs).length = N := ⟨_, rfl⟩
                 rw [hN3] at hv3
                 subst hv3
                 clear hN3
                 have HO3 := hide ho3
                 have HG3 := hide hg3
                 have HW3 := hide hwh3
                 have HF3 := hide (HF.out.grown hg3 (fun e => HNE.out _ e rfl))
                 have g0 := HF3.out.cell0 k hk
                 have gf := HF3.out.frozen (k * 5)
                 clear ho3 hg3 hwh3 c0 c1 c2 c3 c4)
    go_ret
    refine ⟨_, rfl, HF3.out.set k 0 hk (by omega) _, ?_, ?_, whr_from HW3.out (Nat.le_refl _)⟩
    · exact keep HO3.out (grown_cell (World.grownBy.refl _ _) _ _) (fun i j e e2 => by have h1 := (blk HO3.out i e).1; have h2 := Option.some.inj e2; omega)
    · exact kept2_trans (kept2_grown HG3.out (.inr (.inl rfl))) (kept2_cell _ _ _ _ _)
  | true =>
    have hA : ¬ A < (ll : Int) + (ml : Int) := by
      rcases hS with h | h
      · cases h
      · omega
    clear hS
    go_enter Try.func11, Try.ntmps11
    go_wp2_with (at_builtin; refine join2 _ rfl _ _ rfl base (.slice la ll lc) xs rfl HO.out ma ml mc bs rfl HR.out hnil (by have := HXL.out; omega) hbase ?_
                 intro v3 w3 ho3 hg3 hwh3
                 obtain ⟨a3, k3, hv3⟩ := ho3.shape
                 obtain ⟨N3, hN3⟩ : ∃ N, (xs ++ bs).length = N := ⟨_, rfl⟩
                 rw [hN3] at hv3
                 subst hv3
                 clear hN3
                 have HO3 := hide ho3
                 have HG3 := hide hg3
                 have HW3 := hide hwh3
                 have HF3 := hide (HF.out.grown hg3 (fun e => HNE.out _ e rfl))
                 have g0 := HF3.out.cell0 k hk
                 have gf := HF3.out.frozen (k * 5)
                 clear ho3 hg3 hwh3 c0 c1 c2 c3 c4)
    go_ret
    refine ⟨rfl, _, HF3.out.set k 0 hk (by omega) _, ?_, ?_, whr_from HW3.out (Nat.le_refl _)⟩
    · exact keep HO3.out (grown_cell (World.grownBy.refl _ _) _ _) (fun i j e e2 => by have h1 := (blk HO3.out i e).1; have h2 := Option.some.inj e2; omega)
    · exact kept2_trans (kept2_grown HG3.out (.inr (.inl rfl))) (kept2_cell _ _ _ _ _)
set_option maxHeartbeats 1000000 in
set_option maxRecDepth 100000 in
/-- The stop is passed, and it lies behind what there is. -/
theorem wants_part (lb k base c : Nat) (F : Nat → Nat → Value) (la : Option Addr) (ll lc : Nat) (A : Int) (xs : List (BitVec 8)) (ma : Option Addr) (ml mc : Nat) (bs : List (BitVec 8)) (w : World) (h : LBF w lb F) (hk : k < 4) (hb : BkAt F k (.slice la ll lc) false false true A)
    (ho : Own w base (.slice la ll lc) xs) (hbase : base ≤ w.heap.size) (hbb : lb < base) (hr : Rd w ma ml bs) (hnil : ma = none → ml = 0 ∧ mc = 0) (hmc : ml ≤ mc) (hl : ll + ml ≤ 268435456) (hA1 : A < (ll : Int) + (ml : Int)) (hA2 : (ll : Int) < A) (hc : A - (ll : Int) = (c : Int)) :
    Calls Try.prog 11 #[.pointer (some ⟨lb, k * 5, none⟩), .slice ma ml mc] w fun e w' => ∃ v, e = .returned (.int .i64 55) ∧ LBF w' lb (setF (setF F k 0 v) k 2 (.bool true)) ∧ Own w' base v (xs ++ bs.take c) ∧ Kept2 w w' (some lb) (Value.slice la ll lc).ownBlock ∧ Whr w (.slice la ll lc) v := by
  obtain ⟨c0, c1, c2, c3, c4⟩ := h.five hk hb
  have HF := hide h
  have HB := hide hb
  have HO := hide ho
  have HXL : Hid (xs.length = ll) := (Got.cap ho).2.symm
  have hli : (ml : Int) ≤ 268435456 := by omega
  have hli0 : (ll : Int) ≤ 268435456 := by omega
  have hcm : c ≤ ml := by omega
  have hwc : IntKind.i64.wrap (A - (ll : Int)) = (c : Int) := by rw [IntKind.wrap_i64]; omega
  have hwq : IntKind.i64.wrap (c : Int) = (c : Int) := by rw [IntKind.wrap_i64]; omega
  have hc0 : 0 < c := by omega
  have HC := hide hc
  clear hc
  have HNE : Hid (∀ i, (Value.slice la ll lc).ownBlock = some i → i ≠ lb) := fun i e => by have := (blk ho i e).1; omega
  obtain ⟨hfr, _⟩ := front ma ml mc c bs w hr hcm hmc
  have HRD : Hid (Rd w.drew ma c (bs.take c)) := (hr.cut c hcm).below (Below.refl _ _).drew
  have HOD : Hid (Own w.drew base (.slice la ll lc) xs) := ho.below (Below.refl _ _).drew
  have hnil5 : ma = none → c = 0 ∧ mc = 0 := fun e => ⟨by have := (hnil e).1; omega, (hnil e).2⟩
  clear h hb hr ho
  go_enter Try.func11, Try.ntmps11
  go_wp2_with fail
  go_region_law ((refine step_join2_d rfl (.tmp 46) (.tmp 54) rfl 55 rfl base (.slice la ll lc) xs (by first | (simp [Act.eval]; done) | rfl | (simp [Act.eval, Act.put]; done)) HOD.out ma c mc (bs.take c) (by first | (simp [Act.eval]; done) | rfl | (simp [Act.eval, Act.put]; done)) HRD.out hnil5 hc0 (by have := HXL.out; omega) hbase ?_; intro v3 w3 ho3 hg3 hwh3; obtain ⟨a3, k3, hv3⟩ := ho3.shape; obtain ⟨N3, hN3⟩ : ∃ N, (xs ++ bs.take c).length = N := ⟨_, rfl⟩; rw [hN3] at hv3; subst hv3; clear hN3; have HO3 := hide ho3; have HG3 : Hid (w.grownBy w3 (Value.slice la ll lc).ownBlock) := grown_trans (grown_of_below ((Below.refl w.heap.size w).drew)) hg3; have HW3 := hide hwh3; have HF3 := hide (HF.out.grown HG3.out (fun e => HNE.out _ e rfl)); have HF4 := hide (HF3.out.set k 0 hk (by omega) (.slice a3 N3 k3)); have g0 := HF3.out.cell0 k hk; have gf := HF3.out.frozen (k * 5); have g2 := (HF4.out.cell k 2 hk (by omega)).trans (congrArg some (show setF F k 0 (.slice a3 N3 k3) k 2 = .bool false by unfold setF; rw [if_neg (by omega)]; exact HB.out.c2)); have gf2 := HF4.out.frozen (k * 5 + 2); simp only [Nat.add_zero] at g2 gf2; clear ho3 hg3 hwh3))
  all_goals
    go_wp2_with fail
    go_ret
    refine ⟨_, rfl, HF4.out.set k 2 hk (by omega) _, ?_, ?_, whr_from HW3.out (Nat.le_refl _)⟩
    · refine keep (keep HO3.out (grown_cell (World.grownBy.refl _ (some lb)) _ _) ?_) (grown_cell (World.grownBy.refl _ (some lb)) _ _) ?_ <;> exact (fun i j e e2 => by have h1 := (blk HO3.out i e).1; have h2 := Option.some.inj e2; omega)
    · exact kept2_trans (kept2_trans (kept2_grown HG3.out (.inr (.inl rfl))) (kept2_cell _ _ _ _ _)) (kept2_cell _ _ _ _ _)
set_option maxHeartbeats 1000000 in
set_option maxRecDepth 100000 in
/-- The stop is passed already. -/
theorem wants_none (lb k : Nat) (F : Nat → Nat → Value) (la : Option Addr) (ll lc : Nat) (A : Int) (ma : Option Addr) (ml mc : Nat) (w : World) (h : LBF w lb F) (hk : k < 4) (hb : BkAt F k (.slice la ll lc) false false true A)
    (hl : ll + ml ≤ 268435456) (hA1 : A < (ll : Int) + (ml : Int)) (hA2 : ¬ (ll : Int) < A) :
    Calls Try.prog 11 #[.pointer (some ⟨lb, k * 5, none⟩), .slice ma ml mc] w fun e w' => e = .returned (.int .i64 55) ∧ LBF w' lb (setF F k 2 (.bool true)) ∧ w.grownBy w' (some lb) := by
  obtain ⟨c0, c1, c2, c3, c4⟩ := h.five hk hb
  have HF := hide h
  have f2 := h.frozen (k * 5 + 2)
  have hli : (ml : Int) ≤ 268435456 := by omega
  have hli0 : (ll : Int) ≤ 268435456 := by omega
  clear h hb
  go_enter Try.func11, Try.ntmps11
  go_wp2_with fail
  go_ret
  exact ⟨rfl, HF.out.set k 2 hk (by omega) _, grown_cell (World.grownBy.refl _ _) _ _⟩
end Go.Proofs.Ytdcjhjpbkpiddaa.St
