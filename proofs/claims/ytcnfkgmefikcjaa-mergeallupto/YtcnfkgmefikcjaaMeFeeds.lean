/-
  Sources that are played, made out of a list.
-/
import Derived.Test.YtcnfkgmefikcjaaMeNew
import Derived.Deep.AppendLies
namespace Go.Proofs.Ytcnfkgmefikcjaa.Me
open Go.ChangeShapes Go.WideShapes Go.ChangeAt Go.RowKit
open Go.Proofs.Ytcnfkgmefikcjaa.Base
set_option linter.unusedVariables false
/-- A source as it is handed in. -/
structure Src where
  a : Option Addr
  c : Nat
  ts : List Th
  fin : Int
def src0 : Src := ⟨none, 0, [], 0⟩
def Src.fd (s : Src) : Fd := ⟨s.a, s.c, s.ts, s.fin, 0, 0, false, false⟩
/-- The slice reads as sources. -/
def RdQ (w : World) (a : Option Addr) (ss : List Src) : Prop :=
  0 < ss.length → ∃ b off, a = some ⟨b, off, none⟩ ∧ b < w.heap.size ∧ ∀ j, j < ss.length → w.cell? ⟨b, off + j * 2, none⟩ = some (.slice (ss.getD j src0).a (ss.getD j src0).ts.length (ss.getD j src0).c) ∧ w.cell? ⟨b, off + j * 2 + 1, none⟩ = some (.int .i64 (ss.getD j src0).fin)
def ptrs (gs : List Nat) : List Value := gs.map fun b => .pointer (some ⟨b, 0, none⟩)
/-- Feeds that stand in a row, apart from each other and from the row. -/
structure Row (w : World) (lo : Nat) (v : Value) (gs : List Nat) (fd : Nat → Fd) : Prop where
  row : w.ownsRow lo 44 1 v gs.length (ptrs gs)
  fb : ∀ j, j < gs.length → FB w (gs.getD j 0) (fd j)
  lo : ∀ j, j < gs.length → lo ≤ gs.getD j 0
  inj : ∀ j k, j < gs.length → k < gs.length → j ≠ k → gs.getD j 0 ≠ gs.getD k 0
  ap : ∀ j, j < gs.length → v.ownBlock ≠ some (gs.getD j 0)
theorem infoF : (Try.prog.info? 44).map (fun i => (i.zero, i.size, i.bytes)) = some (some (.pointer none), 1, 8) := by kernel_rfl
theorem info_feed : ∃ i, Try.prog.info? 44 = some i ∧ i.zero = some (.pointer none) ∧ i.size = 1 ∧ i.bytes = 8 := by
  have hq := infoF
  cases hi : Try.prog.info? 44 with
  | none => simp [hi] at hq
  | some i =>
    simp only [hi, Option.map_some, Option.some.injEq, Prod.mk.injEq] at hq
    exact ⟨i, rfl, hq.1, hq.2.1, hq.2.2⟩
/-- append of one pointer. -/
theorem pushF {ops : Array Oper} {rest : List Oper} {o : Oper} {a : Act} {Q : Exit → Act → World → Prop} (w : World) (hgd : o.guard = none) (s x : Operand)
    (ho : o.op = .call { callee := .builtin .append, args := #[s, x], argTypes := #[24, 24] })
    (base : Nat) (v : Value) (gs : List Nat) (hs : a.eval s = v) (hown : w.ownsRow base 44 1 v gs.length (ptrs gs)) (g0 b : Nat) (hx : a.eval x = .slice (some ⟨g0, 0, none⟩) 1 1)
    (hr : w.heap[g0]? = some (.cells #[.pointer (some ⟨b, 0, none⟩)] 44)) (hl : (gs.length + 1) * 8 ≤ 140737488355328) (hbase : base ≤ w.heap.size)
    (h : ∀ g cap w', w'.ownsRow base 44 1 (.slice (some ⟨g, 0, none⟩) (gs.length + 1) cap) (gs.length + 1) (ptrs (gs ++ [b])) → w.grownBy w' v.ownBlock → (v.ownBlock = some g ∨ g = w.heap.size) → wpList Try.prog ops Q rest (a.put o.dst (.slice (some ⟨g, 0, none⟩) (gs.length + 1) cap)) w') : wpList Try.prog ops Q (o :: rest) a w := by
  obtain ⟨i0, hi, hz0, hz1, hz2⟩ := info_feed
  refine wpList_append_lies w hgd s x 24 ho base 44 i0 _ 1 8 Try.underlying24 hi hz0 hz1 hz2 rfl (by omega) v gs.length (ptrs gs) hs hown ⟨g0, 0, none⟩ 1 1 [.pointer (some ⟨b, 0, none⟩)] hx rfl (fun j u hu => ?_) (fun u hu => ?_) (by omega) (by unfold maxLen; omega) hl hbase w.heap.size rfl ?_
  · match j, hu with
    | 0, hu =>
      have e : some (Value.pointer (some ⟨b, 0, none⟩)) = some u := hu
      show w.cell? ⟨g0, 0, none⟩ = some u
      rw [← e, cell_of_row _ _ _ _ _ _ hr]; rfl
    | j + 1, hu => cases hu
  · simp only [List.mem_cons, List.not_mem_nil, or_false] at hu
    subst hu
    rfl
  · intro g cap w' h1 h2 h3 _
    exact h g cap w' (by unfold ptrs; rw [List.map_append]; exact h1) h2 h3
theorem row_blk {w : World} {base ty sz n : Nat} {v : Value} {xs : List Value} (h : w.ownsRow base ty sz v n xs) : ∀ i, v.ownBlock = some i → base ≤ i ∧ i < w.heap.size := by
  intro i hi
  rcases h.2 with ⟨h2, _⟩ | ⟨g, cap, cur, e1, e2, e3, e4⟩
  · rw [h2] at hi; cases hi
  · rw [e1] at hi
    obtain rfl : g = i := Option.some.inj hi
    exact ⟨e2, lt_row e3⟩
theorem row_same {w w' : World} {base ty sz n : Nat} {v : Value} {xs : List Value} (h : w.ownsRow base ty sz v n xs) (hb : ∀ i, v.ownBlock = some i → w'.heap[i]? = w.heap[i]?) : w'.ownsRow base ty sz v n xs := by
  obtain ⟨h1, h2⟩ := h
  refine ⟨h1, ?_⟩
  rcases h2 with h2 | ⟨g, cap, cur, e1, e2, e3, e4⟩
  · exact .inl h2
  · exact .inr ⟨g, cap, cur, e1, e2, (hb g (by rw [e1]; rfl)).trans e3, e4⟩
theorem Row.below {w w' : World} {lo : Nat} {v : Value} {gs : List Nat} {fd : Nat → Fd} (h : Row w lo v gs fd) (hb : Below w.heap.size w w') : Row w' lo v gs fd :=
  ⟨row_same h.row (fun i hi => hb.block i (row_blk h.row i hi).2), fun j hj => (h.fb j hj).same (hb.block _ (lt_row (h.fb j hj))), h.lo, h.inj, h.ap⟩
theorem getD_last (gs : List Nat) (b j : Nat) : (gs ++ [b]).getD j 0 = if j = gs.length then b else gs.getD j 0 := by
  rw [List.getD_eq_getElem?_getD, List.getD_eq_getElem?_getD]
  by_cases e : j = gs.length
  · subst e; rw [if_pos rfl, List.getElem?_append_right (Nat.le_refl _)]; simp
  · rw [if_neg e]
    by_cases q : j < gs.length
    · rw [List.getElem?_append_left q]
    · rw [List.getElem?_eq_none (by simp; omega), List.getElem?_eq_none (by omega)]
/-- One more stands in the row. -/
theorem Row.push {w w1 w2 : World} {lo : Nat} {v v2 : Value} {gs : List Nat} {fd : Nat → Fd} {b : Nat} (h : Row w lo v gs fd) (hb1 : Below w.heap.size w w1) (hb : w.heap.size ≤ b) (hlo : lo ≤ w.heap.size) (hf : FB w1 b (fd gs.length)) (hrow : w2.ownsRow lo 44 1 v2 (gs.length + 1) (ptrs (gs ++ [b]))) (hg : w1.grownBy w2 v.ownBlock) (hp : ∀ i, v2.ownBlock = some i → v.ownBlock = some i ∨ w1.heap.size ≤ i) : Row w2 lo v2 (gs ++ [b]) fd := by
  have h1 := h.below hb1
  have hv : ∀ i, v.ownBlock = some i → i < w.heap.size := fun i hi => (row_blk h.row i hi).2
  have hne : v.ownBlock ≠ some b := fun e => by have := hv b e; omega
  have hbl := lt_row hf
  refine ⟨by rw [List.length_append, List.length_singleton]; exact hrow, fun j hj => ?_, fun j hj => ?_, fun j k hj hk hjk => ?_, fun j hj e => ?_⟩
  · rw [List.length_append, List.length_singleton] at hj
    rw [getD_last]
    by_cases e : j = gs.length
    · subst e; rw [if_pos rfl]; exact hf.same (hg.block b hbl (fun e => hne e.symm))
    · rw [if_neg e]
      have q := h1.fb j (by omega)
      exact q.same (hg.block _ (lt_row q) (fun e2 => h1.ap j (by omega) e2.symm))
  · rw [List.length_append, List.length_singleton] at hj
    rw [getD_last]
    by_cases e : j = gs.length
    · rw [if_pos e]; omega
    · rw [if_neg e]; exact h.lo j (by omega)
  · rw [List.length_append, List.length_singleton] at hj hk
    rw [getD_last, getD_last]
    by_cases e : j = gs.length
    · by_cases e2 : k = gs.length
      · omega
      · rw [if_pos e, if_neg e2]; have := lt_row (h.fb k (by omega)); omega
    · by_cases e2 : k = gs.length
      · rw [if_neg e, if_pos e2]; have := lt_row (h.fb j (by omega)); omega
      · rw [if_neg e, if_neg e2]; exact h.inj j k (by omega) (by omega) hjk
  · rw [List.length_append, List.length_singleton] at hj
    rw [getD_last] at e
    by_cases q : j = gs.length
    · rw [if_pos q] at e
      rcases hp b e with e2 | e2
      · exact hne e2
      · omega
    · rw [if_neg q] at e
      rcases hp _ e with e2 | e2
      · exact h.ap j (by omega) e2
      · have := lt_row (h1.fb j (by omega)); omega
set_option maxHeartbeats 4000000 in
set_option maxRecDepth 100000 in
theorem feeds_any (a : Option Addr) (c : Nat) (ss : List Src) (w : World) (hR : RdQ w a ss) (hn : (ss.length + 1) * 8 ≤ 140737488355328) :
    Calls Try.prog 4 #[.slice a ss.length c] w fun e w' => ∃ v gs, e = .returned v ∧ gs.length = ss.length ∧ Row w' w.heap.size v gs (fun j => (ss.getD j src0).fd) ∧ Below w.heap.size w w' := by
  have HR := hide hR
  clear hR
  go_enter Try.func4, Try.ntmps4
  go_wp2_with fail
  go_loopw [3, 4] (fun s3 s4 wr => ∃ (i : Nat) (v : Value) (gs : List Nat), i ≤ ss.length ∧ v = s3 ∧ .int .i64 (i : Int) = s4 ∧ Hid (gs.length = i) ∧ Hid (Row wr w.heap.size v gs (fun j => (ss.getD j src0).fd)) ∧ Hid (Below w.heap.size w wr)) (fun _ s4 _ => ss.length - (intOf s4).toNat)
  case atStart =>
    refine ⟨0, .slice none 0 0, [], by omega, rfl, rfl, rfl, ⟨⟨rfl, .inl ⟨rfl, rfl⟩⟩, fun j hj => absurd hj (by simp), fun j hj => absurd hj (by simp), fun j k hj => absurd hj (by simp), fun j hj => absurd hj (by simp)⟩, Below.refl _ _⟩
  case round =>
    obtain ⟨i, v, gs, hi, rfl, rfl, HGL, HRW, HB⟩ := hrel
    by_cases hin : i < ss.length
    · have hii : (i : Int) < (ss.length : Int) := by omega
      obtain ⟨b, off, rfl, hbl, hcs⟩ := HR.out (by omega)
      obtain ⟨q0, q1⟩ := hcs i hin
      have c0 := (HB.out.cell (p := ⟨b, off + i * 2, none⟩) hbl).trans q0
      have c1 := (HB.out.cell (p := ⟨b, off + i * 2 + 1, none⟩) hbl).trans q1
      have HFD : Hid (∀ t, ss.getD i src0 = t → (ss.getD gs.length src0).fd = t.fd) := fun t h => by rw [HGL.out, h]
      generalize htt : ss.getD i src0 = t at c0 c1
      have HTT := hide (HFD.out t htt)
      clear hcs q0 q1 HFD htt
      obtain ⟨sa, sc, sts, sfin⟩ := t
      simp only at c0 c1
      obtain ⟨L, hL⟩ : ∃ L, sts.length = L := ⟨_, rfl⟩
      rw [hL] at c0
      have HL := hide hL
      clear hL
      obtain ⟨gb, hgb⟩ : ∃ g, wr.heap.size = g := ⟨_, rfl⟩
      obtain ⟨w5, hw5⟩ : ∃ w5, wr.alloc (.cells #[.slice sa L sc, .int .i64 sfin, .int .i64 0, .int .i64 0, .bool false, .bool false] 48) = w5 := ⟨_, rfl⟩
      obtain ⟨g6, hg6⟩ : ∃ g, w5.heap.size = g := ⟨_, rfl⟩
      obtain ⟨w6, hw6⟩ : ∃ w6, w5.alloc (.cells #[.pointer (some ⟨gb, 0, none⟩)] 44) = w6 := ⟨_, rfl⟩
      have HB5 : Hid (Below wr.heap.size wr w5) := by rw [← hw5]; exact (Below.refl _ _).alloc (Nat.le_refl _) _
      have HB6 : Hid (Below w5.heap.size w5 w6) := by rw [← hw6]; exact (Below.refl _ _).alloc (Nat.le_refl _) _
      have HF5 : Hid (w5.heap[gb]? = some (.cells #[.slice sa L sc, .int .i64 sfin, .int .i64 0, .int .i64 0, .bool false, .bool false] 48)) := by rw [← hw5, ← hgb]; exact heap_alloc_new _ _
      have HP6 : Hid (w6.heap[g6]? = some (.cells #[.pointer (some ⟨gb, 0, none⟩)] 44)) := by rw [← hw6, ← hg6]; exact heap_alloc_new _ _
      have HBW := hide (below_trans HB5.out HB6.out)
      have HF6 : Hid (FB w6 gb (ss.getD gs.length src0).fd) := by
        rw [HTT.out]
        unfold FB Src.fd
        rw [HL.out]
        exact (HB6.out.block gb (lt_row HF5.out)).trans HF5.out
      have HRW6 := hide (HRW.out.below HBW.out)
      have HZ : Hid (wr.heap.size ≤ gb ∧ w.heap.size ≤ w6.heap.size ∧ w.heap.size ≤ wr.heap.size) := ⟨by omega, Nat.le_trans HB.out.size HBW.out.size, HB.out.size⟩
      have HBD : Hid ((gs.length + 1) * 8 ≤ 140737488355328) := by have h1 := HGL.out; show _ * 8 ≤ _; rw [h1]; omega
      go_wp2_with (at_builtin; refine pushF _ rfl _ _ rfl w.heap.size v gs rfl HRW6.out.row g6 gb rfl HP6.out HBD.out HZ.out.2.1 ?_; intro g7 c7 w7 hr7 hg7 hv7; have HR7 := hide (HRW.out.push HBW.out HZ.out.1 HZ.out.2.2 HF6.out hr7 hg7 (fun j hj => by rcases hv7 with e | e; exact .inl (e.trans hj); right; have e2 : g7 = j := Option.some.inj hj; omega)); have HB7 : Hid (Below w.heap.size w w7) := ⟨hg7.os.trans (HBW.out.os.trans HB.out.os), hg7.tape.trans (HBW.out.tape.trans HB.out.tape), hg7.output.trans (HBW.out.output.trans HB.out.output), Nat.le_trans HZ.out.2.1 hg7.size, fun k hk => (hg7.block k (Nat.lt_of_lt_of_le hk HZ.out.2.1) (fun e => by have := (row_blk HRW.out.row k e.symm).1; omega)).trans ((HBW.out.block k (Nat.lt_of_lt_of_le hk HZ.out.2.2)).trans (HB.out.block k hk))⟩; clear hr7 hg7 hv7)
      go_roundw
      case rel => exact ⟨i + 1, _, gs ++ [gb], by omega, rfl, by go_num, (by have h1 := HGL.out; show (gs ++ [gb]).length = _; simp; omega), HR7, HB7⟩
      case measure => simp [intOf]; omega
    · obtain rfl : i = ss.length := by omega
      go_wp2_with fail
      go_ret
      exact ⟨v, gs, rfl, HGL.out, HRW.out, HB.out⟩
end Go.Proofs.Ytcnfkgmefikcjaa.Me
