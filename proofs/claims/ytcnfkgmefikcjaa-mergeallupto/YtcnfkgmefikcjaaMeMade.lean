/-
  A merge of sources that are played, as the statements make it.
-/
import Derived.Test.YtcnfkgmefikcjaaMeFeeds
namespace Go.Proofs.Ytcnfkgmefikcjaa.Me
open Go.ChangeShapes Go.WideShapes Go.ChangeAt Go.RowKit
open Go.Proofs.Ytcnfkgmefikcjaa.Base
set_option linter.unusedVariables false
theorem infoA : (Try.prog.info? 38).map (fun i => (i.zero, i.size, i.bytes)) = some (some .nilFunc, 1, 8) := by kernel_rfl
theorem info_ask : ∃ i, Try.prog.info? 38 = some i ∧ i.zero = some .nilFunc ∧ i.size = 1 ∧ i.bytes = 8 := by
  have hq := infoA
  cases hi : Try.prog.info? 38 with
  | none => simp [hi] at hq
  | some i =>
    simp only [hi, Option.map_some, Option.some.injEq, Prod.mk.injEq] at hq
    exact ⟨i, rfl, hq.1, hq.2.1, hq.2.2⟩
/-- append of one function. -/
theorem pushA {ops : Array Oper} {rest : List Oper} {o : Oper} {a : Act} {Q : Exit → Act → World → Prop} (w : World) (hgd : o.guard = none) (s x : Operand)
    (ho : o.op = .call { callee := .builtin .append, args := #[s, x], argTypes := #[49, 49] })
    (base : Nat) (v : Value) (vs : List Value) (hs : a.eval s = v) (hown : w.ownsRow base 38 1 v vs.length vs) (g0 : Nat) (y : Value) (hx : a.eval x = .slice (some ⟨g0, 0, none⟩) 1 1)
    (hr : w.heap[g0]? = some (.cells #[y] 38)) (hy : y.oneCell' = true) (hl : (vs.length + 1) * 8 ≤ 140737488355328) (hbase : base ≤ w.heap.size)
    (h : ∀ g cap w', w'.ownsRow base 38 1 (.slice (some ⟨g, 0, none⟩) (vs.length + 1) cap) (vs.length + 1) (vs ++ [y]) → w.grownBy w' v.ownBlock → (v.ownBlock = some g ∨ g = w.heap.size) → wpList Try.prog ops Q rest (a.put o.dst (.slice (some ⟨g, 0, none⟩) (vs.length + 1) cap)) w') : wpList Try.prog ops Q (o :: rest) a w := by
  obtain ⟨i0, hi, hz0, hz1, hz2⟩ := info_ask
  refine wpList_append_lies w hgd s x 49 ho base 38 i0 _ 1 8 Try.underlying49 hi hz0 hz1 hz2 rfl (by omega) v vs.length vs hs hown ⟨g0, 0, none⟩ 1 1 [y] hx rfl (fun j u hu => ?_) (fun u hu => ?_) (by omega) (by unfold maxLen; omega) hl hbase w.heap.size rfl ?_
  · match j, hu with
    | 0, hu =>
      have e : some y = some u := hu
      show w.cell? ⟨g0, 0, none⟩ = some u
      rw [← e, cell_of_row _ _ _ _ _ _ hr]; rfl
    | j + 1, hu => cases hu
  · simp only [List.mem_cons, List.not_mem_nil, or_false] at hu
    subst hu
    exact hy
  · intro g cap w' h1 h2 h3 _
    exact h g cap w' h1 h2 h3
/-- A block of functions. -/
def VB (w : World) (g m : Nat) (G : Nat → Value) : Prop := ∃ cur : Array Value, w.heap[g]? = some (.cells cur 38) ∧ m ≤ cur.size ∧ ∀ j, j < m → cur[j]? = some (G j)
def setV (G : Nat → Value) (i : Nat) (v : Value) : Nat → Value := fun j => if j = i then v else G j
theorem VB.lt {w : World} {g m : Nat} {G : Nat → Value} (h : VB w g m G) : g < w.heap.size := by obtain ⟨cur, h0, _⟩ := h; exact lt_row h0
theorem VB.cell {w : World} {g m : Nat} {G : Nat → Value} (h : VB w g m G) (j : Nat) (hj : j < m) : w.cell? ⟨g, j, none⟩ = some (G j) := by
  obtain ⟨cur, h0, h1, h2⟩ := h
  rw [cell_of_row _ _ _ _ _ _ h0]
  exact h2 j hj
theorem VB.frozen {w : World} {g m : Nat} {G : Nat → Value} (h : VB w g m G) (k : Nat) : w.frozen? ⟨g, k, none⟩ = false := by obtain ⟨cur, h0, _⟩ := h; exact frozen_of_row _ _ _ _ _ h0
theorem VB.same {w w' : World} {g m : Nat} {G : Nat → Value} (h : VB w g m G) (e : w'.heap[g]? = w.heap[g]?) : VB w' g m G := by obtain ⟨cur, h0, h1⟩ := h; exact ⟨cur, e.trans h0, h1⟩
theorem VB.below {w w' : World} {g m : Nat} {G : Nat → Value} (h : VB w g m G) (hb : Below w.heap.size w w') : VB w' g m G := h.same (hb.block g h.lt)
theorem VB.put {w : World} {g m : Nat} {G : Nat → Value} (h : VB w g m G) (i : Nat) (hi : i < m) (v : Value) : VB (w.setCell ⟨g, i, none⟩ v) g m (setV G i v) := by
  obtain ⟨cur, h0, h1, h2⟩ := h
  refine ⟨_, heap_setCell_same _ _ _ _ _ _ h0, by simpa using h1, fun j hj => ?_⟩
  rw [Array.getElem?_setIfInBounds]
  unfold setV
  by_cases e : j = i
  · subst e; rw [if_pos rfl, if_pos rfl, if_pos (by omega)]
  · rw [if_neg (fun e2 => e e2.symm), if_neg e]; exact h2 j hj
theorem vb_of {w : World} {base g m cap : Nat} {vs : List Value} (h : w.ownsRow base 38 1 (.slice (some ⟨g, 0, none⟩) m cap) vs.length vs) : VB w g vs.length (fun j => vs.getD j .nilFunc) ∧ m = vs.length ∧ vs.length ≤ cap := by
  rcases h.2 with ⟨h1, h2⟩ | ⟨g', cap', cur, h1, h2, h3, h4, h5, h6, h7⟩
  · cases h1
  · simp only [Value.slice.injEq, Option.some.injEq, Addr.mk.injEq] at h1
    obtain ⟨⟨rfl, _⟩, rfl, rfl⟩ := h1
    refine ⟨⟨cur, h3, by omega, fun j hj => ?_⟩, rfl, h4⟩
    have e : (cur.toList.take (vs.length * 1))[j]? = vs[j]? := by rw [h7]
    rw [List.getElem?_take_of_lt (by omega), Array.getElem?_toList] at e
    show cur[j]? = some (vs.getD j .nilFunc)
    rw [e, List.getD_eq_getElem?_getD, List.getElem?_eq_getElem hj]
    rfl
theorem rdg_of {w : World} {g m n : Nat} {G : Nat → Value} {gf : Nat → Nat} (h : VB w g m G) (hn : n ≤ m) (e : ∀ j, j < n → G j = feedV (gf j)) : RdG w (some ⟨g, 0, none⟩) n gf := fun _ => ⟨g, 0, rfl, h.lt, fun j hj => by rw [Nat.zero_add, h.cell j (by omega), e j hj]⟩
/-- The merge that New makes, or its error. -/
def MadeR (w w' : World) (e : Ending) (n : Nat) (gf : Nat → Nat) : Prop := (64 < n ∧ e = .returned (.tuple #[.pointer none, .int .i64 3])) ∨ (n ≤ 64 ∧ ∃ gm gs, e = .returned (.tuple #[.pointer (some ⟨gm, 0, none⟩), .int .i64 0]) ∧ w.heap.size ≤ gm ∧ w.heap.size ≤ gs ∧ MS w' gm gs n pos0 false false 0 (sc1 gf))
theorem new_any (a : Option Addr) (n c : Nat) (g : Nat → Nat) (w : World) (hR : RdG w a n g) (hn2 : n ≤ 140737488355328) :
    Calls Try.prog 11 #[fcmp, .slice a n c] w fun e w' => (∃ p x, e = .returned (.tuple #[.pointer p, .int .i64 x])) ∧ MadeR w w' e n g ∧ Below w.heap.size w w' := by
  by_cases hn : n ≤ 64
  · refine (new_few a n c g w hR hn).mono ?_
    rintro e w' ⟨gm, gs, rfl, h1, h2, h3, h4⟩
    exact ⟨⟨_, _, rfl⟩, .inr ⟨hn, gm, gs, rfl, h1, h2, h4⟩, h3⟩
  · refine (new_many a n c g w hR (by omega) hn2).mono ?_
    rintro e w' ⟨rfl, rfl⟩
    exact ⟨⟨_, _, rfl⟩, .inl ⟨by omega, rfl⟩, Below.refl _ _⟩
theorem MadeR.on {w W w9 wr : World} {e : Ending} {n g7 : Nat} {gf : Nat → Nat} (h : MadeR W w9 e n gf) (hW : w.heap.size ≤ W.heap.size) (hg : w9.grownBy wr (some g7)) (hl : g7 < W.heap.size) : MadeR w wr e n gf := by
  rcases h with h | ⟨h1, gm, gs, h2, h3, h4, h5⟩
  · exact .inl h
  · refine .inr ⟨h1, gm, gs, h2, by omega, by omega, h5.turned (fun j => j = g7) (Tn.of_grown _ hg rfl) (by omega) (by omega)⟩
/-- The row reads as pointers. -/
theorem ptr_at {w : World} {lo : Nat} {al : Option Addr} {n cl : Nat} {gs : List Nat} (h : w.ownsRow lo 44 1 (.slice al n cl) gs.length (ptrs gs)) (j : Nat) (hj : j < gs.length) : ∃ b, al = some ⟨b, 0, none⟩ ∧ b < w.heap.size ∧ w.cell? ⟨b, j, none⟩ = some (.pointer (some ⟨gs.getD j 0, 0, none⟩)) := by
  rcases h.2 with ⟨h1, h2⟩ | ⟨g', cap', cur, h1, h2, h3, h4, h5, h6, h7⟩
  · omega
  · simp only [Value.slice.injEq] at h1
    obtain ⟨rfl, _, rfl⟩ := h1
    refine ⟨g', rfl, lt_row h3, ?_⟩
    have e : (cur.toList.take (gs.length * 1))[j]? = (ptrs gs)[j]? := by rw [h7]
    rw [List.getElem?_take_of_lt (by omega), Array.getElem?_toList] at e
    rw [cell_of_row _ _ _ _ _ _ h3]
    show cur[j]? = _
    rw [e]
    unfold ptrs
    rw [List.getElem?_map, List.getD_eq_getElem?_getD, List.getElem?_eq_getElem hj]
    rfl
theorem getD_fr (N : Nat) (x : Value) (j : Nat) (hj : j < N) : (List.replicate N x ++ [Value.nilFunc]).getD j .nilFunc = x := by
  rw [List.getD_eq_getElem?_getD, List.getElem?_append_left (by simpa using hj), List.getElem?_replicate, if_pos hj]
  rfl
set_option maxHeartbeats 4000000 in
set_option maxRecDepth 100000 in
theorem made_any (al : Option Addr) (cl lo : Nat) (gs : List Nat) (fd : Nat → Fd) (w : World) (hR : Row w lo (.slice al gs.length cl) gs fd) (hn : (gs.length + 2) * 8 ≤ 140737488355328) :
    Calls Try.prog 5 #[.slice al gs.length cl] w fun e w' => Below w.heap.size w w' ∧ MadeR w w' e gs.length (fun j => gs.getD j 0) := by
  have HR := hide hR
  clear hR
  go_enter Try.func5, Try.ntmps5
  go_wp2_with fail
  obtain ⟨w1, hw1⟩ : ∃ w1, w.alloc (.cells #[.slice none 0 0, .int .i64 0, .int .i64 0, .int .i64 0, .bool false, .bool false] 48) = w1 := ⟨_, rfl⟩
  have HB1 : Hid (Below w.heap.size w w1) := by rw [← hw1]; exact (Below.refl _ _).alloc (Nat.le_refl _) _
  rw [hw1]
  obtain ⟨gn, hgn⟩ : ∃ gn, w.heap.size = gn := ⟨_, rfl⟩
  rw [hgn]
  have HGN := hide hgn
  clear hw1 hgn
  obtain ⟨N, hN⟩ : ∃ N, gs.length = N := ⟨_, rfl⟩
  rw [hN] at hn ⊢
  have HN := hide hN
  clear hN
  go_loopw [4, 6] (fun s4 s6 wr => ∃ (k : Nat) (v : Value), k ≤ N ∧ v = s4 ∧ .int .i64 (k : Int) = s6 ∧ Hid (wr.ownsRow w.heap.size 38 1 v (List.replicate k (feedV gn)).length (List.replicate k (feedV gn))) ∧ Hid (Below w.heap.size w wr)) (fun _ s6 _ => N - (intOf s6).toNat)
  case atStart => exact ⟨0, _, by omega, rfl, rfl, ⟨rfl, .inl ⟨rfl, rfl⟩⟩, HB1⟩
  case round =>
    obtain ⟨k, v, hk, rfl, rfl, HO, HB⟩ := hrel
    have HLK : Hid ((List.replicate k (feedV gn)).length = k) := List.length_replicate
    by_cases hkn : k < N
    · have hki : (k : Int) < (N : Int) := by omega
      obtain ⟨g5, hg5⟩ : ∃ g, wr.heap.size = g := ⟨_, rfl⟩
      obtain ⟨w5, hw5⟩ : ∃ w5, wr.alloc (.cells #[.func (.func 10) #[.pointer (some ⟨gn, 0, none⟩)] #[]] 38) = w5 := ⟨_, rfl⟩
      have HB5 : Hid (Below wr.heap.size wr w5) := by rw [← hw5]; exact (Below.refl _ _).alloc (Nat.le_refl _) _
      have HP5 : Hid (w5.heap[g5]? = some (.cells #[feedV gn] 38)) := by rw [← hw5, ← hg5]; exact heap_alloc_new _ _
      have HO5 := hide (row_same HO.out (fun i hi => HB5.out.block i (row_blk HO.out i hi).2))
      have HZ : Hid (w.heap.size ≤ w5.heap.size ∧ w.heap.size ≤ wr.heap.size) := ⟨Nat.le_trans HB.out.size HB5.out.size, HB.out.size⟩
      have HBD : Hid (((List.replicate k (feedV gn)).length + 1) * 8 ≤ 140737488355328) := by show _ * 8 ≤ _; rw [List.length_replicate]; omega
      go_wp2_with (at_builtin; refine pushA _ rfl _ _ rfl w.heap.size v (List.replicate k (feedV gn)) rfl HO5.out g5 (feedV gn) rfl HP5.out rfl HBD.out HZ.out.1 ?_; intro g7 c7 w7 hr7 hg7 hv7; have HR7 := hide hr7; have HB7 : Hid (Below w.heap.size w w7) := ⟨hg7.os.trans (HB5.out.os.trans HB.out.os), hg7.tape.trans (HB5.out.tape.trans HB.out.tape), hg7.output.trans (HB5.out.output.trans HB.out.output), Nat.le_trans HZ.out.1 hg7.size, fun k hk => (hg7.block k (Nat.lt_of_lt_of_le hk HZ.out.1) (fun e => by have := (row_blk HO.out k e.symm).1; omega)).trans ((HB5.out.block k (Nat.lt_of_lt_of_le hk HZ.out.2)).trans (HB.out.block k hk))⟩; clear hr7 hg7 hv7)
      go_roundw
      case rel =>
        refine ⟨k + 1, _, by omega, rfl, by go_num, ?_, HB7⟩
        have h1 := HR7.out
        rw [← List.replicate_succ'] at h1
        show World.ownsRow _ _ _ _ _ _ _
        rw [List.length_replicate] at h1 ⊢
        exact h1
      case measure => simp [intOf]; omega
    · obtain rfl : k = N := by omega
      obtain ⟨g5, hg5⟩ : ∃ g, wr.heap.size = g := ⟨_, rfl⟩
      obtain ⟨w5, hw5⟩ : ∃ w5, wr.alloc (.cells #[.nilFunc] 38) = w5 := ⟨_, rfl⟩
      have HB5 : Hid (Below wr.heap.size wr w5) := by rw [← hw5]; exact (Below.refl _ _).alloc (Nat.le_refl _) _
      have HP5 : Hid (w5.heap[g5]? = some (.cells #[.nilFunc] 38)) := by rw [← hw5, ← hg5]; exact heap_alloc_new _ _
      have HO5 := hide (row_same HO.out (fun i hi => HB5.out.block i (row_blk HO.out i hi).2))
      have HZ : Hid (w.heap.size ≤ w5.heap.size ∧ w.heap.size ≤ wr.heap.size) := ⟨Nat.le_trans HB.out.size HB5.out.size, HB.out.size⟩
      have HBD : Hid (((List.replicate k (feedV gn)).length + 1) * 8 ≤ 140737488355328) := by show _ * 8 ≤ _; rw [List.length_replicate]; omega
      go_wp2_with (first
        | (at_builtin; refine pushA _ rfl _ _ rfl w.heap.size v (List.replicate k (feedV gn)) rfl HO5.out g5 .nilFunc rfl HP5.out rfl HBD.out HZ.out.1 ?_; intro g7 c7 w7 hr7 hg7 hv7; have HB7 : Hid (Below w.heap.size w w7) := ⟨hg7.os.trans (HB5.out.os.trans HB.out.os), hg7.tape.trans (HB5.out.tape.trans HB.out.tape), hg7.output.trans (HB5.out.output.trans HB.out.output), Nat.le_trans HZ.out.1 hg7.size, fun k hk => (hg7.block k (Nat.lt_of_lt_of_le hk HZ.out.1) (fun e => by have := (row_blk HO.out k e.symm).1; omega)).trans ((HB5.out.block k (Nat.lt_of_lt_of_le hk HZ.out.2)).trans (HB.out.block k hk))⟩; have HLO : Hid (w.heap.size ≤ g7) := (row_blk hr7 g7 rfl).1; rw [HLK.out] at hr7 ⊢; have HV7 : Hid (VB w7 g7 (k + 1) (fun j => (List.replicate k (feedV gn) ++ [Value.nilFunc]).getD j .nilFunc) ∧ k + 1 ≤ c7) := (by have q := vb_of (vs := List.replicate k (feedV gn) ++ [Value.nilFunc]) (by rw [List.length_append, List.length_singleton, HLK.out]; exact hr7); rw [List.length_append, List.length_singleton, HLK.out] at q; exact ⟨q.1, q.2.2⟩); have hc7 : k ≤ c7 := (by have := HV7.out.2; omega); have HNW := hide (new_any (some ⟨g7, 0, none⟩) k c7 (fun _ => gn) w7 (rdg_of HV7.out.1 (by omega) (fun j hj => getD_fr k _ j hj)) (by omega)); clear hr7 hg7 hv7)
        | (go_at_call 11; refine HNW.out.mono ?_; rintro e w8 ⟨⟨p8, x8, rfl⟩, _, hb8⟩; have HB8 := hide (below_trans HB7.out hb8); have HV8 := hide (HV7.out.1.below hb8); clear hb8))
      clear HO HO5 HB5 HP5 HBD HNW HB7 HV7 HZ HB
      have HV8' : Hid (∃ G, VB w8 g7 (k + 1) G ∧ ∀ j, j < 0 → G j = feedV (gs.getD j 0)) := ⟨_, HV8.out, fun j hj => absurd hj (by omega)⟩
      go_loopw [7] (fun s7 wr => ∃ i : Nat, i ≤ k ∧ .int .i64 (i : Int) = s7 ∧ Hid (∃ G, VB wr g7 (k + 1) G ∧ ∀ j, j < i → G j = feedV (gs.getD j 0)) ∧ Hid (Below w.heap.size w wr)) (fun s7 _ => k - (intOf s7).toNat)
      case atStart => exact ⟨0, by omega, rfl, HV8', HB8⟩
      case round =>
        clear HV8 HV8' HB8
        obtain ⟨i, hi, rfl, HV, HB⟩ := hrel
        by_cases hin : i < k
        · have hii : (i : Int) < (k : Int) := by omega
          have hi1 : (i : Int) < (k : Int) + 1 := by omega
          obtain ⟨b, hal, hbl, q0⟩ := ptr_at HR.out.row i (by have := HN.out; omega)
          subst hal
          have c0 := (HB.out.cell (p := ⟨b, i, none⟩) hbl).trans q0
          obtain ⟨G, hG, hGi⟩ := HV.out
          have c1 := hG.cell i (by omega)
          have f1 := hG.frozen i
          have HPA : Hid (∃ G', VB (wr.setCell ⟨g7, i, none⟩ (feedV (gs.getD i 0))) g7 (k + 1) G' ∧ ∀ j, j < i + 1 → G' j = feedV (gs.getD j 0)) := ⟨_, hG.put i (by omega) _, fun j hj => by
            unfold setV
            by_cases e : j = i
            · rw [if_pos e, e]
            · rw [if_neg e]; exact hGi j (by omega)⟩
          have HPB : Hid (Below w.heap.size w (wr.setCell ⟨g7, i, none⟩ (feedV (gs.getD i 0)))) := HB.out.setCell HLO.out _
          have HNX : Hid (∀ V : World, (∃ G', VB V g7 (k + 1) G' ∧ ∀ j, j < i + 1 → G' j = feedV (gs.getD j 0)) → (∃ G', VB V g7 (k + 1) G' ∧ ∀ j, j < i + 1 → G' j = feedV (gs.getD j 0))) := fun V h => h
          obtain ⟨w9, hw9⟩ : ∃ w9, wr.setCell ⟨g7, i, none⟩ (feedV (gs.getD i 0)) = w9 := ⟨_, rfl⟩
          rw [hw9] at HPA HPB
          unfold feedV at hw9
          generalize gs.getD i 0 = bi at c0 hw9
          generalize G i = gi at c1
          clear hG hGi q0 HV HNX
          go_wp2_with fail
          go_roundw
          case rel => exact ⟨i + 1, by omega, by go_num, HPA, HPB⟩
          case measure => simp [intOf]; omega
        · obtain rfl : i = k := by omega
          have HNW : Hid (Calls Try.prog 11 #[fcmp, .slice (some ⟨g7, 0, none⟩) i c7] wr fun e w' => (∃ p x, e = .returned (.tuple #[.pointer p, .int .i64 x])) ∧ MadeR wr w' e i (fun j => gs.getD j 0) ∧ Below wr.heap.size wr w') := by
            obtain ⟨G, hG, hGi⟩ := HV.out
            exact new_any (some ⟨g7, 0, none⟩) i c7 (fun j => gs.getD j 0) wr (rdg_of hG (by omega) hGi) (by omega)
          have HVL : Hid (g7 < wr.heap.size ∧ ∃ G, VB wr g7 (i + 1) G) := by
            obtain ⟨G, hG, _⟩ := HV.out
            exact ⟨hG.lt, G, hG⟩
          unfold fcmp at HNW
          have HWS : Hid (w.heap.size ≤ wr.heap.size) := HB.out.size
          go_wp2_with (go_at_call 11; refine HNW.out.mono ?_; rintro e w9 ⟨⟨p9, x9, rfl⟩, hm9, hb9⟩; have HM9 := hide hm9; have HB9 := hide (below_trans HB.out hb9); have HV9 : Hid (∃ G, VB w9 g7 (i + 1) G) := (by obtain ⟨_, G, hG⟩ := HVL.out; exact ⟨G, hG.below hb9⟩); clear hm9 hb9)
          have HFIN : Hid (∀ V : World, w9.grownBy V (some g7) → MadeR w V (.returned (.tuple #[.pointer p9, .int .i64 x9])) i (fun j => gs.getD j 0)) := fun V hg => HM9.out.on HWS.out hg HVL.out.1
          clear HM9 HNW HV HB HVL HWS
          go_loopw [10] (fun s10 wr => ∃ i2 : Nat, i2 ≤ i ∧ .int .i64 (i2 : Int) = s10 ∧ Hid (∃ G, VB wr g7 (i + 1) G) ∧ Hid (Below w.heap.size w wr) ∧ Hid (w9.grownBy wr (some g7))) (fun s10 _ => i - (intOf s10).toNat)
          case atStart => exact ⟨0, by omega, rfl, HV9, HB9, World.grownBy.refl _ _⟩
          case round =>
            clear HV9 HB9
            obtain ⟨i2, hi2, rfl, HV, HB, HG⟩ := hrel
            by_cases hin : i2 < i
            · have hii : (i2 : Int) < (i : Int) := by omega
              have hi1 : (i2 : Int) < (i : Int) + 1 := by omega
              obtain ⟨G, hG⟩ := HV.out
              have c1 := hG.cell i2 (by omega)
              have f1 := hG.frozen i2
              have HPA : Hid (∃ G', VB (wr.setCell ⟨g7, i2, none⟩ .nilFunc) g7 (i + 1) G') := ⟨_, hG.put i2 (by omega) _⟩
              have HPB : Hid (Below w.heap.size w (wr.setCell ⟨g7, i2, none⟩ .nilFunc)) := HB.out.setCell HLO.out _
              have HPC : Hid (w9.grownBy (wr.setCell ⟨g7, i2, none⟩ .nilFunc) (some g7)) := grown_cell HG.out _ _
              generalize G i2 = gi at c1
              clear hG HV
              go_wp2_with fail
              go_roundw
              case rel => exact ⟨i2 + 1, by omega, by go_num, HPA, HPB, HPC⟩
              case measure => simp [intOf]; omega
            · obtain rfl : i2 = i := by omega
              go_wp2_with fail
              go_ret2
              exact ⟨HB.out, by rw [HN.out]; exact HFIN.out _ HG.out⟩
end Go.Proofs.Ytcnfkgmefikcjaa.Me
