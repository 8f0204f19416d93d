/-
  Bytes of a block whose mark lies behind its last cell: what []byte(string) makes.
-/
import Derived.Test.YtmndjgmlndpgaaaDoorFiRoom
import Derived.Test.YtmndjgmlndpgaaaDoorFiDec2
import Derived.ArgAppend
namespace Go.Proofs.YtmndjgmlndpgaaaDoor.Filt
open Go.ChangeShapes Go.WideShapes Go.ChangeAt Go.RowKit
open Go.Proofs.YtmndjgmlndpgaaaDoor.Base Go.Proofs.YtmndjgmlndpgaaaDoor.Nums Go.Proofs.YtmndjgmlndpgaaaDoor.Curs
set_option linter.unusedVariables false
/-- The slice leads to a block from 'base' on, whole, of which no cell is frozen, and reads as 'bs'. -/
def MO (w : World) (base : Nat) (v : Value) (bs : List (BitVec 8)) : Prop :=
  (v = .slice none 0 0 ∧ bs = []) ∨ ∃ g cap cur fz, v = .slice (some ⟨g, 0, none⟩) bs.length cap ∧ base ≤ g ∧ w.heap[g]? = some (.cells cur 5 fz) ∧ (fz.2 = 0 ∨ cur.size ≤ fz.1) ∧ bs.length ≤ cap ∧ cap ≤ maxLen ∧ cur.size = cap ∧ cur.toList.take bs.length = vals bs
theorem MO.nil (w : World) (base : Nat) : MO w base (.slice none 0 0) [] := .inl ⟨rfl, rfl⟩
theorem MO.of_own {w : World} {base : Nat} {v : Value} {bs : List (BitVec 8)} (h : Own w base v bs) : MO w base v bs := by
  rcases h.2 with ⟨h1, h2⟩ | ⟨g, cap, cur, h1, h2, h3, h4, h5, h6, h7⟩
  · exact .inl ⟨h1, List.length_eq_zero_iff.1 h2⟩
  · exact .inr ⟨g, cap, cur, (0, 0), h1, h2, h3, .inl rfl, h4, h5, by omega, by rw [Nat.mul_one] at h7; exact h7⟩
theorem MO.mono {w : World} {base b2 : Nat} {v : Value} {bs : List (BitVec 8)} (h : MO w base v bs) (hb : b2 ≤ base) : MO w b2 v bs := by
  rcases h with h | ⟨g, cap, cur, fz, h1, h2, h3⟩
  · exact .inl h
  · exact .inr ⟨g, cap, cur, fz, h1, Nat.le_trans hb h2, h3⟩
theorem MO.blk {w : World} {base : Nat} {v : Value} {bs : List (BitVec 8)} (h : MO w base v bs) : ∀ i, v.ownBlock = some i → base ≤ i ∧ i < w.heap.size := by
  intro i e
  rcases h with ⟨rfl, _⟩ | ⟨g, cap, cur, fz, rfl, h2, h3, _⟩
  · cases e
  · cases e; exact ⟨h2, (Array.getElem?_eq_some_iff.1 h3).1⟩
theorem MO.keep {w w' : World} {base : Nat} {v : Value} {bs : List (BitVec 8)} {q : Option Nat} (h : MO w base v bs) (hg : w.grownBy w' q) (hne : ∀ i j, v.ownBlock = some i → q = some j → i ≠ j) : MO w' base v bs := by
  have hb := h.blk
  rcases h with h | ⟨g, cap, cur, fz, rfl, h2, h3, h4⟩
  · exact .inl h
  · exact .inr ⟨g, cap, cur, fz, rfl, h2, (hg.block g (hb g rfl).2 (fun e => hne g g rfl e.symm rfl)).trans h3, h4⟩
theorem MO.below {w w' : World} {base : Nat} {v : Value} {bs : List (BitVec 8)} (h : MO w base v bs) (hb : Below w.heap.size w w') : MO w' base v bs := h.keep (below_grown hb) (fun i j _ e => by cases e)
theorem MO.shape {w : World} {base : Nat} {v : Value} {bs : List (BitVec 8)} (h : MO w base v bs) : ∃ a c, v = .slice a bs.length c := by
  rcases h with ⟨rfl, rfl⟩ | ⟨g, cap, cur, fz, rfl, _⟩
  · exact ⟨_, _, rfl⟩
  · exact ⟨_, _, rfl⟩
theorem MO.len {w : World} {base n c : Nat} {a : Option Addr} {bs : List (BitVec 8)} (h : MO w base (.slice a n c) bs) : bs.length = n := by
  obtain ⟨a', c', e⟩ := h.shape
  simp only [Value.slice.injEq] at e
  exact e.2.1.symm
theorem MO.none' {w : World} {base n c : Nat} {a : Option Addr} {bs : List (BitVec 8)} (h : MO w base (.slice a n c) bs) (ha : a = none) : n = 0 ∧ c = 0 := by
  rcases h with ⟨e, _⟩ | ⟨g, cap, cur, fz, e, _⟩
  · simp only [Value.slice.injEq] at e; exact ⟨e.2.1, e.2.2⟩
  · simp only [Value.slice.injEq] at e; rw [e.1] at ha; cases ha
theorem MO.rd {w : World} {base n c : Nat} {a : Option Addr} {bs : List (BitVec 8)} (h : MO w base (.slice a n c) bs) (hl : bs.length ≤ 140737488355328) : Rd w a n bs := by
  have hn := h.len
  subst hn
  rcases h with ⟨e, h2⟩ | ⟨g, cap, cur, fz, e, h2, h3, h4, h5, h6, h7, h8⟩
  · subst h2; exact rd_zero _ _
  · simp only [Value.slice.injEq] at e
    obtain ⟨rfl, _, rfl⟩ := e
    refine ⟨rfl, hl, fun hp => ⟨g, 0, rfl, (Array.getElem?_eq_some_iff.1 h3).1, fun i hi => ?_⟩⟩
    rw [Nat.zero_add]
    have e1 : w.cell? ⟨g, i, none⟩ = cur[i]? := by simp [World.cell?, h3]
    rw [e1, ← getD_vals bs i hi, ← h8, List.getElem?_take, if_pos hi, Array.getElem?_toList]
theorem MO.frozen {w : World} {base g n c : Nat} {bs : List (BitVec 8)} (h : MO w base (.slice (some ⟨g, 0, none⟩) n c) bs) (k : Nat) (hk : k < c) : w.frozen? ⟨g, k, none⟩ = false ∧ (w.cell? ⟨g, k, none⟩).isSome = true := by
  rcases h with ⟨e, _⟩ | ⟨g', cap, cur, fz, e, h2, h3, h4, h5, h6, h7, h8⟩
  · simp at e
  · simp only [Value.slice.injEq, Option.some.injEq, Addr.mk.injEq, and_true] at e
    obtain ⟨rfl, _, rfl⟩ := e
    constructor
    · obtain ⟨lo, hi⟩ := fz
      simp only at h4
      simp only [World.frozen?, h3]
      rcases h4 with h4 | h4
      · subst h4; simp
      · have : ¬ lo ≤ k := by omega
        simp [this]
    · have e1 : w.cell? ⟨g, k, none⟩ = cur[k]? := by simp [World.cell?, h3]
      rw [e1, Array.getElem?_eq_getElem (by omega)]; rfl
theorem heap_set_any (w : World) (g k : Nat) (cur : Array Value) (e : TypeId) (fz : Nat × Nat) (u : Value) (h : w.heap[g]? = some (.cells cur e fz)) : (w.setCell ⟨g, k, none⟩ u).heap[g]? = some (.cells (cur.setIfInBounds k u) e fz) := by
  simp [World.setCell, Array.getElem?_modify, h]
theorem MO.store {w : World} {base g n c : Nat} {bs : List (BitVec 8)} (h : MO w base (.slice (some ⟨g, 0, none⟩) n c) bs) (k : Nat) (d : BitVec 8) : MO (w.setCell ⟨g, k, none⟩ (.int .u8 (d.toNat : Int))) base (.slice (some ⟨g, 0, none⟩) n c) (bs.set k d) ∧ w.grownBy (w.setCell ⟨g, k, none⟩ (.int .u8 (d.toNat : Int))) (some g) := by
  have hn := h.len
  subst hn
  rcases h with ⟨e, _⟩ | ⟨g', cap, cur, fz, e, h2, h3, h4, h5, h6, h7, h8⟩
  · simp at e
  · simp only [Value.slice.injEq, Option.some.injEq, Addr.mk.injEq, and_true, true_and] at e
    obtain ⟨rfl, rfl⟩ := e
    refine ⟨.inr ⟨g, c, cur.setIfInBounds k (.int .u8 (d.toNat : Int)), fz, by rw [List.length_set], h2, heap_set_any _ _ _ _ _ _ _ h3, by simpa using h4, by rw [List.length_set]; exact h5, h6, by simpa using h7, ?_⟩, ⟨rfl, rfl, rfl, by simp [World.setCell], fun i _ hi => heap_setCell_other w ⟨g, k, none⟩ i _ (fun e => hi (by simp [e]))⟩⟩
    rw [Array.toList_setIfInBounds, List.length_set, ← vals_set, ← h8, List.take_set]
theorem MO.more {w : World} {base g n c : Nat} {bs : List (BitVec 8)} (h : MO w base (.slice (some ⟨g, 0, none⟩) n c) bs) (d : BitVec 8) (hc : n + 1 ≤ c) : MO (w.setCell ⟨g, n, none⟩ (.int .u8 (d.toNat : Int))) base (.slice (some ⟨g, 0, none⟩) (n + 1) c) (bs ++ [d]) ∧ w.grownBy (w.setCell ⟨g, n, none⟩ (.int .u8 (d.toNat : Int))) (some g) := by
  have hn := h.len
  subst hn
  rcases h with ⟨e, _⟩ | ⟨g', cap, cur, fz, e, h2, h3, h4, h5, h6, h7, h8⟩
  · simp at e
  · simp only [Value.slice.injEq, Option.some.injEq, Addr.mk.injEq, and_true, true_and] at e
    obtain ⟨rfl, rfl⟩ := e
    refine ⟨.inr ⟨g, c, cur.setIfInBounds bs.length (.int .u8 (d.toNat : Int)), fz, by simp, h2, heap_set_any _ _ _ _ _ _ _ h3, by simpa using h4, by simpa using hc, h6, by simpa using h7, ?_⟩, ⟨rfl, rfl, rfl, by simp [World.setCell], fun i _ hi => heap_setCell_other w ⟨g, bs.length, none⟩ i _ (fun e => hi (by simp [e]))⟩⟩
    have hl : bs.length < cur.toList.length := by simp; omega
    rw [Array.toList_setIfInBounds, show (bs ++ [d]).length = bs.length + 1 by simp, List.take_add_one, List.getElem?_set_self hl, List.take_set_of_le (Nat.le_refl _), h8]
    simp [vals, V8]
/-- append of one byte onto such a slice. -/
theorem pushM {ops : Array Oper} {rest : List Oper} {o : Oper} {a : Act} {Q : Exit → Act → World → Prop} (w : World) (hgd : o.guard = none) (s x : Operand)
    (ho : o.op = .call { callee := .builtin .append, args := #[s, x], argTypes := #[22, 22] })
    (v : Value) (bs : List (BitVec 8)) (hs : a.eval s = v) (hown : MO w 0 v bs) (ad : Addr) (cap : Nat) (c : BitVec 8) (hx : a.eval x = .slice (some ad) 1 cap)
    (hc : w.cell? (ad.add 0) = some (.int .u8 (c.toNat : Int))) (hl : bs.length + 1 ≤ 140737488355328)
    (h : ∀ g' c' w', MO w' 0 (.slice (some ⟨g', 0, none⟩) (bs.length + 1) c') (bs ++ [c]) → (v.ownBlock = some g' ∧ w.grownBy w' (some g') ∨ w.heap.size ≤ g' ∧ w.grownBy w' none) → wpList Tryd.prog ops Q rest (a.put o.dst (.slice (some ⟨g', 0, none⟩) (bs.length + 1) c')) w') : wpList Tryd.prog ops Q (o :: rest) a w := by
  obtain ⟨i0, hi, hz0, hz1, hz2⟩ := info_parts info8
  have hnews : ∀ (j : Nat) (u : Value), [Value.int .u8 (c.toNat : Int)][j]? = some u → w.cell? (ad.add j) = some u := by
    intro j u hu
    cases j with
    | zero => simp at hu; subst hu; exact hc
    | succ j => simp at hu
  obtain ⟨ao, cp, rfl⟩ := hown.shape
  have hgrow : cp < bs.length + 1 → wpList Tryd.prog ops Q (o :: rest) a w := by
    intro hcp
    refine wpList_append_grows w hgd s x 22 ho 5 i0 (.int .u8 0) 1 1 Tryd.underlying22 hi hz0 hz1 hz2 rfl (by omega) ao bs.length cp (vals bs) hs (fun e => hown.none' e) (by rw [length_vals]; omega) (fun b e j u hu => (hown.rd (by omega)).cellsAt b e j u hu) ad 1 cap [.int .u8 (c.toNat : Int)] hx rfl hnews (vals_one [c]) (by omega) (by unfold maxLen; omega) (by omega) ?_
    intro v' w' h1 h2
    have h3 : Own w' w.heap.size v' (bs ++ [c]) := own_append (b := [c]) h1 rfl
    obtain ⟨g, c', rfl⟩ := own_shape h1
    exact h g c' w' (MO.mono (MO.of_own h3) (Nat.zero_le _)) (.inr ⟨(World.ownsRow.lt h1 g rfl).1, h2⟩)
  by_cases hcp : bs.length + 1 ≤ cp
  · cases ao with
    | none => have := (hown.none' rfl); omega
    | some ad2 =>
      have hsh : ∃ g, ad2 = ⟨g, 0, none⟩ := by
        rcases hown with ⟨e, _⟩ | ⟨g, _, _, _, e, _⟩
        · simp at e
        · simp only [Value.slice.injEq, Option.some.injEq] at e; exact ⟨g, e.1⟩
      obtain ⟨g, rfl⟩ := hsh
      refine wpList_append_arg w hgd s x 22 ho 5 i0 (.int .u8 0) 1 1 Tryd.underlying22 hi hz0 hz1 hz2 rfl (by omega) g 0 bs.length cp (vals bs) hs (by rw [length_vals]; omega) (fun j u hu => ?_) ad 1 cap [.int .u8 (c.toNat : Int)] hx rfl hnews (vals_one [c]) (fun _ j hj => ?_) (by unfold maxLen; omega) (by omega) (fun _ => ?_) (fun hlt => by omega)
      · have := (hown.rd (by omega)).cellsAt ⟨g, 0, none⟩ rfl j u hu
        rw [Addr.add_lit] at this
        exact this
      · have hj0 : j = 0 := by simp at hj; exact hj
        subst hj0
        have := hown.frozen bs.length (by omega)
        simp only [Nat.zero_add, Nat.mul_one, Nat.add_zero]
        exact ⟨this.2, this.1⟩
      · have hm := hown.more c hcp
        have e : w.setCells g (0 + bs.length * 1) [.int .u8 (c.toNat : Int)] = w.setCell ⟨g, bs.length, none⟩ (.int .u8 (c.toNat : Int)) := by
          rw [Nat.zero_add, Nat.mul_one]; rfl
        rw [e]
        exact h g cp _ hm.1 (.inl ⟨rfl, hm.2⟩)
  · exact hgrow (by omega)
/-- What was v1 at w0 is v now, n bytes; nothing of w0 has turned but v1's block. -/
def OverM (w0 w : World) (v1 v : Value) (n : Nat) : Prop :=
  (∃ L : List (BitVec 8), L.length = n ∧ MO w 0 v L) ∧ (v.ownBlock = v1.ownBlock ∨ ∀ i, v.ownBlock = some i → w0.heap.size ≤ i) ∧ w0.grownBy w v1.ownBlock
theorem OverM.alloc {w0 w : World} {n : Nat} {v1 v : Value} (h : OverM w0 w v1 v n) (o : Obj) : OverM w0 (w.alloc o) v1 v n := by
  obtain ⟨⟨L, hl, ho⟩, h2, h3⟩ := h
  exact ⟨⟨L, hl, ho.below ((Below.refl _ _).alloc (Nat.le_refl _) _)⟩, h2, grown_alloc h3 _⟩
theorem OverM.cell {w0 w : World} {n c : Nat} {v1 : Value} {a : Option Addr} (h : OverM w0 w v1 (.slice a n c) n) (k : Nat) (hk : k < n) :
    ∃ g, a = some ⟨g, 0, none⟩ ∧ (∃ d : BitVec 8, w.cell? ⟨g, k, none⟩ = some (.int .u8 (d.toNat : Int))) ∧ w.frozen? ⟨g, k, none⟩ = false := by
  obtain ⟨⟨L, hl, ho⟩, _⟩ := h
  subst hl
  rcases ho with ⟨e, h2⟩ | ⟨g, cap, cur, fz, e, h2, h3, h4, h5, h6, h7, h8⟩
  · simp only [Value.slice.injEq] at e; omega
  · simp only [Value.slice.injEq, true_and] at e
    obtain ⟨rfl, rfl⟩ := e
    refine ⟨g, rfl, ⟨L.getD k 0, ?_⟩, (MO.frozen (.inr ⟨g, c, cur, fz, rfl, h2, h3, h4, h5, h6, h7, h8⟩ : MO w 0 (.slice (some ⟨g, 0, none⟩) L.length c) L) k (by omega)).1⟩
    have e1 : w.cell? ⟨g, k, none⟩ = cur[k]? := by simp [World.cell?, h3]
    rw [e1, ← getD_vals L k hk, ← h8, List.getElem?_take, if_pos hk, Array.getElem?_toList]
theorem OverM.store {w0 w : World} {g n c : Nat} (h : OverM w0 w (.slice (some ⟨g, 0, none⟩) n c) (.slice (some ⟨g, 0, none⟩) n c) n) (k : Nat) (d : BitVec 8) :
    OverM w0 (w.setCell ⟨g, k, none⟩ (.int .u8 (d.toNat : Int))) (.slice (some ⟨g, 0, none⟩) n c) (.slice (some ⟨g, 0, none⟩) n c) n := by
  obtain ⟨⟨L, hl, ho⟩, h2, h3⟩ := h
  obtain ⟨h4, h5⟩ := ho.store k d
  exact ⟨⟨L.set k d, by rw [List.length_set]; exact hl, h4⟩, .inl rfl, grown_trans h3 h5⟩
theorem pushOverM {ops : Array Oper} {rest : List Oper} {o : Oper} {a : Act} {Q : Exit → Act → World → Prop} (w0 w : World) (hgd : o.guard = none) (s x : Operand)
    (ho : o.op = .call { callee := .builtin .append, args := #[s, x], argTypes := #[22, 22] })
    (v1 v : Value) (n : Nat) (hs : a.eval s = v) (H : OverM w0 w v1 v n) (ad : Addr) (cap : Nat) (c : BitVec 8) (hx : a.eval x = .slice (some ad) 1 cap)
    (hc : w.cell? (ad.add 0) = some (.int .u8 (c.toNat : Int))) (hl : n + 1 ≤ 140737488355328)
    (h : ∀ g' c' w', OverM w0 w' v1 (.slice (some ⟨g', 0, none⟩) (n + 1) c') (n + 1) → wpList Tryd.prog ops Q rest (a.put o.dst (.slice (some ⟨g', 0, none⟩) (n + 1) c')) w') : wpList Tryd.prog ops Q (o :: rest) a w := by
  obtain ⟨⟨L, hL, hown⟩, h2, h3⟩ := H
  refine pushM w hgd s x ho v L hs hown ad cap c hx hc (by omega) ?_
  intro g' c' w' ho' hcase
  rw [hL] at ho' ⊢
  refine h g' c' w' ⟨⟨L ++ [c], by simp [hL], ho'⟩, ?_, ?_⟩
  · rcases hcase with ⟨e, k⟩ | ⟨e, k⟩
    · rcases h2 with h2 | h2
      · left; rw [← h2, e]; rfl
      · right; intro i hi; exact h2 i (by rw [e]; exact hi)
    · right; intro i hi; cases hi; exact Nat.le_trans h3.size e
  · rcases hcase with ⟨e, k⟩ | ⟨e, k⟩
    · rcases h2 with h2 | h2
      · rw [← h2, e] at h3 ⊢; exact grown_trans h3 k
      · exact grown_new h3 k (fun i hi => by cases hi; exact h2 _ e)
    · exact grown_new h3 k (fun i hi => by cases hi)
set_option maxHeartbeats 1000000 in
set_option maxRecDepth 100000 in
theorem fill9_any (base n c : Nat) (a : Option Addr) (bs : List (BitVec 8)) (w : World) (ho : MO w base (.slice a n c) bs) (hl : n ≤ 140737488351232) :
    Calls Tryd.prog 6 #[.slice a n c, .int .u8 9] w fun e w' => e = .returned (.int .i64 ((n : Int) + 64)) ∧ w.grownBy w' (Value.slice a n c).ownBlock := by
  have HOV : Hid (OverM w w (.slice a n c) (.slice a n c) n) := ⟨⟨bs, ho.len, ho.mono (Nat.zero_le _)⟩, .inl rfl, World.grownBy.refl _ _⟩
  have hli : (n : Int) ≤ 140737488351232 := by omega
  clear ho
  go_enter Tryd.func6, Tryd.ntmps6
  go_wp2_with fail
  go_loopw [5] (fun i wr => ∃ k : Nat, k ≤ n ∧ i = .int .i64 (k : Int) ∧ Hid (OverM w wr (.slice a n c) (.slice a n c) n)) (fun i _ => n - (intOf i).toNat)
  case atStart => exact ⟨0, Nat.zero_le _, rfl, HOV⟩
  case round =>
    clear HOV
    obtain ⟨k, hk, rfl, HOV⟩ := hrel
    by_cases hlt : (k : Int) < (n : Int)
    · obtain ⟨g3, rfl, ⟨d, hd⟩, hf⟩ := HOV.out.cell k (by omega)
      go_wp2_with fail
      go_roundw
      case rel => exact ⟨k + 1, by omega, by go_num, HOV.out.store k 9⟩
      case measure => simp [intOf]; omega
    · go_wp2_with fail
      go_loopw [0, 6] (fun v i wz => ∃ (j : Nat) (va : Option Addr) (vc : Nat), j ≤ 64 ∧ i = .int .i64 (j : Int) ∧ v = .slice va (n + j) vc ∧ Hid (OverM w wz (.slice a n c) (.slice va (n + j) vc) (n + j))) (fun _ i _ => 64 - (intOf i).toNat)
      case atStart => exact ⟨0, a, c, Nat.zero_le _, rfl, rfl, HOV⟩
      case round =>
        clear HOV
        obtain ⟨j, va, vc, hj, rfl, rfl, HOV⟩ := hrel
        by_cases hlt2 : (j : Int) < 64
        · have HOA := hide (HOV.out.alloc (.cells #[.int .u8 10] 5))
          go_wp2_with (at_builtin; refine pushOverM w _ rfl _ _ rfl _ _ (n + j) rfl HOA.out ⟨wr.heap.size, 0, none⟩ 1 10 rfl (cell_one_new _ _ _ 0 _ rfl) (by omega) ?_
                       intro g5 c5 w9 hov
                       have HOV9 := hide hov
                       clear hov)
          go_roundw
          case rel => exact ⟨j + 1, _, c5, by omega, by go_num, rfl, HOV9⟩
          case measure => simp [intOf]; omega
        · obtain rfl : j = 64 := by omega
          go_wp2_with fail
          go_ret
          exact ⟨by first | rfl | (apply ret_int; omega), HOV.out.2.2⟩
end Go.Proofs.YtmndjgmlndpgaaaDoor.Filt
