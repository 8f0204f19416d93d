/-
  A round of StoreWhole: what stops, publishings and readings do to blobs and books.
-/
import Derived.Test.YtdcjhjpbkpiddaaStEnd
namespace Go.Proofs.Ytdcjhjpbkpiddaa.St
open Go.ChangeShapes Go.WideShapes Go.ChangeAt Go.RowKit
open Go.Proofs.Ytdcjhjpbkpiddaa.Base
set_option linter.unusedVariables false
theorem stop_cases (x : Bk) (m : Int) : ∃ (O V : Bool) (E : Int), decide (x.st = 2) = O ∧ x.sd = V ∧ closedOf x.st x.sd = E ∧
    ((O = true ∧ E = 54 ∧ stopX x m = x) ∨ (O = false ∧ V = true ∧ E = 55 ∧ stopX x m = x) ∨ (O = false ∧ V = false ∧ E = 0 ∧ stopX x m = ⟨x.xs, x.st, max m 0, x.sd⟩)) := by
  refine ⟨_, _, _, rfl, rfl, rfl, ?_⟩
  by_cases h2 : x.st = 2
  · have hc : closedOf x.st x.sd = 54 := by unfold closedOf; rw [if_pos h2]
    refine .inl ⟨by simpa using h2, hc, ?_⟩
    unfold stopX; rw [if_pos (by rw [hc]; decide)]
  · by_cases hd : x.sd = true
    · have hc : closedOf x.st x.sd = 55 := by unfold closedOf; rw [if_neg h2, if_pos hd]
      refine .inr (.inl ⟨by simpa using h2, hd, hc, ?_⟩)
      unfold stopX; rw [if_pos (by rw [hc]; decide)]
    · have hd' : x.sd = false := by simpa using hd
      have hc : closedOf x.st x.sd = 0 := by unfold closedOf; rw [if_neg h2, if_neg hd]
      refine .inr (.inr ⟨by simpa using h2, hd', hc, ?_⟩)
      unfold stopX; rw [if_neg (by rw [hc]; decide)]
theorem pub_cases (x : Bk) (hx : x.ok) : ∃ (O V S : Bool) (E : Int) (b2 b1 : Bool), decide (x.st = 2) = O ∧ x.sd = V ∧ decide (x.sp ≠ -1) = S ∧ pubE x = E ∧ (pubX x).sd = b2 ∧ decide ((pubX x).st = 2) = b1 ∧ (pubX x).sp = x.sp ∧ (pubX x).xs = x.xs ∧
    ((O = true ∧ V = false ∧ S = false ∧ E = 54 ∧ b2 = false ∧ b1 = true) ∨ (O = false ∧ V = true ∧ E = 55 ∧ b2 = true ∧ b1 = false) ∨ (O = false ∧ V = false ∧ S = true ∧ E = 55 ∧ b2 = true ∧ b1 = false) ∨ (O = false ∧ V = false ∧ S = false ∧ E = 0 ∧ b2 = false ∧ b1 = true)) := by
  refine ⟨_, _, _, _, _, _, rfl, rfl, rfl, rfl, rfl, rfl, ?_⟩
  by_cases h2 : x.st = 2
  · have hc : closedOf x.st x.sd = 54 := by unfold closedOf; rw [if_pos h2]
    have hp : pubX x = x := by unfold pubX; rw [if_pos (by rw [hc]; decide)]
    have he : pubE x = 54 := by unfold pubE; rw [if_pos (by rw [hc]; decide), hc]
    obtain ⟨h3, h4⟩ : x.sp = -1 ∧ x.sd = false := by
      rcases hx.1 with h | h
      · omega
      · exact h.2
    rw [hp]
    exact ⟨rfl, rfl, .inl ⟨by simpa using h2, h4, by simpa using h3, he, h4, by simpa using h2⟩⟩
  · by_cases hd : x.sd = true
    · have hc : closedOf x.st x.sd = 55 := by unfold closedOf; rw [if_neg h2, if_pos hd]
      have hp : pubX x = x := by unfold pubX; rw [if_pos (by rw [hc]; decide)]
      have he : pubE x = 55 := by unfold pubE; rw [if_pos (by rw [hc]; decide), hc]
      rw [hp]
      exact ⟨rfl, rfl, .inr (.inl ⟨by simpa using h2, hd, he, hd, by simpa using h2⟩)⟩
    · have hd' : x.sd = false := by simpa using hd
      have hc : closedOf x.st x.sd = 0 := by unfold closedOf; rw [if_neg h2, if_neg hd]
      by_cases hs : x.sp ≠ -1
      · have hp : pubX x = ⟨x.xs, x.st, x.sp, true⟩ := by unfold pubX; rw [if_neg (by rw [hc]; decide), if_pos hs]
        have he : pubE x = 55 := by unfold pubE; rw [if_neg (by rw [hc]; decide), if_pos hs]
        rw [hp]
        exact ⟨rfl, rfl, .inr (.inr (.inl ⟨by simpa using h2, hd', by simpa using hs, he, rfl, by simpa using h2⟩))⟩
      · have hp : pubX x = ⟨x.xs, 2, x.sp, x.sd⟩ := by unfold pubX; rw [if_neg (by rw [hc]; decide), if_neg hs]
        have he : pubE x = 0 := by unfold pubE; rw [if_neg (by rw [hc]; decide), if_neg hs]
        rw [hp]
        exact ⟨rfl, rfl, .inr (.inr (.inr ⟨by simpa using h2, hd', by simpa using hs, he, hd', rfl⟩))⟩
theorem appX_len (x : Bk) (bs : List (BitVec 8)) : (appX x bs).xs.length ≤ x.xs.length + bs.length := by
  unfold appX
  split
  · omega
  · split
    · simp only [List.length_append, List.length_take]; omega
    · simp only [List.length_append]; omega
theorem stopX_len (x : Bk) (m : Int) : (stopX x m).xs = x.xs := by
  unfold stopX; split <;> rfl
theorem len_upd (X : Nat → Bk) (k M : Nat) (x : Bk) (h : ∀ j, j < 4 → (X j).xs.length ≤ M) (hx : x.xs.length ≤ M) : ∀ j, j < 4 → (updX X k x j).xs.length ≤ M := by
  intro j hj
  unfold updX
  split
  · exact hx
  · exact h j hj
theorem lbf_other {w : World} {lb : Nat} {F : Nat → Nat → Value} (h : LBF w lb F) (k c d : Nat) (hk : k < 4) (hc : c < 5) (hd : d < 5) (hne : d ≠ c) (v x : Value) (hx : w.cell? ⟨lb, k * 5 + d, none⟩ = some x) : (w.setCell ⟨lb, k * 5 + c, none⟩ v).cell? ⟨lb, k * 5 + d, none⟩ = some x := by
  rw [(h.set k c hk hc v).cell k d hk hd]
  rw [h.cell k d hk hd] at hx
  unfold setF
  rw [if_neg (by omega)]
  exact hx
theorem lbf_same {w : World} {lb : Nat} {F : Nat → Nat → Value} (h : LBF w lb F) (k c : Nat) (hk : k < 4) (hc : c < 5) (v : Value) : (w.setCell ⟨lb, k * 5 + c, none⟩ v).cell? ⟨lb, k * 5 + c, none⟩ = some v := by
  rw [(h.set k c hk hc v).cell k c hk hc]
  unfold setF
  rw [if_pos ⟨rfl, rfl⟩]
section
variable {w0 w w' : World} {s bm lb base : Nat} {D : DataW Unit} {bl : Nat → Nat} {u u' : Nat → Value} {X Y X' Y' : Nat → Bk} {g : Nat} {wh : Int} {d : Value} {stp : Bool} {att : Int} {pb : Bool}
theorem Rs.book (f : Fix w0.heap.size s bm lb base D bl) (h : Rs w0 w s bm lb base D bl u X Y g wh d stp att pb) (k : Nat) (hk : k < 4) (F : Nat → Nat → Value) (y : Bk) (hy : y.xs = (Y k).xs) (hg : w.grownBy w' (some lb)) (hL : LBF w' lb F) (h0 : ∀ c, c < 5 → F k c = bookF (u (4 + k)) y c) (hF : ∀ j c, j ≠ k → F j c = bookF (u (4 + j)) (Y j) c) :
    Rs w0 w' s bm lb base D bl u X (updX Y k y) g wh d stp att pb := by
  obtain ⟨a, b, c⟩ := h.inv.write f k hk F y hy hg hL h0 hF
  exact h.next a b c
theorem Rs.pubBook (f : Fix w0.heap.size s bm lb base D bl) (h : Rs w0 w s bm lb base D bl u X Y g wh d stp att pb) (k : Nat) (hk : k < 4) (y : Bk) (b2 b1 : Bool) (hy : y.xs = (Y k).xs) (hp : y.sp = (Y k).sp) (h2 : y.sd = b2) (h1 : decide (y.st = 2) = b1) :
    Rs w0 ((w.setCell ⟨lb, k * 5 + 2, none⟩ (.bool b2)).setCell ⟨lb, k * 5 + 1, none⟩ (.bool b1)) s bm lb base D bl u X (updX Y k y) g wh d stp att pb := by
  subst h2 h1
  refine h.book f k hk (setF (setF (fun k c => bookF (u (4 + k)) (Y k) c) k 2 (.bool y.sd)) k 1 (.bool (decide (y.st = 2)))) y hy (grown_cell (grown_cell (World.grownBy.refl _ _) _ _) _ _) ((h.inv.book.set k 2 hk (by omega) _).set k 1 hk (by omega) _) ?_ ?_
  · intro c hc
    match c, hc with
    | 0, _ => simp [setF, bookF]
    | 1, _ => simp [setF, bookF]
    | 2, _ => simp [setF, bookF]
    | 3, _ => simp [setF, bookF, hp]
    | 4, _ => simp [setF, bookF, hp]
  · intro j c hj
    simp [setF, hj]
theorem Rs.stopBook (f : Fix w0.heap.size s bm lb base D bl) (h : Rs w0 w s bm lb base D bl u X Y g wh d stp att pb) (k : Nat) (hk : k < 4) (ha : ¬ att < 0) :
    Rs w0 ((w.setCell ⟨lb, k * 5 + 3, none⟩ (.bool true)).setCell ⟨lb, k * 5 + 4, none⟩ (.int .i64 att)) s bm lb base D bl u X (updX Y k ⟨(Y k).xs, (Y k).st, max att 0, (Y k).sd⟩) g wh d stp att pb := by
  have e1 : max att 0 = att := by omega
  have e2 : ¬ att = -1 := by omega
  rw [e1]
  refine h.book f k hk (setF (setF (fun k c => bookF (u (4 + k)) (Y k) c) k 3 (.bool true)) k 4 (.int .i64 att)) ⟨(Y k).xs, (Y k).st, att, (Y k).sd⟩ rfl (grown_cell (grown_cell (World.grownBy.refl _ _) _ _) _ _) ((h.inv.book.set k 3 hk (by omega) _).set k 4 hk (by omega) _) ?_ ?_
  · intro c hc
    match c, hc with
    | 0, _ => simp [setF, bookF]
    | 1, _ => simp [setF, bookF]
    | 2, _ => simp [setF, bookF]
    | 3, _ => simp [setF, bookF, e2]
    | 4, _ => simp [setF, bookF, e2]
  · intro j c hj
    simp [setF, hj]
theorem Rs.stopBook0 (f : Fix w0.heap.size s bm lb base D bl) (h : Rs w0 w s bm lb base D bl u X Y g wh d stp att pb) (k : Nat) (hk : k < 4) (ha : att < 0) :
    Rs w0 (((w.setCell ⟨lb, k * 5 + 3, none⟩ (.bool true)).setCell ⟨lb, k * 5 + 4, none⟩ (.int .i64 att)).setCell ⟨lb, k * 5 + 4, none⟩ (.int .i64 0)) s bm lb base D bl u X (updX Y k ⟨(Y k).xs, (Y k).st, max att 0, (Y k).sd⟩) g wh d stp att pb := by
  have e1 : max att 0 = 0 := by omega
  rw [e1]
  refine h.book f k hk (setF (setF (setF (fun k c => bookF (u (4 + k)) (Y k) c) k 3 (.bool true)) k 4 (.int .i64 att)) k 4 (.int .i64 0)) ⟨(Y k).xs, (Y k).st, 0, (Y k).sd⟩ rfl (grown_cell (grown_cell (grown_cell (World.grownBy.refl _ _) _ _) _ _) _ _) (((h.inv.book.set k 3 hk (by omega) _).set k 4 hk (by omega) _).set k 4 hk (by omega) _) ?_ ?_
  · intro c hc
    match c, hc with
    | 0, _ => simp [setF, bookF]
    | 1, _ => simp [setF, bookF]
    | 2, _ => simp [setF, bookF]
    | 3, _ => simp [setF, bookF]
    | 4, _ => simp [setF, bookF]
  · intro j c hj
    simp [setF, hj]
/-- Other worlds in which the block of books alone has turned: the piece stays. -/
theorem Rs.piece (f : Fix w0.heap.size s bm lb base D bl) (h : Rs w0 w s bm lb base D bl u X Y g wh d stp att pb) (j : Nat) (v : Value) : PB (w.setCell ⟨lb, j, none⟩ v) g wh d stp att pb := by
  have h1 := h.pb
  have h2 := h.gb
  have h3 := f.lt.2.2
  unfold PB at h1 ⊢
  rw [Below.heap_setCell _ _ _ _ (fun e => by simp at e; omega)]
  exact h1
theorem pb_book {w : World} {j : Nat} {v : Value} (h1 : PB w g wh d stp att pb) (h2 : lb < g) : PB (w.setCell ⟨lb, j, none⟩ v) g wh d stp att pb := by
  unfold PB at h1 ⊢
  rw [Below.heap_setCell _ _ _ _ (fun e => by simp at e; omega)]
  exact h1
theorem Rs.readOpen (f : Fix w0.heap.size s bm lb base D bl) (h : Rs w0 w s bm lb base D bl u X Y g wh d stp att pb) (k : Nat) (hk : k < 4) (h1 : (X k).st ≠ 2) (m : Int) (hm : 0 ≤ m) :
    Calls Try.prog 13 #[.pointer (some ⟨s, 0, none⟩), .string (nameOf k), .int .i64 0, .int .i64 m] w fun e w' => e = .returned (.tuple #[.slice none 0 0, .int .i64 53]) ∧ Rs w0 w' s bm lb base D bl u X Y g wh d stp att pb := by
  refine (inv_read_open f h.inv k hk h1 m hm).mono ?_
  rintro e w' ⟨rfl, hi, hb, hf⟩
  exact ⟨rfl, h.next hi hb hf⟩
theorem Rs.readOut (f : Fix w0.heap.size s bm lb base D bl) (h : Rs w0 w s bm lb base D bl u X Y g wh d stp att pb) (k : Nat) (hk : k < 4) (h1 : (X k).st = 2) (hl : (X k).xs.length ≤ 268435456) (m : Int) (hm : ((X k).xs.length : Int) ≤ m) :
    Calls Try.prog 13 #[.pointer (some ⟨s, 0, none⟩), .string (nameOf k), .int .i64 0, .int .i64 m] w fun e w' => ∃ v, e = .returned (.tuple #[v, .int .i64 0]) ∧ Own w' w.heap.size v (X k).xs ∧ Rs w0 w' s bm lb base D bl u X Y g wh d stp att pb := by
  refine (inv_read_out f h.inv k hk h1 hl m hm).mono ?_
  rintro e w' ⟨v, rfl, ho, hi, hb, hf⟩
  exact ⟨v, rfl, ho, h.next hi hb hf⟩
end
end Go.Proofs.Ytdcjhjpbkpiddaa.St
