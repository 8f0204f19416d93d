/-
  What an Append must answer, by the books; how a book is written.
-/
import Derived.Test.YtdcjhjpbkpiddaaStInv3
namespace Go.Proofs.Ytdcjhjpbkpiddaa.St
open Go.ChangeShapes Go.WideShapes Go.ChangeAt Go.RowKit
open Go.Proofs.Ytdcjhjpbkpiddaa.Base
set_option linter.unusedVariables false
section
variable {w : World} {lo s bm lb base : Nat} {D : DataW Unit} {bl : Nat → Nat} {u : Nat → Value} {X Y : Nat → Bk}
/-- The books by one other slice and one other state. -/
theorem book_congr (u : Nat → Value) (Y : Nat → Bk) (k : Nat) (v : Value) (y : Bk) (G : Nat → Nat → Value) (h0 : ∀ c, c < 5 → G k c = bookF v y c) (hG : ∀ j c, j ≠ k → G j c = bookF (u (4 + j)) (Y j) c) :
    ∀ j c, j < 4 → c < 5 → G j c = bookF (updV u (4 + k) v (4 + j)) (updX Y k y j) c := by
  intro j c hj hc
  by_cases e : j = k
  · subst e; rw [updV_same, updX_same]; exact h0 c hc
  · rw [updV_ne _ _ _ _ (by omega), updX_ne _ _ _ _ e]; exact hG j c e
theorem only_kept {w w' : World} {b : Nat} {q : Option Nat} (h : Kept2 w w' (some b) q) : Only w w' b b q := ⟨h.size, fun i hi e1 _ e2 => h.block i hi (by simpa using e1) e2⟩
theorem below_book (f : Fix lo s bm lb base D bl) (I : Inv w s bm lb base D bl u X Y) {w' : World} (k : Nat) (hk : k < 4) (h : Kept2 w w' (some lb) (u (4 + k)).ownBlock) : Below lo w w' :=
  ⟨h.os, h.tape, h.output, h.size, fun i hi => h.block i (by have := f.low; have := I.size; omega) (fun e => by have h2 := Option.some.inj e; have := f.low; omega) (fun e => by have h2 := (blk (I.ownl k hk) i e.symm).1; have := f.low; omega)⟩
theorem inv_wants (f : Fix lo s bm lb base D bl) (I : Inv w s bm lb base D bl u X Y) (k : Nat) (hk : k < 4) (hy : (Y k).ok) (ma : Option Addr) (ml mc : Nat) (bs : List (BitVec 8)) (hr : Rd w ma ml bs) (hnil : ma = none → ml = 0 ∧ mc = 0) (hmc : ml ≤ mc) (hl : (Y k).xs.length + ml ≤ 268435456) :
    Calls Try.prog 11 #[.pointer (some ⟨lb, k * 5, none⟩), .slice ma ml mc] w fun e w' => e = .returned (.int .i64 (appE (Y k) bs)) ∧ Below lo w w' ∧ ∃ v, Inv w' s bm lb base D bl (updV u (4 + k) v) X (updX Y k (appX (Y k) bs)) ∧ Far w w' base u (updV u (4 + k) v) := by
  have hb := bookAt u Y k
  have ho := I.ownl k hk
  have hbl : bs.length = ml := hr.1
  have hbk := f.lt.2.2
  obtain ⟨va, vc, hv⟩ := ho.shape
  rcases closed_cases (Y k) hy with hc | ⟨h1, hd, hc⟩
  · have eX : appX (Y k) bs = Y k := by unfold appX; rw [if_pos hc]
    have eE : appE (Y k) bs = closedOf (Y k).st (Y k).sd := by unfold appE; rw [if_pos hc]
    have hI : ∃ v, Inv w s bm lb base D bl (updV u (4 + k) v) X (updX Y k (Y k)) ∧ Far w w base u (updV u (4 + k) v) := ⟨u (4 + k), by rw [updV_self, updX_self]; exact ⟨I, fun i _ _ h => ⟨rfl, h⟩⟩⟩
    rw [eX, eE]
    have hB : Below lo w w := below_book f I k hk (Kept2.refl _ _ _)
    by_cases h2 : (Y k).st = 2
    · rw [show decide ((Y k).st = 2) = true by simpa using h2] at hb
      refine (wants_out lb k _ _ (.slice ma ml mc) _ _ _ w I.book hk hb).mono ?_
      rintro e w' ⟨rfl, rfl⟩
      exact ⟨by unfold closedOf; rw [if_pos h2], hB, hI⟩
    · have hdt : (Y k).sd = true := by
        unfold closedOf at hc
        rw [if_neg h2] at hc
        cases h : (Y k).sd with
        | true => rfl
        | false => rw [h] at hc; simp at hc
      have ec : closedOf (Y k).st (Y k).sd = 55 := by unfold closedOf; rw [if_neg h2, if_pos hdt]
      rw [show decide ((Y k).st = 2) = false by simpa using h2, hdt] at hb
      refine (wants_over lb k _ _ (.slice ma ml mc) _ _ w I.book hk hb).mono ?_
      rintro e w' ⟨rfl, rfl⟩
      exact ⟨by rw [ec], hB, hI⟩
  · rw [show decide ((Y k).st = 2) = false by rw [h1]; rfl, hd] at hb
    by_cases hp : (Y k).sp ≠ -1 ∧ (Y k).sp < ((Y k).xs.length : Int) + (bs.length : Int)
    · have eX : appX (Y k) bs = ⟨(Y k).xs ++ bs.take (max ((Y k).sp - ((Y k).xs.length : Int)) 0).toNat, (Y k).st, (Y k).sp, true⟩ := by unfold appX; rw [if_neg (by rw [hc]; simp), if_pos hp]
      have eE : appE (Y k) bs = 55 := by unfold appE; rw [if_neg (by rw [hc]; simp), if_pos hp]
      rw [show decide ((Y k).sp ≠ -1) = true by simpa using hp.1, if_neg hp.1] at hb
      have hp2 := hp.2
      rw [eX, eE]
      by_cases hA : ((Y k).xs.length : Int) < (Y k).sp
      · obtain ⟨c, hcc⟩ : ∃ c : Nat, (Y k).sp - ((Y k).xs.length : Int) = (c : Int) := ⟨((Y k).sp - ((Y k).xs.length : Int)).toNat, by omega⟩
        have ecc : (max ((Y k).sp - ((Y k).xs.length : Int)) 0).toNat = c := by omega
        rw [ecc]
        have hbb := hb
        rw [hv] at hbb
        have ho' := ho
        rw [hv] at ho'
        refine (wants_part lb k base c _ va (Y k).xs.length vc (Y k).sp (Y k).xs ma ml mc bs w I.book hk hbb ho' I.size hbk hr hnil hmc hl (by rw [← hbl]; exact hp2) hA hcc).mono ?_
        rintro e w' ⟨v, rfl, hL, hO, hK, hW⟩
        rw [← hv] at hK hW
        refine ⟨rfl, below_book f I k hk hK, v, I.bookTurn f k hk v _ (hL.congr (book_congr u Y k v _ _ (fun c hc => ?_) (fun j c hj => ?_))) hO (only_kept hK) hW⟩
        · match c, hc with
          | 0, _ => simp [setF, bookF]
          | 1, _ => simp [setF, bookF]
          | 2, _ => simp [setF, bookF]
          | 3, _ => simp [setF, bookF]
          | 4, _ => simp [setF, bookF]
        · simp [setF, hj]
      · have ecc : (max ((Y k).sp - ((Y k).xs.length : Int)) 0).toNat = 0 := by omega
        rw [ecc, List.take_zero, List.append_nil]
        have hbb := hb
        rw [hv] at hbb
        refine (wants_none lb k _ va (Y k).xs.length vc (Y k).sp ma ml mc w I.book hk hbb hl (by rw [← hbl]; exact hp2) hA).mono ?_
        rintro e w' ⟨rfl, hL, hg⟩
        have hK : Kept2 w w' (some lb) (u (4 + k)).ownBlock := kept2_grown hg (.inl rfl)
        refine ⟨rfl, below_book f I k hk hK, u (4 + k), I.bookTurn f k hk (u (4 + k)) _ (hL.congr (book_congr u Y k _ _ _ (fun c hc => ?_) (fun j c hj => ?_))) (keep ho hg (fun i j e e2 => by have h1 := (blk ho i e).1; have h2 := Option.some.inj e2; omega)) (only_kept hK) (whr_refl _ _)⟩
        · match c, hc with
          | 0, _ => simp [setF, bookF]
          | 1, _ => simp [setF, bookF]
          | 2, _ => simp [setF, bookF]
          | 3, _ => simp [setF, bookF]
          | 4, _ => simp [setF, bookF]
        · simp [setF, hj]
    · have eX : appX (Y k) bs = ⟨(Y k).xs ++ bs, (Y k).st, (Y k).sp, (Y k).sd⟩ := by unfold appX; rw [if_neg (by rw [hc]; simp), if_neg hp]
      have eE : appE (Y k) bs = 0 := by unfold appE; rw [if_neg (by rw [hc]; simp), if_neg hp]
      rw [eX, eE]
      have hbb := hb
      rw [hv] at hbb
      have ho' := ho
      rw [hv] at ho'
      refine (wants_more lb k base _ va (Y k).xs.length vc _ _ (Y k).xs ma ml mc bs w I.book hk hbb ho' I.size hbk hr hnil hl (by
        by_cases e : (Y k).sp = -1
        · left; simp [e]
        · right
          rw [if_neg e]
          have : ¬ (Y k).sp < ((Y k).xs.length : Int) + (bs.length : Int) := fun h => hp ⟨e, h⟩
          omega)).mono ?_
      rintro e w' ⟨v, rfl, hL, hO, hK, hW⟩
      rw [← hv] at hK hW
      refine ⟨rfl, below_book f I k hk hK, v, I.bookTurn f k hk v _ (hL.congr (book_congr u Y k v _ _ (fun c hc => ?_) (fun j c hj => ?_))) hO (only_kept hK) hW⟩
      · match c, hc with
        | 0, _ => simp [setF, bookF]
        | 1, _ => simp [setF, bookF]
        | 2, _ => simp [setF, bookF]
        | 3, _ => simp [setF, bookF]
        | 4, _ => simp [setF, bookF]
      · simp [setF, hj]
/-- A cell of a book is written. -/
theorem Inv.write (f : Fix lo s bm lb base D bl) (I : Inv w s bm lb base D bl u X Y) (k : Nat) (hk : k < 4) (F : Nat → Nat → Value) {w' : World} (y : Bk) (hy : y.xs = (Y k).xs) (hg : w.grownBy w' (some lb)) (hL : LBF w' lb F) (h0 : ∀ c, c < 5 → F k c = bookF (u (4 + k)) y c) (hF : ∀ j c, j ≠ k → F j c = bookF (u (4 + j)) (Y j) c) :
    Inv w' s bm lb base D bl u X (updX Y k y) ∧ Below lo w w' ∧ Far w w' base u u := by
  have hK : Kept2 w w' (some lb) (u (4 + k)).ownBlock := kept2_grown hg (.inl rfl)
  have ho := I.ownl k hk
  have hbk := f.lt.2.2
  have h := I.bookTurn f k hk (u (4 + k)) y (hL.congr (book_congr u Y k (u (4 + k)) y F h0 hF)) (by rw [hy]; exact keep ho hg (fun i j e e2 => by have h1 := (blk ho i e).1; have h2 := Option.some.inj e2; omega)) (only_kept hK) (whr_refl _ _)
  rw [updV_self] at h
  exact ⟨h.1, below_book f I k hk hK, h.2⟩
end
end Go.Proofs.Ytdcjhjpbkpiddaa.St
