/-
  What the calls of the store do to the four blobs.
-/
import Derived.Test.YtdcjhjpbkpiddaaStInv
namespace Go.Proofs.Ytdcjhjpbkpiddaa.St
open Go.ChangeShapes Go.WideShapes Go.ChangeAt Go.RowKit
open Go.Proofs.Ytdcjhjpbkpiddaa.Base
set_option linter.unusedVariables false
theorem updV_self (u : Nat → Value) (k : Nat) : updV u k (u k) = u := by
  funext j
  unfold updV
  split
  · rename_i h; rw [h]
  · rfl
theorem updX_self (X : Nat → Bk) (k : Nat) : updX X k (X k) = X := by
  funext j
  unfold updX
  split
  · rename_i h; rw [h]
  · rfl
theorem whr_refl (w : World) (v : Value) : Whr w v v := .inl rfl
section
variable {w w1 w3 : World} {lo s bm lb base : Nat} {D : DataW Unit} {bl : Nat → Nat} {u : Nat → Value} {X Y : Nat → Bk} {R B G : Int}
/-- Ahead of what is done with the blob. -/
theorem Inv.locked (f : Fix lo s bm lb base D bl) (I : Inv w s bm lb base D bl u X Y) (k : Nat) (hk : k < 4) (hs : Store w s bm 4 D R B G) (hB1 : Below w.heap.size w w1) :
    BAt (w1.setCell ⟨s, 0, none⟩ (.int .i32 1)) (bl k) (u k) (X k).st (X k).sp (X k).sd ∧ Own (w1.setCell ⟨s, 0, none⟩ (.int .i32 1)) base (u k) (X k).xs ∧ base ≤ (w1.setCell ⟨s, 0, none⟩ (.int .i32 1)).heap.size ∧ w.heap.size ≤ (w1.setCell ⟨s, 0, none⟩ (.int .i32 1)).heap.size ∧ SAt (w1.setCell ⟨s, 0, none⟩ (.int .i32 1)) s 1 bm R B G := by
  have hg : w1.grownBy (w1.setCell ⟨s, 0, none⟩ (.int .i32 1)) (some s) := grown_cell (World.grownBy.refl _ _) _ _
  have hsz := Nat.le_trans hB1.size hg.size
  refine ⟨((I.blob k hk).grown (below_grown hB1) (by simp)).grown hg (by simpa using fun e => (f.neb k hk).1 e.symm), keep ((I.ownb k hk).below hB1) hg (fun i j e e2 => by have h1 := (blk (I.ownb k hk) i e).1; have h2 := Option.some.inj e2; have h3 := f.lt.1; omega), Nat.le_trans I.size hsz, hsz, ?_⟩
  exact (hs.at_.grown (below_grown hB1) (by simp)).lock 1
/-- Behind it. -/
theorem Inv.freed (f : Fix lo s bm lb base D bl) (I : Inv w s bm lb base D bl u X Y) (k : Nat) (hk : k < 4) (hs : Store w s bm 4 D R B G) (hB1 : Below w.heap.size w w1) (hK : Kept2 (w1.setCell ⟨s, 0, none⟩ (.int .i32 1)) w3 (some (bl k)) (u k).ownBlock) :
    SAt w3 s 1 bm R B G ∧ Store (w3.setCell ⟨s, 0, none⟩ (.int .i32 0)) s bm 4 D R B G ∧ Only w (w3.setCell ⟨s, 0, none⟩ (.int .i32 0)) s (bl k) (u k).ownBlock ∧ Below lo w (w3.setCell ⟨s, 0, none⟩ (.int .i32 0)) ∧ w3.grownBy (w3.setCell ⟨s, 0, none⟩ (.int .i32 0)) (some s) := by
  have hg : w1.grownBy (w1.setCell ⟨s, 0, none⟩ (.int .i32 1)) (some s) := grown_cell (World.grownBy.refl _ _) _ _
  have hg4 : w3.grownBy (w3.setCell ⟨s, 0, none⟩ (.int .i32 0)) (some s) := grown_cell (World.grownBy.refl _ _) _ _
  have hown : ∀ i, (u k).ownBlock = some i → base ≤ i := fun i e => (blk (I.ownb k hk) i e).1
  have h1 := f.lt
  have h2 := f.ltb k hk
  have h3 := f.neb k hk
  have hsz := I.size
  have hS2 := (hs.at_.grown (below_grown hB1) (by simp)).lock 1
  have hS3 : SAt w3 s 1 bm R B G := hS2.kept hK (fun e => h3.1 (Option.some.inj e)) (fun e => by have := hown s e; omega)
  have hM3 : MAt w3 bm 4 D := ((hs.map.grown (below_grown hB1) (by simp)).grown hg (by simpa using hs.ne)).kept hK (fun e => h3.2.1 (Option.some.inj e)) (fun e => by have := hown bm e; omega)
  have hbl : ∀ i, i < w.heap.size → i ≠ s → i ≠ bl k → some i ≠ (u k).ownBlock → (w3.setCell ⟨s, 0, none⟩ (.int .i32 0)).heap[i]? = w.heap[i]? := fun i hi e1 e2 e3 => by
    have a1 : i < w1.heap.size := Nat.lt_of_lt_of_le hi hB1.size
    have a2 : i < (w1.setCell ⟨s, 0, none⟩ (.int .i32 1)).heap.size := Nat.lt_of_lt_of_le a1 hg.size
    have a3 : i < w3.heap.size := Nat.lt_of_lt_of_le a2 hK.size
    rw [hg4.block i a3 (by simpa using e1), hK.block i a2 (by simpa using e2) e3, hg.block i a1 (by simpa using e1), hB1.block i hi]
  have hss : w.heap.size ≤ (w3.setCell ⟨s, 0, none⟩ (.int .i32 0)).heap.size := Nat.le_trans hB1.size (Nat.le_trans hg.size (Nat.le_trans hK.size hg4.size))
  refine ⟨hS3, ⟨hS3.lock 0, hM3.grown hg4 (by simpa using hs.ne), hs.ne⟩, ⟨hss, hbl⟩, ⟨hg4.os.trans (hK.os.trans (hg.os.trans hB1.os)), hg4.tape.trans (hK.tape.trans (hg.tape.trans hB1.tape)), hg4.output.trans (hK.output.trans (hg.output.trans hB1.output)), hss, fun i hi => hbl i ?_ ?_ ?_ ?_⟩, hg4⟩
  · have := f.low; omega
  · have := f.low; omega
  · have := f.lob k hk; omega
  · intro e; have := hown i e.symm; have := f.low; omega
end
theorem closed_cases (x : Bk) (h : x.ok) : closedOf x.st x.sd ≠ 0 ∨ (x.st = 1 ∧ x.sd = false ∧ closedOf x.st x.sd = 0) := by
  unfold closedOf
  by_cases h2 : x.st = 2
  · left; rw [if_pos h2]; decide
  · rw [if_neg h2]
    cases hd : x.sd with
    | true => left; simp
    | false =>
      right
      refine ⟨?_, rfl, by simp⟩
      rcases h.1 with h1 | h1
      · exact h1
      · exact absurd h1.1 h2
/-- What an Append makes of a blob. -/
def appX (x : Bk) (bs : List (BitVec 8)) : Bk := if closedOf x.st x.sd ≠ 0 then x else if x.sp ≠ -1 ∧ x.sp < (x.xs.length : Int) + (bs.length : Int) then ⟨x.xs ++ bs.take (max (x.sp - (x.xs.length : Int)) 0).toNat, x.st, x.sp, true⟩ else ⟨x.xs ++ bs, x.st, x.sp, x.sd⟩
/-- What it answers. -/
def appE (x : Bk) (bs : List (BitVec 8)) : Int := if closedOf x.st x.sd ≠ 0 then closedOf x.st x.sd else if x.sp ≠ -1 ∧ x.sp < (x.xs.length : Int) + (bs.length : Int) then 55 else 0
theorem bk_eta (x : Bk) (a b : Int) (d : Bool) (h1 : x.st = a) (h2 : x.sp = b) (h3 : x.sd = d) : x = ⟨x.xs, a, b, d⟩ := by cases x; simp at h1 h2 h3; subst h1 h2 h3; rfl
theorem inv_append {w : World} {lo s bm lb base : Nat} {D : DataW Unit} {bl : Nat → Nat} {u : Nat → Value} {X Y : Nat → Bk} (f : Fix lo s bm lb base D bl) (I : Inv w s bm lb base D bl u X Y) (k : Nat) (hk : k < 4) (ma : Option Addr) (ml mc : Nat) (bs : List (BitVec 8))
    (hr : Rd w ma ml bs) (hrl : 0 < ml → ∀ ad, ma = some ad → ad.block < lo) (hnil : ma = none → ml = 0 ∧ mc = 0) (hmc : ml ≤ mc) (hl : (X k).xs.length + ml ≤ 268435456) :
    Calls Try.prog 10 #[.pointer (some ⟨s, 0, none⟩), .string (nameOf k), .slice ma ml mc] w fun e w' => ∃ r : Int, e = .returned (.int .i64 r) ∧ (r = appE (X k) bs ∧ Below lo w w' ∧ ∃ v, Inv w' s bm lb base D bl (updV u k v) (updX X k (appX (X k) bs)) Y ∧ Far w w' base u (updV u k v)) := by
  obtain ⟨R, B, G, hs, hG⟩ := I.store
  obtain ⟨w1, hw1⟩ : ∃ w1, w.alloc (.cells #[.slice ma ml mc] 25) = w1 := ⟨_, rfl⟩
  have hB1 : Below w.heap.size w w1 := by rw [← hw1]; exact (Below.refl _ _).alloc (Nat.le_refl _) _
  obtain ⟨hb2, ho2, hbs2, hws2, hS2⟩ := I.locked f k hk hs hB1
  have hok := I.okX k hk
  have hbl : bs.length = ml := hr.1
  have hg2 : w1.grownBy (w1.setCell ⟨s, 0, none⟩ (.int .i32 1)) (some s) := grown_cell (World.grownBy.refl _ _) _ _
  have hr2 : Rd (w1.setCell ⟨s, 0, none⟩ (.int .i32 1)) ma ml bs := rd_grown (hr.below hB1) hg2 (fun h ad e e2 => by have h1 := hrl h ad e; have h2 := Option.some.inj e2; have h3 := f.low; omega)
  refine appendS_by s bm 4 (bl k) D R B G (nameOf k) ma ml mc w w1 (fun r w' => r = appE (X k) bs ∧ Below lo w w' ∧ ∃ v, Inv w' s bm lb base D bl (updV u k v) (updX X k (appX (X k) bs)) Y ∧ Far w w' base u (updV u k v)) hs (okNameOf k hk) (by rw [name_size]; omega) (f.d1 k hk .nil) hw1 ?_
  rcases closed_cases (X k) hok with hc | ⟨h1, hd, hc⟩
  · refine (write_closed (bl k) (u k) (.slice ma ml mc) _ _ _ _ hb2 hc).mono ?_
    rintro e w3 ⟨rfl, rfl⟩
    obtain ⟨q1, q2, q3, q4, q5⟩ := I.freed f k hk hs hB1 (Kept2.refl _ _ _)
    refine ⟨_, rfl, q1, by unfold appE; rw [if_pos hc], q4, u k, ?_⟩
    have e : appX (X k) bs = X k := by unfold appX; rw [if_pos hc]
    rw [e]
    exact I.blobTurn f k hk (u k) (X k) ⟨R, B, G, q2, hG⟩ (hb2.grown q5 (by simpa using fun e => (f.neb k hk).1 e.symm)) (keep ho2 q5 (fun i j e e2 => by have h1 := (blk ho2 i e).1; have h2 := Option.some.inj e2; have h3 := f.lt.1; omega)) q3 (whr_refl _ _) hok
  · obtain ⟨va, vc, hv⟩ := ho2.shape
    have hov : ∀ i, (u k).ownBlock = some i → i ≠ bl k := fun i e => by have h1 := (blk ho2 i e).1; have h2 := f.ltb k hk; omega
    have hbk := f.ltb k hk
    by_cases hp : (X k).sp ≠ -1 ∧ (X k).sp < ((X k).xs.length : Int) + (bs.length : Int)
    · have eX : appX (X k) bs = ⟨(X k).xs ++ bs.take (max ((X k).sp - ((X k).xs.length : Int)) 0).toNat, (X k).st, (X k).sp, true⟩ := by unfold appX; rw [if_neg (by rw [hc]; simp), if_pos hp]
      have eE : appE (X k) bs = 55 := by unfold appE; rw [if_neg (by rw [hc]; simp), if_pos hp]
      have hsp0 : 0 ≤ (X k).sp := by rcases hok.2 with h | h <;> omega
      rw [h1, hd, hv] at hb2
      rw [hv] at ho2 hov
      refine (write_beyond (bl k) base (max ((X k).sp - ((X k).xs.length : Int)) 0).toNat (X k).sp va (X k).xs.length vc (X k).xs ma ml mc bs _ hb2 ho2 hov hbs2 hbk hr2 (fun h ad e => by have h1 := hrl h ad e; have h3 := f.lob k hk; omega) hnil hmc hl hsp0 (by rw [← hbl]; exact hp.2) (by omega)).mono ?_
      rintro e w3 ⟨v, rfl, hb3, ho3, hk3, hw3⟩
      rw [← hv] at hk3 hw3
      obtain ⟨q1, q2, q3, q4, q5⟩ := I.freed f k hk hs hB1 hk3
      refine ⟨_, rfl, q1, eE.symm, q4, v, ?_⟩
      rw [eX]
      exact I.blobTurn f k hk v _ ⟨R, B, G, q2, hG⟩ (by rw [h1]; exact hb3.grown q5 (by simpa using fun e => (f.neb k hk).1 e.symm)) (keep ho3 q5 (fun i j e e2 => by have h1 := (blk ho3 i e).1; have h2 := Option.some.inj e2; have h3 := f.lt.1; omega)) q3 (hw3.from hws2) ⟨.inl h1, .inr hsp0⟩
    · have eX : appX (X k) bs = ⟨(X k).xs ++ bs, (X k).st, (X k).sp, (X k).sd⟩ := by unfold appX; rw [if_neg (by rw [hc]; simp), if_neg hp]
      have eE : appE (X k) bs = 0 := by unfold appE; rw [if_neg (by rw [hc]; simp), if_neg hp]
      rw [h1, hd, hv] at hb2
      rw [hv] at ho2 hov
      refine (write_more (bl k) base (X k).sp va (X k).xs.length vc (X k).xs ma ml mc bs _ hb2 ho2 hov hbs2 hbk hr2 hnil hl (by
        by_cases e : (X k).sp = -1
        · exact .inl e
        · refine .inr ⟨e, ?_⟩
          have : ¬ (X k).sp < ((X k).xs.length : Int) + (bs.length : Int) := fun h => hp ⟨e, h⟩
          omega)).mono ?_
      rintro e w3 ⟨v, rfl, hb3, ho3, hk3, hw3⟩
      rw [← hv] at hk3 hw3
      obtain ⟨q1, q2, q3, q4, q5⟩ := I.freed f k hk hs hB1 hk3
      refine ⟨_, rfl, q1, eE.symm, q4, v, ?_⟩
      rw [eX]
      exact I.blobTurn f k hk v _ ⟨R, B, G, q2, hG⟩ (by rw [h1, hd]; exact hb3.grown q5 (by simpa using fun e => (f.neb k hk).1 e.symm)) (keep ho3 q5 (fun i j e e2 => by have h1 := (blk ho3 i e).1; have h2 := Option.some.inj e2; have h3 := f.lt.1; omega)) q3 (hw3.from hws2) ⟨.inl h1, hok.2⟩
end Go.Proofs.Ytdcjhjpbkpiddaa.St
