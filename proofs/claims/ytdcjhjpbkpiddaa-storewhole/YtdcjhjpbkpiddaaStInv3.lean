/-
  StopAt, Publish and Read on the four blobs; what an Append must answer, by the books.
-/
import Derived.Test.YtdcjhjpbkpiddaaStInv2
namespace Go.Proofs.Ytdcjhjpbkpiddaa.St
open Go.ChangeShapes Go.WideShapes Go.ChangeAt Go.RowKit
open Go.Proofs.Ytdcjhjpbkpiddaa.Base
set_option linter.unusedVariables false
def stopX (x : Bk) (m : Int) : Bk := if closedOf x.st x.sd ≠ 0 then x else ⟨x.xs, x.st, max m 0, x.sd⟩
def pubX (x : Bk) : Bk := if closedOf x.st x.sd ≠ 0 then x else if x.sp ≠ -1 then ⟨x.xs, x.st, x.sp, true⟩ else ⟨x.xs, 2, x.sp, x.sd⟩
def pubE (x : Bk) : Int := if closedOf x.st x.sd ≠ 0 then closedOf x.st x.sd else if x.sp ≠ -1 then 55 else 0
section
variable {w : World} {lo s bm lb base : Nat} {D : DataW Unit} {bl : Nat → Nat} {u : Nat → Value} {X Y : Nat → Bk}
theorem inv_stop (f : Fix lo s bm lb base D bl) (I : Inv w s bm lb base D bl u X Y) (k : Nat) (hk : k < 4) (m : Int) :
    Calls Try.prog 9 #[.pointer (some ⟨s, 0, none⟩), .string (nameOf k), .int .i64 m] w fun e w' => ∃ r : Int, e = .returned (.int .i64 r) ∧ (r = closedOf (X k).st (X k).sd ∧ Below lo w w' ∧ Inv w' s bm lb base D bl u (updX X k (stopX (X k) m)) Y ∧ Far w w' base u u) := by
  obtain ⟨R, B, G, hs, hG⟩ := I.store
  obtain ⟨w1, hw1⟩ : ∃ w1, w.alloc (.cells #[.int .i64 m] 2) = w1 := ⟨_, rfl⟩
  have hB1 : Below w.heap.size w w1 := by rw [← hw1]; exact (Below.refl _ _).alloc (Nat.le_refl _) _
  obtain ⟨hb2, ho2, hbs2, hws2, hS2⟩ := I.locked f k hk hs hB1
  have hok := I.okX k hk
  have hns : (some s : Option Nat) ≠ some (bl k) := by simpa using fun e => (f.neb k hk).1 e.symm
  have hov : ∀ i, (u k).ownBlock = some i → i ≠ bl k := fun i e => by have h1 := (blk ho2 i e).1; have h2 := f.ltb k hk; omega
  have hos : ∀ i j, (u k).ownBlock = some i → some s = some j → i ≠ j := fun i j e e2 => by have h1 := (blk ho2 i e).1; have h2 := Option.some.inj e2; have h3 := f.lt.1; omega
  refine stopAtS_by s bm 4 (bl k) D R B G (nameOf k) m w w1 (fun r w' => r = closedOf (X k).st (X k).sd ∧ Below lo w w' ∧ Inv w' s bm lb base D bl u (updX X k (stopX (X k) m)) Y ∧ Far w w' base u u) hs (okNameOf k hk) (by rw [name_size]; omega) (f.d1 k hk .nil) hw1 ?_
  rcases closed_cases (X k) hok with hc | ⟨h1, hd, hc⟩
  · refine (stopAt_closed (bl k) (u k) _ _ _ m _ hb2 hc).mono ?_
    rintro e w3 ⟨rfl, rfl⟩
    obtain ⟨q1, q2, q3, q4, q5⟩ := I.freed f k hk hs hB1 (Kept2.refl _ _ _)
    refine ⟨_, rfl, q1, rfl, q4, ?_⟩
    have e : stopX (X k) m = X k := by unfold stopX; rw [if_pos hc]
    rw [e]
    have h := I.blobTurn f k hk (u k) (X k) ⟨R, B, G, q2, hG⟩ (hb2.grown q5 hns) (keep ho2 q5 hos) q3 (whr_refl _ _) hok
    rw [updV_self] at h
    exact h
  · have e : stopX (X k) m = ⟨(X k).xs, (X k).st, max m 0, (X k).sd⟩ := by unfold stopX; rw [if_neg (by rw [hc]; simp)]
    rw [h1, hd] at hb2
    refine (stopAt_open (bl k) (u k) (X k).sp m (max m 0) _ hb2 rfl).mono ?_
    rintro e' w3 ⟨rfl, hb3, hg3⟩
    have hk3 := kept2_grown (p := some (bl k)) (q := (u k).ownBlock) hg3 (.inl rfl)
    have ho3 := keep ho2 hg3 (fun i j e e2 => by have h1 := hov i e; have h2 := Option.some.inj e2; omega)
    obtain ⟨q1, q2, q3, q4, q5⟩ := I.freed f k hk hs hB1 hk3
    refine ⟨_, rfl, q1, hc.symm, q4, ?_⟩
    rw [e]
    have h := I.blobTurn f k hk (u k) ⟨(X k).xs, (X k).st, max m 0, (X k).sd⟩ ⟨R, B, G, q2, hG⟩ (by rw [h1, hd]; exact hb3.grown q5 hns) (keep ho3 q5 hos) q3 (whr_refl _ _) ⟨.inl h1, .inr (by show 0 ≤ max m 0; omega)⟩
    rw [updV_self] at h
    exact h
theorem inv_publish (f : Fix lo s bm lb base D bl) (I : Inv w s bm lb base D bl u X Y) (k : Nat) (hk : k < 4) :
    Calls Try.prog 12 #[.pointer (some ⟨s, 0, none⟩), .string (nameOf k)] w fun e w' => ∃ r : Int, e = .returned (.int .i64 r) ∧ (r = pubE (X k) ∧ Below lo w w' ∧ Inv w' s bm lb base D bl u (updX X k (pubX (X k))) Y ∧ Far w w' base u u) := by
  obtain ⟨R, B, G, hs, hG⟩ := I.store
  have hB1 : Below w.heap.size w w := Below.refl _ _
  obtain ⟨hb2, ho2, hbs2, hws2, hS2⟩ := I.locked f k hk hs hB1
  have hok := I.okX k hk
  have hns : (some s : Option Nat) ≠ some (bl k) := by simpa using fun e => (f.neb k hk).1 e.symm
  have hov : ∀ i, (u k).ownBlock = some i → i ≠ bl k := fun i e => by have h1 := (blk ho2 i e).1; have h2 := f.ltb k hk; omega
  have hos : ∀ i j, (u k).ownBlock = some i → some s = some j → i ≠ j := fun i j e e2 => by have h1 := (blk ho2 i e).1; have h2 := Option.some.inj e2; have h3 := f.lt.1; omega
  refine publishS_by s bm 4 (bl k) D R B G (nameOf k) w (fun r w' => r = pubE (X k) ∧ Below lo w w' ∧ Inv w' s bm lb base D bl u (updX X k (pubX (X k))) Y ∧ Far w w' base u u) hs (okNameOf k hk) (by rw [name_size]; omega) (f.d1 k hk .nil) ?_
  rcases closed_cases (X k) hok with hc | ⟨h1, hd, hc⟩
  · refine (publish_closed (bl k) (u k) _ _ _ _ hb2 hc).mono ?_
    rintro e w3 ⟨rfl, rfl⟩
    obtain ⟨q1, q2, q3, q4, q5⟩ := I.freed f k hk hs hB1 (Kept2.refl _ _ _)
    refine ⟨_, rfl, q1, by unfold pubE; rw [if_pos hc], q4, ?_⟩
    have e : pubX (X k) = X k := by unfold pubX; rw [if_pos hc]
    rw [e]
    have h := I.blobTurn f k hk (u k) (X k) ⟨R, B, G, q2, hG⟩ (hb2.grown q5 hns) (keep ho2 q5 hos) q3 (whr_refl _ _) hok
    rw [updV_self] at h
    exact h
  · by_cases hp : (X k).sp ≠ -1
    · have e : pubX (X k) = ⟨(X k).xs, (X k).st, (X k).sp, true⟩ := by unfold pubX; rw [if_neg (by rw [hc]; simp), if_pos hp]
      have e2 : pubE (X k) = 55 := by unfold pubE; rw [if_neg (by rw [hc]; simp), if_pos hp]
      rw [h1, hd] at hb2
      refine (publish_stop (bl k) (u k) (X k).sp _ hb2 hp).mono ?_
      rintro e' w3 ⟨rfl, hw3⟩
      have hg3 : (w.setCell ⟨s, 0, none⟩ (.int .i32 1)).grownBy w3 (some (bl k)) := by rw [hw3]; exact grown_cell (World.grownBy.refl _ _) _ _
      have hb3 : BAt w3 (bl k) (u k) 1 (X k).sp true := by rw [hw3]; exact hb2.halt true
      have hk3 := kept2_grown (p := some (bl k)) (q := (u k).ownBlock) hg3 (.inl rfl)
      have ho3 := keep ho2 hg3 (fun i j e e2 => by have h1 := hov i e; have h2 := Option.some.inj e2; omega)
      obtain ⟨q1, q2, q3, q4, q5⟩ := I.freed f k hk hs hB1 hk3
      refine ⟨_, rfl, q1, e2.symm, q4, ?_⟩
      rw [e]
      have h := I.blobTurn f k hk (u k) ⟨(X k).xs, (X k).st, (X k).sp, true⟩ ⟨R, B, G, q2, hG⟩ (by rw [h1]; exact hb3.grown q5 hns) (keep ho3 q5 hos) q3 (whr_refl _ _) ⟨.inl h1, hok.2⟩
      rw [updV_self] at h
      exact h
    · have hp' : (X k).sp = -1 := by omega
      have e : pubX (X k) = ⟨(X k).xs, 2, (X k).sp, (X k).sd⟩ := by unfold pubX; rw [if_neg (by rw [hc]; simp), if_neg hp]
      have e2 : pubE (X k) = 0 := by unfold pubE; rw [if_neg (by rw [hc]; simp), if_neg hp]
      rw [h1, hd, hp'] at hb2
      refine (publish_any (bl k) (u k) _ hb2).mono ?_
      rintro e' w3 ⟨rfl, hw3⟩
      have hg3 : (w.setCell ⟨s, 0, none⟩ (.int .i32 1)).grownBy w3 (some (bl k)) := by rw [hw3]; exact grown_cell (World.grownBy.refl _ _) _ _
      have hb3 : BAt w3 (bl k) (u k) 2 (-1) false := by rw [hw3]; exact hb2.state 2
      have hk3 := kept2_grown (p := some (bl k)) (q := (u k).ownBlock) hg3 (.inl rfl)
      have ho3 := keep ho2 hg3 (fun i j e e2 => by have h1 := hov i e; have h2 := Option.some.inj e2; omega)
      obtain ⟨q1, q2, q3, q4, q5⟩ := I.freed f k hk hs hB1 hk3
      refine ⟨_, rfl, q1, e2.symm, q4, ?_⟩
      rw [e]
      have h := I.blobTurn f k hk (u k) ⟨(X k).xs, 2, (X k).sp, (X k).sd⟩ ⟨R, B, G, q2, hG⟩ (by rw [hd, hp']; exact hb3.grown q5 hns) (keep ho3 q5 hos) q3 (whr_refl _ _) ⟨.inr ⟨rfl, hp', hd⟩, .inl hp'⟩
      rw [updV_self] at h
      exact h
/-- Only the store's own cells have turned. -/
theorem Inv.storeTurn {w' : World} (f : Fix lo s bm lb base D bl) (I : Inv w s bm lb base D bl u X Y) (hS : ∃ R B G, Store w' s bm 4 D R B G ∧ 0 ≤ G ∧ G ≤ 268435456) (hK : Kept2 w w' (some s) none) : Inv w' s bm lb base D bl u X Y ∧ Below lo w w' ∧ Far w w' base u u := by
  have hsz := hK.size
  have h0 := I.size
  have h := I.blobTurn f 0 (by omega) (u 0) (X 0) hS ((I.blob 0 (by omega)).kept hK (by simpa using fun e => (f.neb 0 (by omega)).1 e.symm) (by simp)) (own_block (I.ownb 0 (by omega)) (fun i e => hK.block i (blk (I.ownb 0 (by omega)) i e).2 (fun e2 => by have h1 := (blk (I.ownb 0 (by omega)) i e).1; have h2 := Option.some.inj e2; have h3 := f.lt.1; omega) (by simp))) ⟨hsz, fun i hi e1 e2 e3 => hK.block i hi (by simpa using e1) (by simp)⟩ (whr_refl _ _) (I.okX 0 (by omega))
  rw [updV_self, updX_self] at h
  exact ⟨h.1, ⟨hK.os, hK.tape, hK.output, hsz, fun i hi => hK.block i (by have := f.low; omega) (fun e => by have h2 := Option.some.inj e; have := f.low; omega) (by simp)⟩, h.2⟩
theorem inv_read_open (f : Fix lo s bm lb base D bl) (I : Inv w s bm lb base D bl u X Y) (k : Nat) (hk : k < 4) (h1 : (X k).st ≠ 2) (m : Int) (hm : 0 ≤ m) :
    Calls Try.prog 13 #[.pointer (some ⟨s, 0, none⟩), .string (nameOf k), .int .i64 0, .int .i64 m] w fun e w' => e = .returned (.tuple #[.slice none 0 0, .int .i64 53]) ∧ Inv w' s bm lb base D bl u X Y ∧ Below lo w w' ∧ Far w w' base u u := by
  obtain ⟨R, B, G, hs, hG⟩ := I.store
  have h2 : (X k).st = 1 := by rcases (I.okX k hk).1 with h | h; · exact h
                               · exact absurd h.1 h1
  have hb := I.blob k hk
  rw [h2] at hb
  refine (readS_open s bm 4 (bl k) D R B G (nameOf k) (u k) 0 m w hs (okNameOf k hk) (by rw [name_size]; omega) (f.d1 k hk .nil) hb (fun e => (f.neb k hk).1 e.symm) hm).mono ?_
  rintro e w' ⟨rfl, hs', hK⟩
  exact ⟨rfl, I.storeTurn f ⟨R, B, G, hs', hG⟩ hK⟩
theorem inv_read_out (f : Fix lo s bm lb base D bl) (I : Inv w s bm lb base D bl u X Y) (k : Nat) (hk : k < 4) (h1 : (X k).st = 2) (hl : (X k).xs.length ≤ 268435456) (m : Int) (hm : ((X k).xs.length : Int) ≤ m) :
    Calls Try.prog 13 #[.pointer (some ⟨s, 0, none⟩), .string (nameOf k), .int .i64 0, .int .i64 m] w fun e w' => ∃ v, e = .returned (.tuple #[v, .int .i64 0]) ∧ Own w' w.heap.size v (X k).xs ∧ Inv w' s bm lb base D bl u X Y ∧ Below lo w w' ∧ Far w w' base u u := by
  obtain ⟨R, B, G, hs, hG⟩ := I.store
  obtain ⟨h2, h3⟩ : (X k).sp = -1 ∧ (X k).sd = false := by rcases (I.okX k hk).1 with h | h; · omega
                                                           · exact h.2
  have hb := I.blob k hk
  have ho := I.ownb k hk
  obtain ⟨va, vc, hv⟩ := ho.shape
  have hov : ∀ i, (u k).ownBlock = some i → i ≠ s := fun i e => by have h1 := (blk ho i e).1; have h3 := f.lt.1; omega
  rw [h1, h2, h3, hv] at hb
  rw [hv] at ho hov
  have e0 : readOf (X k).xs 0 m = ((X k).xs, 0) := by
    unfold readOf
    rw [if_neg (by omega)]
    congr 1
    rw [show (0 : Int).toNat = 0 from rfl, List.drop_zero, List.take_of_length_le (by omega)]
  refine (readS_any s bm 4 (bl k) base D R B G (nameOf k) va (X k).xs.length vc (X k).xs 0 m w hs (okNameOf k hk) (by rw [name_size]; omega) (f.d1 k hk .nil) hb ho hov hl (fun e => (f.neb k hk).1 e.symm) (by omega) hG.1 hG.2).mono ?_
  rintro e w' ⟨v, rfl, ho', hs', hK⟩
  rw [e0] at ho' hs' ⊢
  refine ⟨v, rfl, ho', I.storeTurn f ⟨_, _, _, hs', ?_⟩ hK⟩
  have eM : (metered R B G ((X k).xs, (0 : Int))).2.2 = max G ((X k).xs.length : Int) := by unfold metered; rw [if_pos rfl]
  rw [eM]
  have := hG
  omega
end
end Go.Proofs.Ytdcjhjpbkpiddaa.St
