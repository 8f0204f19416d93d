/-
  Four blobs and four books: what holds between the calls of the law, and what each call of the store does to it.
-/
import Derived.Test.YtdcjhjpbkpiddaaStBook
import Derived.Test.YtdcjhjpbkpiddaaStList2
namespace Go.Proofs.Ytdcjhjpbkpiddaa.St
open Go.ChangeShapes Go.WideShapes Go.ChangeAt Go.RowKit
open Go.Proofs.Ytdcjhjpbkpiddaa.Base
set_option linter.unusedVariables false
/-- How a blob stands: its bytes, its state, its stop, whether the stop has come. -/
structure Bk where
  xs : List (BitVec 8)
  st : Int
  sp : Int
  sd : Bool
/-- As a blob may stand. -/
def Bk.ok (X : Bk) : Prop := (X.st = 1 ∨ (X.st = 2 ∧ X.sp = -1 ∧ X.sd = false)) ∧ (X.sp = -1 ∨ 0 ≤ X.sp)
/-- The cells of a book. -/
def bookF (v : Value) (X : Bk) : Nat → Value
  | 0 => v
  | 1 => .bool (decide (X.st = 2))
  | 2 => .bool X.sd
  | 3 => .bool (decide (X.sp ≠ -1))
  | _ => .int .i64 (if X.sp = -1 then 0 else X.sp)
theorem bookAt (u : Nat → Value) (Y : Nat → Bk) (k : Nat) : BkAt (fun k c => bookF (u (4 + k)) (Y k) c) k (u (4 + k)) (decide ((Y k).st = 2)) (Y k).sd (decide ((Y k).sp ≠ -1)) (if (Y k).sp = -1 then 0 else (Y k).sp) := ⟨rfl, rfl, rfl, rfl, rfl⟩
def updV (u : Nat → Value) (k : Nat) (v : Value) : Nat → Value := fun j => if j = k then v else u j
def updX (X : Nat → Bk) (k : Nat) (x : Bk) : Nat → Bk := fun j => if j = k then x else X j
theorem updV_same (u : Nat → Value) (k : Nat) (v : Value) : updV u k v k = v := if_pos rfl
theorem updV_ne (u : Nat → Value) (k j : Nat) (v : Value) (h : j ≠ k) : updV u k v j = u j := if_neg h
theorem updX_same (X : Nat → Bk) (k : Nat) (x : Bk) : updX X k x k = x := if_pos rfl
theorem updX_ne (X : Nat → Bk) (k j : Nat) (x : Bk) (h : j ≠ k) : updX X k x j = X j := if_neg h
/-- Where all lies, and what the map says. -/
structure Fix (lo s bm lb base : Nat) (D : DataW Unit) (bl : Nat → Nat) : Prop where
  d1 : ∀ k, k < 4 → ∀ z, D.atKey (key (nameOf k)) z = .lit (.int .i64 (bl k : Int))
  d2 : ∀ kl, Maps.has D kl = true → ∃ k : Fin 4, kl = key (nameOf k.val)
  d3 : Maps.size D ≤ 4
  low : lo ≤ s ∧ lo ≤ bm ∧ lo ≤ lb ∧ lo ≤ base
  lob : ∀ k, k < 4 → lo ≤ bl k
  lt : s < base ∧ bm < base ∧ lb < base
  ltb : ∀ k, k < 4 → bl k < base
  ne : s ≠ lb ∧ bm ≠ lb ∧ s ≠ bm
  neb : ∀ k, k < 4 → bl k ≠ s ∧ bl k ≠ bm ∧ bl k ≠ lb
  inj : ∀ j k, j < 4 → k < 4 → j ≠ k → bl j ≠ bl k
/-- What holds: the blobs stand as X says, the books as Y says; u: the slices, first the blobs', then the books'. -/
structure Inv (w : World) (s bm lb base : Nat) (D : DataW Unit) (bl : Nat → Nat) (u : Nat → Value) (X Y : Nat → Bk) : Prop where
  store : ∃ R B G, Store w s bm 4 D R B G ∧ 0 ≤ G ∧ G ≤ 268435456
  blob : ∀ k, k < 4 → BAt w (bl k) (u k) (X k).st (X k).sp (X k).sd
  book : LBF w lb (fun k c => bookF (u (4 + k)) (Y k) c)
  ownb : ∀ k, k < 4 → Own w base (u k) (X k).xs
  ownl : ∀ k, k < 4 → Own w base (u (4 + k)) (Y k).xs
  apart : ∀ i j, i < 8 → j < 8 → i ≠ j → ∀ b, (u i).ownBlock = some b → (u j).ownBlock ≠ some b
  size : base ≤ w.heap.size
  okX : ∀ k, k < 4 → (X k).ok
/-- Only these blocks have turned. -/
def Only (w w' : World) (s b : Nat) (q : Option Nat) : Prop := w.heap.size ≤ w'.heap.size ∧ ∀ i, i < w.heap.size → i ≠ s → i ≠ b → some i ≠ q → w'.heap[i]? = w.heap[i]?
/-- A block that is none of the slices' stays, and becomes none of theirs. -/
def Far (w w' : World) (base : Nat) (u u' : Nat → Value) : Prop := ∀ i, base ≤ i → i < w.heap.size → (∀ j, j < 8 → (u j).ownBlock ≠ some i) → w'.heap[i]? = w.heap[i]? ∧ ∀ j, j < 8 → (u' j).ownBlock ≠ some i
theorem Far.of {w w' : World} {base s b : Nat} {u : Nat → Value} {k : Nat} {v : Value} (hk : k < 8) (hs : s < base) (hb : b < base) (ho : Only w w' s b (u k).ownBlock) (hW : Whr w (u k) v) : Far w w' base u (updV u k v) := by
  intro i h1 h2 h3
  refine ⟨ho.2 i h2 (by omega) (by omega) (fun e => h3 k hk e.symm), fun j hj e => ?_⟩
  unfold updV at e
  split at e
  · rcases hW with h | ⟨g, h4, h5⟩
    · exact h3 k hk (h ▸ e)
    · rw [h4] at e
      have := Option.some.inj e
      omega
  · exact h3 j hj e
theorem own_block {w w' : World} {base : Nat} {v : Value} {xs : List (BitVec 8)} (h : Own w base v xs) (hb : ∀ i, v.ownBlock = some i → w'.heap[i]? = w.heap[i]?) : Own w' base v xs := by
  obtain ⟨h1, h2⟩ := h
  refine ⟨h1, ?_⟩
  rcases h2 with h2 | ⟨g, cap, cur, e1, e2, e3, e4⟩
  · exact .inl h2
  · subst e1
    exact .inr ⟨g, cap, cur, rfl, e2, by rw [hb g rfl]; exact e3, e4⟩
theorem Inv.own8 {w : World} {s bm lb base : Nat} {D : DataW Unit} {bl : Nat → Nat} {u : Nat → Value} {X Y : Nat → Bk} (I : Inv w s bm lb base D bl u X Y) (i : Nat) (hi : i < 8) : ∃ xs, Own w base (u i) xs := by
  by_cases h : i < 4
  · exact ⟨_, I.ownb i h⟩
  · have := I.ownl (i - 4) (by omega)
    rw [show 4 + (i - 4) = i by omega] at this
    exact ⟨_, this⟩
/-- The blob k is turned by a call of the store. -/
theorem Inv.blobTurn {w w' : World} {lo s bm lb base : Nat} {D : DataW Unit} {bl : Nat → Nat} {u : Nat → Value} {X Y : Nat → Bk} (f : Fix lo s bm lb base D bl) (I : Inv w s bm lb base D bl u X Y) (k : Nat) (hk : k < 4) (v : Value) (x : Bk)
    (hS : ∃ R B G, Store w' s bm 4 D R B G ∧ 0 ≤ G ∧ G ≤ 268435456) (hB : BAt w' (bl k) v x.st x.sp x.sd) (hO : Own w' base v x.xs) (ho : Only w w' s (bl k) (u k).ownBlock) (hW : Whr w (u k) v) (hx : x.ok) :
    Inv w' s bm lb base D bl (updV u k v) (updX X k x) Y ∧ Far w w' base u (updV u k v) := by
  refine ⟨?_, Far.of (by omega) f.lt.1 (f.ltb k hk) ho hW⟩
  obtain ⟨hsz, hbl⟩ := ho
  have hkeep : ∀ i, i < 8 → i ≠ k → ∀ b, (u i).ownBlock = some b → w'.heap[b]? = w.heap[b]? := fun i hi hne b hb => by
    obtain ⟨xs, hx⟩ := I.own8 i hi
    have := blk hx b hb
    have h1 := f.lt.1
    have h2 := f.ltb k hk
    exact hbl b (by omega) (by omega) (by omega) (fun e => I.apart i k hi (by omega) hne b hb e.symm)
  have hold : ∀ b, b < base → b ≠ s → b ≠ bl k → w'.heap[b]? = w.heap[b]? := fun b hb h1 h2 => hbl b (by have := I.size; omega) h1 h2 (fun e => by have := (blk (I.ownb k hk) b e.symm).1; omega)
  refine ⟨hS, fun j hj => ?_, ?_, fun j hj => ?_, fun j hj => ?_, fun i j hi hj hij b hb => ?_, Nat.le_trans I.size hsz, fun j hj => ?_⟩
  · by_cases e : j = k
    · subst e; rw [updV_same, updX_same]; exact hB
    · rw [updV_ne _ _ _ _ e, updX_ne _ _ _ _ e]
      have := I.blob j hj
      unfold BAt at this ⊢
      rw [hold (bl j) (f.ltb j hj) (f.neb j hj).1 (f.inj j k hj hk e)]
      exact this
  · have h := I.book
    have e : (fun j c => bookF (updV u k v (4 + j)) (Y j) c) = fun j c => bookF (u (4 + j)) (Y j) c := by funext j c; rw [updV_ne _ _ _ _ (by omega)]
    rw [e]
    obtain ⟨cur, h1, h2, h3⟩ := h
    exact ⟨cur, by rw [hold lb f.lt.2.2 (fun e => f.ne.1 e.symm) (fun e => (f.neb k hk).2.2 e.symm)]; exact h1, h2, h3⟩
  · by_cases e : j = k
    · subst e; rw [updV_same, updX_same]; exact hO
    · rw [updV_ne _ _ _ _ e, updX_ne _ _ _ _ e]
      exact own_block (I.ownb j hj) (hkeep j (by omega) e)
  · rw [updV_ne _ _ _ _ (by omega)]
    exact own_block (I.ownl j hj) (hkeep (4 + j) (by omega) (by omega))
  · have hlt : ∀ i, i < 8 → ∀ b, (u i).ownBlock = some b → b < w.heap.size := fun i hi b hb => by obtain ⟨xs, hx⟩ := I.own8 i hi; exact (blk hx b hb).2
    by_cases e1 : i = k
    · subst e1
      rw [updV_same] at hb
      rw [updV_ne _ _ _ _ (fun e => hij e.symm)]
      rcases hW with h | ⟨g, h1, h2⟩
      · exact I.apart i j hi hj hij b (by rw [← h]; exact hb)
      · intro e
        have := hlt j hj b e
        rw [h1] at hb
        have := Option.some.inj hb
        omega
    · rw [updV_ne _ _ _ _ e1] at hb
      by_cases e2 : j = k
      · subst e2
        rw [updV_same]
        intro e
        rcases hW with h | ⟨g, h1, h2⟩
        · exact I.apart i j hi hj hij b hb (by rw [← h]; exact e)
        · have := hlt i hi b hb
          rw [h1] at e
          have := Option.some.inj e
          omega
      · rw [updV_ne _ _ _ _ e2]
        exact I.apart i j hi hj hij b hb
  · by_cases e : j = k
    · subst e; rw [updX_same]; exact hx
    · rw [updX_ne _ _ _ _ e]; exact I.okX j hj
/-- The book k is turned. -/
theorem Inv.bookTurn {w w' : World} {lo s bm lb base : Nat} {D : DataW Unit} {bl : Nat → Nat} {u : Nat → Value} {X Y : Nat → Bk} (f : Fix lo s bm lb base D bl) (I : Inv w s bm lb base D bl u X Y) (k : Nat) (hk : k < 4) (v : Value) (y : Bk)
    (hL : LBF w' lb (fun j c => bookF (updV u (4 + k) v (4 + j)) (updX Y k y j) c)) (hO : Own w' base v y.xs) (ho : Only w w' lb lb (u (4 + k)).ownBlock) (hW : Whr w (u (4 + k)) v) :
    Inv w' s bm lb base D bl (updV u (4 + k) v) X (updX Y k y) ∧ Far w w' base u (updV u (4 + k) v) := by
  refine ⟨?_, Far.of (by omega) f.lt.2.2 f.lt.2.2 ho hW⟩
  obtain ⟨hsz, hbl⟩ := ho
  have hkeep : ∀ i, i < 8 → i ≠ 4 + k → ∀ b, (u i).ownBlock = some b → w'.heap[b]? = w.heap[b]? := fun i hi hne b hb => by
    obtain ⟨xs, hx⟩ := I.own8 i hi
    have := blk hx b hb
    have h1 := f.lt.2.2
    exact hbl b (by omega) (by omega) (by omega) (fun e => I.apart i (4 + k) hi (by omega) hne b hb e.symm)
  have hold : ∀ b, b < base → b ≠ lb → w'.heap[b]? = w.heap[b]? := fun b hb h1 => hbl b (by have := I.size; omega) h1 h1 (fun e => by have := (blk (I.ownl k hk) b e.symm).1; omega)
  refine ⟨?_, fun j hj => ?_, hL, fun j hj => ?_, fun j hj => ?_, fun i j hi hj hij b hb => ?_, Nat.le_trans I.size hsz, I.okX⟩
  · obtain ⟨R, B, G, hs, hg⟩ := I.store
    refine ⟨R, B, G, ⟨?_, ?_, hs.ne⟩, hg⟩
    · have h := hs.at_
      unfold SAt at h ⊢
      rw [hold s f.lt.1 f.ne.1]; exact h
    · have h := hs.map
      unfold MAt World.ownsMap at h ⊢
      obtain ⟨es, clock, h1, h2⟩ := h
      exact ⟨es, clock, by rw [hold bm f.lt.2.1 f.ne.2.1]; exact h1, h2⟩
  · rw [updV_ne _ _ _ _ (by omega)]
    have := I.blob j hj
    unfold BAt at this ⊢
    rw [hold (bl j) (f.ltb j hj) (f.neb j hj).2.2]
    exact this
  · rw [updV_ne _ _ _ _ (by omega)]
    exact own_block (I.ownb j hj) (hkeep j (by omega) (by omega))
  · by_cases e : j = k
    · subst e; rw [updV_same, updX_same]; exact hO
    · rw [updV_ne _ _ _ _ (by omega), updX_ne _ _ _ _ e]
      exact own_block (I.ownl j hj) (hkeep (4 + j) (by omega) (by omega))
  · have hlt : ∀ i, i < 8 → ∀ b, (u i).ownBlock = some b → b < w.heap.size := fun i hi b hb => by obtain ⟨xs, hx⟩ := I.own8 i hi; exact (blk hx b hb).2
    by_cases e1 : i = 4 + k
    · subst e1
      rw [updV_same] at hb
      rw [updV_ne _ _ _ _ (fun e => hij e.symm)]
      rcases hW with h | ⟨g, h1, h2⟩
      · exact I.apart (4 + k) j hi hj hij b (by rw [← h]; exact hb)
      · intro e
        have := hlt j hj b e
        rw [h1] at hb
        have := Option.some.inj hb
        omega
    · rw [updV_ne _ _ _ _ e1] at hb
      by_cases e2 : j = 4 + k
      · subst e2
        rw [updV_same]
        intro e
        rcases hW with h | ⟨g, h1, h2⟩
        · exact I.apart i (4 + k) hi hj hij b hb (by rw [← h]; exact e)
        · have := hlt i hi b hb
          rw [h1] at e
          have := Option.some.inj e
          omega
      · rw [updV_ne _ _ _ _ e2]
        exact I.apart i j hi hj hij b hb
end Go.Proofs.Ytdcjhjpbkpiddaa.St
