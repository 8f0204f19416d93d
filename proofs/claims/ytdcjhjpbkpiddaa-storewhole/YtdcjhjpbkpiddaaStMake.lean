/-
  The four blobs as they are made.
-/
import Derived.Test.YtdcjhjpbkpiddaaStFit2
namespace Go.Proofs.Ytdcjhjpbkpiddaa.St
open Go.ChangeShapes Go.WideShapes Go.ChangeAt Go.RowKit
open Go.Proofs.Ytdcjhjpbkpiddaa.Base
set_option linter.unusedVariables false
def zeroBk : Bk := ⟨[], 1, -1, false⟩
/-- k blobs have been made. -/
structure Mk (w : World) (lo s bm lb k : Nat) (D : DataW Unit) (bl : Nat → Nat) : Prop where
  store : Store w s bm k D 0 0 0
  d1 : ∀ j, j < k → ∀ z, D.atKey (key (nameOf j)) z = .lit (.int .i64 (bl j : Int))
  d2 : ∀ kl, Maps.has D kl = true → ∃ j, j < k ∧ kl = key (nameOf j)
  d3 : Maps.size D ≤ k
  td : Maps.Tidy D
  book : LBF w lb (fun _ c => bookF (.slice none 0 0) zeroBk c)
  low : lo ≤ s ∧ lo ≤ bm ∧ lo ≤ lb
  ne : s ≠ lb ∧ bm ≠ lb
  blob : ∀ j, j < k → BAt w (bl j) (.slice none 0 0) 1 (-1) false
  neb : ∀ j, j < k → lo ≤ bl j ∧ bl j ≠ s ∧ bl j ≠ bm ∧ bl j ≠ lb
  inj : ∀ i j, i < k → j < k → i ≠ j → bl i ≠ bl j
theorem Mk.inv {w : World} {lo s bm lb : Nat} {D : DataW Unit} {bl : Nat → Nat} (h : Mk w lo s bm lb 4 D bl) (hlo : lo ≤ w.heap.size) : Fix lo s bm lb w.heap.size D bl ∧ Inv w s bm lb w.heap.size D bl (fun _ => .slice none 0 0) (fun _ => zeroBk) (fun _ => zeroBk) := by
  refine ⟨⟨h.d1, fun kl e => ?_, h.d3, ⟨h.low.1, h.low.2.1, h.low.2.2, hlo⟩, fun k hk => (h.neb k hk).1, ⟨h.store.at_.lt, h.store.map.lt, h.book.lt⟩, fun k hk => (h.blob k hk).lt, ⟨h.ne.1, h.ne.2, h.store.ne⟩, fun k hk => (h.neb k hk).2, h.inj⟩,
    ⟨⟨0, 0, 0, h.store, by omega, by omega⟩, h.blob, h.book, fun k hk => own_none _ _, fun k hk => own_none _ _, fun i j hi hj hij b hb => by simp [Value.ownBlock] at hb, Nat.le_refl _, fun k hk => ⟨.inl rfl, .inl rfl⟩⟩⟩
  obtain ⟨j, hj, e⟩ := h.d2 kl e
  exact ⟨⟨j, hj⟩, e⟩
/-- One more. -/
theorem Mk.add {w w' : World} {lo s bm lb k b : Nat} {D : DataW Unit} {bl : Nat → Nat} (h : Mk w lo s bm lb k D bl) (hk : k < 4) (hlo : lo ≤ w.heap.size) (hS : Store w' s bm (k + 1) (D.put (key (nameOf k)) (.lit (.int .i64 (b : Int)))) 0 0 0) (hB : BAt w' b (.slice none 0 0) 1 (-1) false) (hb : w.heap.size ≤ b) (hK : Kept2 w w' (some s) (some bm)) :
    Mk w' lo s bm lb (k + 1) (D.put (key (nameOf k)) (.lit (.int .i64 (b : Int)))) (fun j => if j = k then b else bl j) := by
  have hm := isMap_of h.store.map
  have hkey : WideAt.IsKeyLit (key (nameOf k)) := trivial
  have hnot : Maps.has D (key (nameOf k)) = false := by
    cases e : Maps.has D (key (nameOf k)) with
    | false => rfl
    | true =>
      obtain ⟨j, hj, e2⟩ := h.d2 _ e
      exact absurd e2 (key_ne k j hk (by omega) (by omega))
  refine ⟨hS, fun j hj z => ?_, fun kl e => ?_, ?_, ?_, h.book.kept hK (fun e => h.ne.1 (Option.some.inj e)) (fun e => h.ne.2 (Option.some.inj e)), h.low, h.ne, fun j hj => ?_, fun j hj => ?_, fun i j hi hj hij => ?_⟩
  · by_cases e : j = k
    · subst e; rw [if_pos rfl]; exact Maps.atKey_put_same hm hkey _ z
    · rw [if_neg e, Maps.atKey_put_other (key_ne j k (by omega) hk e)]; exact h.d1 j (by omega) z
  · by_cases e2 : kl = key (nameOf k)
    · exact ⟨k, by omega, e2⟩
    · rw [Maps.has_put_other e2] at e
      obtain ⟨j, hj, e3⟩ := h.d2 kl e
      exact ⟨j, by omega, e3⟩
  · rw [Maps.size_put h.td, hnot]
    have := h.d3
    simp; omega
  · exact h.td.put hkey _
  · by_cases e : j = k
    · rw [if_pos e]; exact hB
    · rw [if_neg e]
      have hn := h.neb j (by omega)
      exact (h.blob j (by omega)).kept hK (fun e => hn.2.1 (Option.some.inj e).symm) (fun e => hn.2.2.1 (Option.some.inj e).symm)
  · by_cases e : j = k
    · rw [if_pos e]
      have h1 := h.store.at_.lt
      have h2 := h.store.map.lt
      have h3 := h.book.lt
      exact ⟨by omega, by omega, by omega, by omega⟩
    · rw [if_neg e]; exact h.neb j (by omega)
  · by_cases e1 : i = k
    · rw [if_pos e1, if_neg (by omega)]
      have := (h.blob j (by omega)).lt
      omega
    · rw [if_neg e1]
      by_cases e2 : j = k
      · rw [if_pos e2]
        have := (h.blob i (by omega)).lt
        omega
      · rw [if_neg e2]; exact h.inj i j (by omega) (by omega) hij
theorem Mk.below {w w' : World} {lo s bm lb k : Nat} {D : DataW Unit} {bl : Nat → Nat} (h : Mk w lo s bm lb k D bl) (hb : Below w.heap.size w w') : Mk w' lo s bm lb k D bl :=
  ⟨⟨h.store.at_.grown (below_grown hb) (by simp), h.store.map.grown (below_grown hb) (by simp), h.store.ne⟩, h.d1, h.d2, h.d3, h.td, h.book.grown (below_grown hb) (by simp), h.low, h.ne, fun j hj => (h.blob j hj).grown (below_grown hb) (by simp), h.neb, h.inj⟩
theorem Mk.none {w : World} {k lo s bm lb : Nat} {D : DataW Unit} {bl : Nat → Nat} (h : Mk w lo s bm lb k D bl) (hk : k < 4) : D.atKey (key (nameOf k)) .nil = .nil := by
  have hnot : Maps.has D (key (nameOf k)) = false := by
    cases e : Maps.has D (key (nameOf k)) with
    | false => rfl
    | true =>
      obtain ⟨j, hj, e2⟩ := h.d2 _ e
      exact absurd e2 (key_ne k j hk (by omega) (by omega))
  exact Maps.atKey_of_not_has hnot .nil
theorem Inv.below {w w' : World} {s bm lb base : Nat} {D : DataW Unit} {bl : Nat → Nat} {u : Nat → Value} {X Y : Nat → Bk} (I : Inv w s bm lb base D bl u X Y) (hb : Below w.heap.size w w') : Inv w' s bm lb base D bl u X Y := by
  obtain ⟨R, B, G, hs, hG⟩ := I.store
  exact ⟨⟨R, B, G, ⟨hs.at_.grown (below_grown hb) (by simp), hs.map.grown (below_grown hb) (by simp), hs.ne⟩, hG⟩, fun k hk => (I.blob k hk).grown (below_grown hb) (by simp), I.book.grown (below_grown hb) (by simp), fun k hk => (I.ownb k hk).below hb, fun k hk => (I.ownl k hk).below hb, I.apart, Nat.le_trans I.size hb.size, I.okX⟩
/-- The pieces, as they lie in memory. -/
structure Pc where
  wh : Int
  a : Option Addr
  len : Nat
  cap : Nat
  bs : List (BitVec 8)
  stop : Bool
  at_ : Int
  pub : Bool
structure PcAt (w : World) (lo b off i : Nat) (t : Pc) : Prop where
  c0 : w.cell? ⟨b, off + i * 5, none⟩ = some (.int .i64 t.wh)
  c1 : w.cell? ⟨b, off + i * 5 + 1, none⟩ = some (.slice t.a t.len t.cap)
  c2 : w.cell? ⟨b, off + i * 5 + 2, none⟩ = some (.bool t.stop)
  c3 : w.cell? ⟨b, off + i * 5 + 3, none⟩ = some (.int .i64 t.at_)
  c4 : w.cell? ⟨b, off + i * 5 + 4, none⟩ = some (.bool t.pub)
  rd : Rd w t.a t.len t.bs
  lo : 0 < t.len → ∀ ad, t.a = some ad → ad.block < lo
  nil : t.a = none → t.len = 0 ∧ t.cap = 0
  cap : t.len ≤ t.cap ∧ t.cap ≤ 140737488351232
  wb : -9223372036854775808 ≤ t.wh ∧ t.wh ≤ 9223372036854775807
  ab : -9223372036854775808 ≤ t.at_ ∧ t.at_ ≤ 9223372036854775807
end Go.Proofs.Ytdcjhjpbkpiddaa.St
