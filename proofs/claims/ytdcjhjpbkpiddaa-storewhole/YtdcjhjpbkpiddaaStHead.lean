/-
  A blob is written, published and read; ahead of that it is not read.
-/
import Derived.Test.YtdcjhjpbkpiddaaStRead4
import Derived.Test.YtdcjhjpbkpiddaaStSame
namespace Go.Proofs.Ytdcjhjpbkpiddaa.St
open Go.ChangeShapes Go.WideShapes Go.ChangeAt Go.RowKit Go.MuLone
open Go.Proofs.Ytdcjhjpbkpiddaa.Base
set_option linter.unusedVariables false
set_option maxHeartbeats 1000000
def NA : ByteArray := ⟨#[97]⟩
def NB : ByteArray := ⟨#[98]⟩
theorem okNA : okName NA = true := by decide
theorem okNB : okName NB = true := by decide
theorem keyNA : WideAt.IsKeyLit (key NA) := trivial
theorem keyNB : WideAt.IsKeyLit (key NB) := trivial
theorem at_empty (s : ByteArray) : (DataW.map [] : DataW Unit).atKey (key s) .nil = .nil := WideAt.atKey_none _ (fun p h => by cases h)
theorem at_put (D : DataW Unit) (s : ByteArray) (d : DataW Unit) (h : Maps.IsMap D) : (D.put (key s) d).atKey (key s) .nil = d := Maps.atKey_put_same h (show WideAt.IsKeyLit (key s) from trivial) d .nil
theorem at_other (D : DataW Unit) (s t : ByteArray) (d : DataW Unit) (h : key t ≠ key s) : (D.put (key s) d).atKey (key t) .nil = D.atKey (key t) .nil := Maps.atKey_put_other h d .nil
theorem isMap_of {w : World} {bm n : Nat} {D : DataW Unit} (h : MAt w bm n D) : Maps.IsMap D := World.ownsMap.isMap h
theorem own_of_kept {w w' : World} {base : Nat} {v : Value} {bs : List (BitVec 8)} {p q : Option Nat} (h : Own w base v bs) (k : Kept2 w w' p q) (hp : ∀ i, v.ownBlock = some i → p ≠ some i) (hq : ∀ i, v.ownBlock = some i → q ≠ some i) : Own w' base v bs := h.kept2 k hp hq
theorem below_kept {w0 w w' : World} {p q : Option Nat} (hb : Below w0.heap.size w0 w) (k : Kept2 w w' p q) (hp : ∀ i, p = some i → w0.heap.size ≤ i) (hq : ∀ i, q = some i → w0.heap.size ≤ i) : Below w0.heap.size w0 w' := Kept2.below hb k hp hq
def d123 : List (BitVec 8) := [1, 2, 3]
def d23 : List (BitVec 8) := [2, 3]
theorem read123 : readOf d123 1 9 = (d23, 0) := by decide
set_option maxRecDepth 100000 in
theorem head_any (w : World) : Calls Try.prog 8 #[] w fun e w' => e = .returned (.bool true) ∧ Below w.heap.size w w' := by
  have HNA : Hid ((⟨#[97]⟩ : ByteArray) = NA) := rfl
  go_enter Try.func8, Try.ntmps8
  go_wp2_with fail
  refine (new_any w).mono ?_
  rintro e w1 ⟨s, bm, rfl, hs1, hsl, hbl, hb1⟩
  have HS1 := hide hs1
  have HB1 := hide hb1
  clear hs1 hb1
  go_wp2_with fail
  rw [HNA.out]
  refine (create_any s bm 0 (.map []) 0 0 0 NA w1 HS1.out okNA (by decide) (at_empty NA) (by omega)).mono ?_
  rintro e w2 ⟨b, rfl, hs2, hbt2, hlb2, k2⟩
  have HS2 := hide hs2
  have HT2 := hide hbt2
  have hw1l : w.heap.size ≤ w1.heap.size := HB1.out.size
  have HB2 : Hid (Below w.heap.size w w2) := below_kept HB1.out k2 (fun i e => by have := Option.some.inj e; omega) (fun i e => by have := Option.some.inj e; omega)
  have HD : Hid (((DataW.map [] : DataW Unit).put (key NA) (.lit (.int .i64 (b : Int)))).atKey (key NA) .nil = .lit (.int .i64 (b : Int))) := at_put _ _ _ (isMap_of HS1.out.map)
  have hsw1 := HS1.out.at_.lt
  have hmw1 := HS1.out.map.lt
  have hbw2 := hbt2.lt
  clear hs2 hbt2 k2
  obtain ⟨w3, hw3⟩ : ∃ w3, w2.alloc (.cells #[.int .u8 1, .int .u8 2, .int .u8 3] 5) = w3 := ⟨_, rfl⟩
  have HB3 : Hid (Below w2.heap.size w2 w3) := by rw [← hw3]; exact (Below.refl _ _).alloc (Nat.le_refl _) _
  have HR3 : Hid (Rd w3 (some ⟨w2.heap.size, 0, none⟩) 3 d123) := by rw [← hw3]; exact rd_new w2 d123 (0, 0) (by decide)
  have HS3 : Hid (Store w3 s bm 1 ((DataW.map []).put (key NA) (.lit (.int .i64 (b : Int)))) 0 0 0) := ⟨HS2.out.at_.grown (below_grown HB3.out) (by simp), HS2.out.map.grown (below_grown HB3.out) (by simp), HS2.out.ne⟩
  have HT3 := hide (HT2.out.grown (below_grown HB3.out) (by simp))
  have HB03 := hide (below_trans HB2.out HB3.out)
  have HAP := hide (append_any s bm 1 b _ 0 0 0 NA (some ⟨w2.heap.size, 0, none⟩) 3 3 d123 w3 HS3.out okNA (by decide) HD.out HT3.out (by omega) (by omega) HR3.out (fun _ ad e => by cases e; show w2.heap.size ≠ s; have h := HS2.out.at_.lt; omega) (fun e => by cases e) (by omega))
  have hw23 : w2.heap.size ≤ w3.heap.size := HB3.out.size
  go_wp2_with fail
  refine HAP.out.mono ?_
  rintro e w4 ⟨v, rfl, hs4, ht4, ho4, k4⟩
  obtain ⟨va, vc, rfl⟩ := ho4.shape
  have HS4 := hide hs4
  have HT4 := hide ht4
  have HO4 := hide ho4
  have HBK : Hid (∀ i, (Value.slice va d123.length vc).ownBlock = some i → w3.heap.size ≤ i) := fun i e => (blk ho4 i e).1
  have HB4 : Hid (Below w.heap.size w w4) := below_kept HB03.out k4 (fun i e => by have := Option.some.inj e; omega) (fun i e => by have := Option.some.inj e; omega)
  have HRO := hide (readS_open s bm 1 b _ 0 0 0 NA (.slice va d123.length vc) 0 9 w4 hs4 okNA (by decide) HD.out ht4 (by omega) (by omega))
  have hsw3 : s < w3.heap.size := HS3.out.at_.lt
  have hbw3 : b < w3.heap.size := HT3.out.lt
  have hmw3 : bm < w3.heap.size := HS3.out.map.lt
  clear hs4 ht4 ho4 k4 HAP HS3 HT3 HR3 HB3 hw3 HS2 HT2 HB2 HS1 HB1 HB03
  go_wp2_with fail
  refine HRO.out.mono ?_
  rintro e w5 ⟨rfl, hs5, k5⟩
  have HS5 := hide hs5
  have HT5 := hide (HT4.out.kept k5 (fun e => by have := Option.some.inj e; omega) (by simp))
  have HO5 := hide (own_of_kept HO4.out k5 (fun i e e2 => by have h1 := HBK.out i e; have h2 := Option.some.inj e2; omega) (fun i e => by simp))
  have HB5 : Hid (Below w.heap.size w w5) := below_kept HB4.out k5 (fun i e => by have := Option.some.inj e; omega) (fun i e => by cases e)
  have HPU := hide (publishS_any s bm 1 b _ 0 0 0 NA (.slice va d123.length vc) w5 HS5.out okNA (by decide) HD.out HT5.out (by omega) (by omega))
  clear hs5 k5 HRO HS4 HT4 HO4 HB4
  go_wp2_with fail
  refine HPU.out.mono ?_
  rintro e w6 ⟨rfl, hs6, ht6, k6⟩
  have HS6 := hide hs6
  have HO6 := hide (own_of_kept HO5.out k6 (fun i e e2 => by have h1 := HBK.out i e; have h2 := Option.some.inj e2; omega) (fun i e e2 => by have h1 := HBK.out i e; have h2 := Option.some.inj e2; omega))
  have HB6 : Hid (Below w.heap.size w w6) := below_kept HB5.out k6 (fun i e => by have := Option.some.inj e; omega) (fun i e => by have := Option.some.inj e; omega)
  have HRA := hide (readS_any s bm 1 b w3.heap.size _ 0 0 0 NA va d123.length vc d123 1 9 w6 hs6 okNA (by decide) HD.out ht6 HO6.out (fun i e e2 => by have h1 := HBK.out i e; omega) (by decide) (by omega) (by omega) (by omega) (by omega))
  rw [read123] at HRA
  clear hs6 ht6 k6 HPU HS5 HT5 HO5 HB5
  go_wp2_with fail
  refine HRA.out.mono ?_
  rintro e w7 ⟨v7, rfl, ho7, hs7, k7⟩
  obtain ⟨a7, c7, rfl⟩ := ho7.shape
  have HB7 : Hid (Below w.heap.size w w7) := below_kept HB6.out k7 (fun i e => by have := Option.some.inj e; omega) (fun i e => by cases e)
  have HO7 := hide ho7
  obtain ⟨w8, hw8⟩ : ∃ w8, w7.alloc (.cells #[.int .u8 2, .int .u8 3] 5) = w8 := ⟨_, rfl⟩
  have HB78 : Hid (Below w7.heap.size w7 w8) := by rw [← hw8]; exact (Below.refl _ _).alloc (Nat.le_refl _) _
  have HR8 : Hid (Rd w8 (some ⟨w7.heap.size, 0, none⟩) 2 d23) := by rw [← hw8]; exact rd_new w7 d23 (0, 0) (by decide)
  have HSM := hide (same5_eq a7 (some ⟨w7.heap.size, 0, none⟩) d23.length c7 2 2 d23 w8 (Got.rd (HO7.out.below HB78.out) (by decide)) HR8.out)
  clear ho7 hs7 k7
  go_wp2_with fail
  refine HSM.out.mono ?_
  rintro e w9 ⟨rfl, hb9⟩
  have HB9 := hide (below_trans (below_trans HB7.out HB78.out) hb9)
  clear hb9
  go_wp2_with fail
  go_ret
  exact ⟨rfl, HB9.out⟩
end Go.Proofs.Ytdcjhjpbkpiddaa.St
