/-
  The walk of the statement StoreReads.
-/
import Derived.Test.YtndodbfhigejfabStMeter
import Derived.Laws.StructEq
import Derived.Deep.RegionHeld
namespace Go.Proofs.Ytndodbfhigejfab.St
open Go.ChangeShapes Go.WideShapes Go.ChangeAt Go.RowKit Go.MuLone
open Go.Proofs.Ytndodbfhigejfab.Base
set_option linter.unusedVariables false
set_option maxHeartbeats 4000000
/-- The looks lie in memory as told. -/
def LooksAt (w : World) (a : Option Addr) (len : Nat) (fa fn : Nat → Int) : Prop :=
  0 < len → ∃ b off, a = some ⟨b, off, none⟩ ∧ b < w.heap.size ∧ ∀ i, i < len → w.cell? ⟨b, off + i * 2, none⟩ = some (.int .i64 (fa i)) ∧ w.cell? ⟨b, off + i * 2 + 1, none⟩ = some (.int .i64 (fn i))
def MRow (w : World) (g : Nat) (R B G : Int) : Prop := w.heap[g]? = some (.cells #[.int .i64 R, .int .i64 B, .int .i64 G] 59)
theorem MRow.cells {w : World} {g : Nat} {R B G : Int} (h : MRow w g R B G) : w.cell? ⟨g, 0, none⟩ = some (.int .i64 R) ∧ w.cell? ⟨g, 1, none⟩ = some (.int .i64 B) ∧ w.cell? ⟨g, 2, none⟩ = some (.int .i64 G) := by
  refine ⟨?_, ?_, ?_⟩ <;> (rw [cell_of_row _ _ _ _ _ _ h]; rfl)
theorem MRow.frozen {w : World} {g : Nat} {R B G : Int} (h : MRow w g R B G) (k : Nat) : w.frozen? ⟨g, k, none⟩ = false := frozen_of_row _ _ _ _ _ h
theorem MRow.lt {w : World} {g : Nat} {R B G : Int} (h : MRow w g R B G) : g < w.heap.size := by
  unfold MRow at h; rw [Array.getElem?_eq_some_iff] at h; exact h.1
theorem MRow.kept {w w' : World} {g : Nat} {R B G : Int} {p q : Option Nat} (h : MRow w g R B G) (k : Kept2 w w' p q) (hp : p ≠ some g) (hq : q ≠ some g) : MRow w' g R B G := by
  unfold MRow; rw [k.block g h.lt (fun e => hp e.symm) (fun e => hq e.symm)]; exact h
theorem MRow.two {w : World} {g : Nat} {R B G : Int} (h : MRow w g R B G) (R' B' : Int) : MRow ((w.setCell ⟨g, 0, none⟩ (.int .i64 R')).setCell ⟨g, 1, none⟩ (.int .i64 B')) g R' B' G := by
  unfold MRow; rw [heap_setCell_same _ _ 1 _ _ _ (heap_setCell_same _ _ 0 _ _ _ h)]; rfl
theorem MRow.three {w : World} {g : Nat} {R B G : Int} (h : MRow w g R B G) (R' B' G' : Int) : MRow (((w.setCell ⟨g, 0, none⟩ (.int .i64 R')).setCell ⟨g, 1, none⟩ (.int .i64 B')).setCell ⟨g, 2, none⟩ (.int .i64 G')) g R' B' G' := by
  unfold MRow; rw [heap_setCell_same _ _ 2 _ _ _ (heap_setCell_same _ _ 1 _ _ _ (heap_setCell_same _ _ 0 _ _ _ h))]; rfl
/-- What stays through the readings. -/
structure Rest (w0 wr : World) (b base : Nat) (v : Value) (fb : List (BitVec 8)) : Prop where
  bat : BAt wr b v 2 (-1) false
  own : Own wr base v fb
  bel : Below w0.heap.size w0 wr
theorem Rest.kept {w0 wr w' : World} {b base : Nat} {v : Value} {fb : List (BitVec 8)} {p q : Option Nat} (h : Rest w0 wr b base v fb) (k : Kept2 wr w' p q)
    (hp : ∀ i, p = some i → w0.heap.size ≤ i ∧ i ≠ b ∧ v.ownBlock ≠ some i) (hq : ∀ i, q = some i → w0.heap.size ≤ i ∧ i ≠ b ∧ v.ownBlock ≠ some i) : Rest w0 w' b base v fb :=
  ⟨h.bat.kept k (fun e => (hp b e).2.1 rfl) (fun e => (hq b e).2.1 rfl), own_of_kept h.own k (fun i e e2 => (hp i e2).2.2 e) (fun i e e2 => (hq i e2).2.2 e), below_kept h.bel k (fun i e => (hp i e).1) (fun i e => (hq i e).1)⟩
theorem Store.kept {w w' : World} {s bm n : Nat} {D : DataW Unit} {R B G : Int} {p q : Option Nat} (h : Store w s bm n D R B G) (k : Kept2 w w' p q) (hp : p ≠ some s ∧ p ≠ some bm) (hq : q ≠ some s ∧ q ≠ some bm) : Store w' s bm n D R B G :=
  ⟨h.at_.kept k hp.1 hq.1, MAt.kept h.map k hp.2 hq.2, h.ne⟩
theorem readOf_bad (xs : List (BitVec 8)) (a n : Int) (h : a < 0 ∨ (xs.length : Int) < a) : readOf xs a n = ([], 56) := by unfold readOf; rw [if_pos h]
theorem readOf_ok (xs : List (BitVec 8)) (p c : Nat) (N : Int) (h : p ≤ xs.length) (hc : (N = (c : Int) ∧ c ≤ xs.length - p) ∨ (c = xs.length - p ∧ (c : Int) < N)) : readOf xs (p : Int) N = ((xs.drop p).take c, 0) := by
  unfold readOf
  rw [if_neg (by omega), Int.toNat_natCast]
  rcases hc with ⟨rfl, _⟩ | ⟨rfl, hN⟩
  · rw [Int.toNat_natCast]
  · rw [List.take_of_length_le (by rw [List.length_drop]; omega), List.take_of_length_le (by rw [List.length_drop]; omega)]
set_option maxRecDepth 100000 in
theorem reads_any (a : Option Addr) (len cap : Nat) (bs : List (BitVec 8)) (a1 : Option Addr) (len1 cap1 : Nat) (fa fn : Nat → Int) (w : World) (hr : Rd w a len bs) (hc : len ≤ cap) (hcm : cap ≤ 140737488351232) (hz : a = none → len = 0 ∧ cap = 0) (hlk : LooksAt w a1 len1 fa fn) (hl1 : len1 ≤ 140737488351232) :
    Calls Try.prog 7 #[.slice a len cap, .slice a1 len1 cap1] w fun e w' => e = .returned (.bool true) ∧ Below w.heap.size w w' := by
  have HNA : Hid ((⟨#[97]⟩ : ByteArray) = NA) := rfl
  have HF := hide (fit_any a len cap bs w hr hc hcm hz)
  have HZ := hide hz
  have HLK := hide hlk
  have HLC : Hid ((fitted bs).length ≤ len) := by show _ ≤ _; unfold fitted; rw [List.length_take, hr.1]; omega
  clear hr hz hlk
  go_enter Try.func7, Try.ntmps7
  go_wp2_with fail
  refine HF.out.mono ?_
  rintro e w0 ⟨L, rfl, hR, hL, hw0⟩
  obtain rfl : w0 = w := hw0
  have HR := hide hR
  have hLc : L ≤ cap := by have h1 := HLC.out; have h2 := hR.1; omega
  clear hR HF hc HLC
  go_wp2_with fail
  refine (new_any w0).mono ?_
  rintro e w1 ⟨s, bm, rfl, hs1, hsl, hbl, hb1⟩
  have HS1 := hide hs1
  have HB1 := hide hb1
  clear hs1 hb1
  go_wp2_with fail
  rw [HNA.out]
  refine (create_any s bm 0 (.map []) 0 0 0 NA w1 HS1.out okNA (by decide) (at_empty NA) (by omega)).mono ?_
  rintro e w2 ⟨b, rfl, hs2, hbt2, hlb2, k2⟩
  have HS2 := hide hs2
  have HT2 := hide hbt2
  have hw1l : w0.heap.size ≤ w1.heap.size := HB1.out.size
  have HB2 : Hid (Below w0.heap.size w0 w2) := below_kept HB1.out k2 (fun i e => by have := Option.some.inj e; omega) (fun i e => by have := Option.some.inj e; omega)
  have HD : Hid (((DataW.map [] : DataW Unit).put (key NA) (.lit (.int .i64 (b : Int)))).atKey (key NA) .nil = .lit (.int .i64 (b : Int))) := at_put _ _ _ (isMap_of HS1.out.map)
  obtain ⟨D, hD⟩ : ∃ D, ((DataW.map [] : DataW Unit).put (key NA) (.lit (.int .i64 (b : Int)))) = D := ⟨_, rfl⟩
  rw [hD] at HD HS2
  have hsw1 := HS1.out.at_.lt
  have hmw1 := HS1.out.map.lt
  have hbw2 := hbt2.lt
  have hw2l := HB2.out.size
  clear hs2 hbt2 k2 hD
  have HN : Hid (a = none → L = 0 ∧ cap = 0) := fun e => ⟨Classical.byContradiction (fun h0 => by obtain ⟨b0, o0, e0, _⟩ := HR.out.2.2 (by omega); rw [e0] at e; cases e), (HZ.out e).2⟩
  have HAP := hide (append_any s bm 1 b D 0 0 0 NA a L cap (fitted bs) w2 HS2.out okNA (by decide) HD.out HT2.out (by omega) (by omega) (HR.out.below HB2.out) (fun h0 ad e => by obtain ⟨b0, o0, e0, hlt, _⟩ := HR.out.2.2 h0; rw [e0] at e; cases e; show b0 ≠ s; omega) HN.out hL)
  go_wp2_with fail
  refine HAP.out.mono ?_
  rintro e w4 ⟨v, rfl, hs4, ht4, ho4, k4⟩
  obtain ⟨va, vc, rfl⟩ := ho4.shape
  rw [HR.out.1] at ht4 ho4
  have HO4 := hide ho4
  have HBK : Hid (∀ i, (Value.slice va L vc).ownBlock = some i → w2.heap.size ≤ i ∧ i < w4.heap.size) := fun i e => blk ho4 i e
  have HB4 : Hid (Below w0.heap.size w0 w4) := below_kept HB2.out k4 (fun i e => by have := Option.some.inj e; omega) (fun i e => by have := Option.some.inj e; omega)
  have hsw2 : s < w2.heap.size := HS2.out.at_.lt
  have hmw2 : bm < w2.heap.size := HS2.out.map.lt
  have hw24 : w2.heap.size ≤ w4.heap.size := k4.size
  have hLi : (L : Int) ≤ 268435456 := by omega
  have hsb : s ≠ b := by omega
  have hmb : bm ≠ b := by omega
  have HPU := hide (publishS_any s bm 1 b D 0 0 0 NA (.slice va L vc) w4 hs4 okNA (by decide) HD.out ht4 hsb hmb)
  clear hs4 ht4 ho4 k4 HAP HS2 HT2 HS1 HB1
  go_wp2_with fail
  refine HPU.out.mono ?_
  rintro e w5 ⟨rfl, hs5, ht5, k5⟩
  have hw45 : w4.heap.size ≤ w5.heap.size := k5.size
  have HS5 := hide hs5
  have HE5 : Hid (Rest w0 w5 b w2.heap.size (.slice va L vc) (fitted bs)) := ⟨ht5, own_of_kept HO4.out k5 (fun i e e2 => by have h1 := HBK.out i e; have h2 := Option.some.inj e2; omega) (fun i e e2 => by have h1 := HBK.out i e; have h2 := Option.some.inj e2; omega), below_kept HB4.out k5 (fun i e => by have := Option.some.inj e; omega) (fun i e => by have := Option.some.inj e; omega)⟩
  clear hs5 ht5 k5 HPU HO4 HB4
  obtain ⟨g, hg⟩ : ∃ g, w5.heap.size = g := ⟨_, rfl⟩
  obtain ⟨w6, hw6⟩ : ∃ w6, w5.alloc (.cells #[.int .i64 0, .int .i64 0, .int .i64 0] 59) = w6 := ⟨_, rfl⟩
  have bel6 : Below w5.heap.size w5 w6 := by rw [← hw6]; exact (Below.refl _ _).alloc (Nat.le_refl _) _
  have HM6 : Hid (MRow w6 g 0 0 0) := by rw [← hg, ← hw6]; exact heap_alloc_new _ _
  have k6 := kept2_below bel6 none none
  have HS6 := hide (HS5.out.kept k6 (by simp) (by simp))
  have HE6 := hide (HE5.out.kept k6 (fun i e => by cases e) (fun i e => by cases e))
  have hgs : s < g := by omega
  have hgb : b < g := by omega
  have hgm : bm < g := by omega
  have hg0 : w0.heap.size ≤ g := by omega
  have HGO : Hid (∀ i, (Value.slice va L vc).ownBlock = some i → w2.heap.size ≤ i ∧ i < g) := fun i e => by have h1 := HBK.out i e; omega
  clear k6 bel6 HS5 HE5
  go_wp2_with fail
  go_loopw [8] (fun i wr => ∃ (k : Nat) (R B G : Int), k ≤ len1 ∧ i = .int .i64 (k : Int) ∧ 0 ≤ G ∧ G ≤ 268435456 ∧ Hid (Store wr s bm 1 D R B G) ∧ Hid (Rest w0 wr b w2.heap.size (.slice va L vc) (fitted bs)) ∧ Hid (MRow wr g R B G)) (fun i _ => len1 - (intOf i).toNat)
  case atStart => exact ⟨0, 0, 0, 0, Nat.zero_le _, rfl, by omega, by omega, HS6, HE6, HM6⟩
  case round =>
    obtain ⟨k, R, B, G, hk, rfl, hG0, hG1, HS, HE, HM⟩ := hrel
    by_cases hlt : k < len1
    · have hki : (k : Int) < (len1 : Int) := by omega
      obtain ⟨b1, o1, rfl, hb1, hcs⟩ := HLK.out (by omega)
      obtain ⟨i0, i1⟩ := hcs k hlt
      have j0 : wr.cell? ⟨b1, o1 + k * 2, none⟩ = some (.int .i64 (fa k)) := by rw [HE.out.bel.cell (p := ⟨b1, o1 + k * 2, none⟩) hb1]; exact i0
      have j1 : wr.cell? ⟨b1, o1 + k * 2 + 1, none⟩ = some (.int .i64 (fn k)) := by rw [HE.out.bel.cell (p := ⟨b1, o1 + k * 2 + 1, none⟩) hb1]; exact i1
      clear i0 i1 hcs
      generalize fa k = A at j0
      generalize fn k = N at j1
      have hgw := HM.out.lt
      obtain ⟨x, hx⟩ : ∃ x, wr.heap.size = x := ⟨_, rfl⟩
      obtain ⟨w7, hw7⟩ : ∃ w7, wr.alloc (.cells #[.int .i64 A, .int .i64 N] 61) = w7 := ⟨_, rfl⟩
      have bel7 : Below wr.heap.size wr w7 := by rw [← hw7]; exact (Below.refl _ _).alloc (Nat.le_refl _) _
      have hg7 : w7.heap[x]? = some (.cells #[.int .i64 A, .int .i64 N] 61) := by rw [← hx, ← hw7]; exact heap_alloc_new _ _
      have x0 : w7.cell? ⟨x, 0, none⟩ = some (.int .i64 A) := by rw [cell_of_row _ _ _ _ _ _ hg7]; rfl
      have x1 : w7.cell? ⟨x, 1, none⟩ = some (.int .i64 N) := by rw [cell_of_row _ _ _ _ _ _ hg7]; rfl
      have hx7 : x < w7.heap.size := by rw [← hx, ← hw7]; simp
      have k7 := kept2_below bel7 none none
      have HS7 := hide (HS.out.kept k7 (by simp) (by simp))
      have HE7 := hide (HE.out.kept k7 (fun i e => by cases e) (fun i e => by cases e))
      have HM7 := hide (HM.out.kept k7 (by simp) (by simp))
      clear k7 bel7 hg7 HS HE HM
      by_cases hN : N < 0
      · go_wp2_with fail
        refine (readS_neg s NA A N w7 okNA (by decide) hN).mono ?_
        rintro e w8 ⟨rfl, hb8⟩
        have k8 := kept2_below hb8 none none
        have y0 : w8.cell? ⟨x, 0, none⟩ = some (.int .i64 A) := by rw [cell_kept k8 x 0 hx7 (by simp) (by simp)]; exact x0
        have y1 : w8.cell? ⟨x, 1, none⟩ = some (.int .i64 N) := by rw [cell_kept k8 x 1 hx7 (by simp) (by simp)]; exact x1
        have HS_w8 := hide (HS7.out.kept k8 (by simp) (by simp))
        have HE_w8 := hide (HE7.out.kept k8 (fun i e => by cases e) (fun i e => by cases e))
        have HM_w8 := hide (HM7.out.kept k8 (by simp) (by simp))
        obtain ⟨m0, m1, m2⟩ := HM_w8.out.cells
        clear k8 hb8 HS7 HE7 HM7 x0 x1
        go_wp2_with fail
        have HSd : Hid (Store w8.drew s bm 1 D R B G) := HS_w8.out.kept (kept2_below ((Below.refl _ _).drew) none none) (by simp) (by simp)
        first | (go_region_held (fun V => V.cell? ⟨g, 0, none⟩ = some (.int .i64 R) ∧ V.cell? ⟨g, 1, none⟩ = some (.int .i64 B) ∧ V.cell? ⟨g, 2, none⟩ = some (.int .i64 G)) (go_keep) (first | (go_at_call 32; refine (meter_any s bm 1 D R B G _ HSd.out).mono ?_; rintro e w9 ⟨rfl, hs9, k9⟩; have HS9 := hide hs9; have HM9 := hide ((HM_w8.out.kept (kept2_below ((Below.refl w8.heap.size w8).drew) none none) (by simp) (by simp)).kept k9 (by intro e; have := Option.some.inj e; omega) (by simp)); have HE9 := hide ((HE_w8.out.kept (kept2_below ((Below.refl w8.heap.size w8).drew) none none) (fun i e => by cases e) (fun i e => by cases e)).kept k9 (fun i e => by have h1 := Option.some.inj e; refine ⟨by omega, by omega, fun e2 => ?_⟩; have h2 := HGO.out i e2; omega) (fun i e => by cases e)); obtain ⟨u0, u1, u2⟩ := HM9.out.cells; clear hs9 k9))) | fail
        go_wp2_with fail
        go_roundw
        case rel => exact ⟨k + 1, R, B, G, by omega, by go_num, hG0, hG1, HS9, HE9, HM9⟩
        case measure => simp [intOf]; omega
      · have HFL : Hid ((fitted bs).length = L) := HR.out.1
        have HRA := hide (readS_any s bm 1 b w2.heap.size D R B G NA va L vc (fitted bs) A N w7 HS7.out okNA (by decide) HD.out HE7.out.bat HE7.out.own (fun i e e2 => by have h1 := HGO.out i e; omega) hL hsb (by omega) hG0 hG1)
        by_cases hbad : A < 0 ∨ (L : Int) < A
        · rw [readOf_bad _ _ _ (by rw [HFL.out]; exact hbad)] at HRA
          have HMD : Hid (metered R B G (([] : List (BitVec 8)), (56 : Int)) = (R, B, G)) := by show _ = _; unfold metered; rw [if_neg (by decide)]
          simp only [HMD.out] at HRA
          go_wp2_with fail
          refine HRA.out.mono ?_
          rintro e w8 ⟨v8, rfl, ho8, hs8, k8⟩
          obtain ⟨a8, c8, rfl⟩ := ho8.shape
          simp only [List.length_nil]
          have y0 : w8.cell? ⟨x, 0, none⟩ = some (.int .i64 A) := by rw [cell_kept k8 x 0 hx7 (by intro e; have := Option.some.inj e; omega) (by simp)]; exact x0
          have y1 : w8.cell? ⟨x, 1, none⟩ = some (.int .i64 N) := by rw [cell_kept k8 x 1 hx7 (by intro e; have := Option.some.inj e; omega) (by simp)]; exact x1
          have HS_w8 := hide hs8
          have HE_w8 := hide (HE7.out.kept k8 (fun i e => by have h1 := Option.some.inj e; refine ⟨by omega, by omega, fun e2 => ?_⟩; have h2 := HGO.out i e2; omega) (fun i e => by cases e))
          have HM_w8 := hide (HM7.out.kept k8 (by intro e; have := Option.some.inj e; omega) (by simp))
          obtain ⟨m0, m1, m2⟩ := HM_w8.out.cells
          clear k8 hs8 ho8 HRA HS7 HE7 HM7 x0 x1
          by_cases hA : A < 0
          · clear hbad
            go_wp2_with fail
            have HSd : Hid (Store w8.drew s bm 1 D R B G) := HS_w8.out.kept (kept2_below ((Below.refl _ _).drew) none none) (by simp) (by simp)
            first | (go_region_held (fun V => V.cell? ⟨g, 0, none⟩ = some (.int .i64 R) ∧ V.cell? ⟨g, 1, none⟩ = some (.int .i64 B) ∧ V.cell? ⟨g, 2, none⟩ = some (.int .i64 G)) (go_keep) (first | (go_at_call 32; refine (meter_any s bm 1 D R B G _ HSd.out).mono ?_; rintro e w9 ⟨rfl, hs9, k9⟩; have HS9 := hide hs9; have HM9 := hide ((HM_w8.out.kept (kept2_below ((Below.refl w8.heap.size w8).drew) none none) (by simp) (by simp)).kept k9 (by intro e; have := Option.some.inj e; omega) (by simp)); have HE9 := hide ((HE_w8.out.kept (kept2_below ((Below.refl w8.heap.size w8).drew) none none) (fun i e => by cases e) (fun i e => by cases e)).kept k9 (fun i e => by have h1 := Option.some.inj e; refine ⟨by omega, by omega, fun e2 => ?_⟩; have h2 := HGO.out i e2; omega) (fun i e => by cases e)); obtain ⟨u0, u1, u2⟩ := HM9.out.cells; clear hs9 k9))) | fail
            go_wp2_with fail
            go_roundw
            case rel => exact ⟨k + 1, R, B, G, by omega, by go_num, hG0, hG1, HS9, HE9, HM9⟩
            case measure => simp [intOf]; omega
          · have hA2 : (L : Int) < A := hbad.resolve_left hA
            clear hbad
            go_wp2_with fail
            have HSd : Hid (Store w8.drew s bm 1 D R B G) := HS_w8.out.kept (kept2_below ((Below.refl _ _).drew) none none) (by simp) (by simp)
            first | (go_region_held (fun V => V.cell? ⟨g, 0, none⟩ = some (.int .i64 R) ∧ V.cell? ⟨g, 1, none⟩ = some (.int .i64 B) ∧ V.cell? ⟨g, 2, none⟩ = some (.int .i64 G)) (go_keep) (first | (go_at_call 32; refine (meter_any s bm 1 D R B G _ HSd.out).mono ?_; rintro e w9 ⟨rfl, hs9, k9⟩; have HS9 := hide hs9; have HM9 := hide ((HM_w8.out.kept (kept2_below ((Below.refl w8.heap.size w8).drew) none none) (by simp) (by simp)).kept k9 (by intro e; have := Option.some.inj e; omega) (by simp)); have HE9 := hide ((HE_w8.out.kept (kept2_below ((Below.refl w8.heap.size w8).drew) none none) (fun i e => by cases e) (fun i e => by cases e)).kept k9 (fun i e => by have h1 := Option.some.inj e; refine ⟨by omega, by omega, fun e2 => ?_⟩; have h2 := HGO.out i e2; omega) (fun i e => by cases e)); obtain ⟨u0, u1, u2⟩ := HM9.out.cells; clear hs9 k9))) | fail
            go_wp2_with fail
            go_roundw
            case rel => exact ⟨k + 1, R, B, G, by omega, by go_num, hG0, hG1, HS9, HE9, HM9⟩
            case measure => simp [intOf]; omega
        · obtain ⟨p, rfl⟩ : ∃ p : Nat, A = (p : Int) := ⟨A.toNat, by omega⟩
          have hpL : p ≤ L := by omega
          have hA : ¬ (p : Int) < 0 := by omega
          have hA2 : ¬ (L : Int) < (p : Int) := by omega
          obtain ⟨r, hr⟩ : ∃ r : Nat, (L : Int) - (p : Int) = (r : Int) := ⟨L - p, by omega⟩
          clear hbad
          by_cases hNr : (r : Int) < N
          · have hrL : r ≤ L := by omega
            rw [readOf_ok (fitted bs) p r _ (by rw [HFL.out]; omega) (by rw [HFL.out]; omega)] at HRA
            have HTL : Hid ((((fitted bs).drop p).take r).length = r) := by show _ = _; rw [List.length_take, List.length_drop, HFL.out]; omega
            obtain ⟨T, hT⟩ : ∃ T, ((fitted bs).drop p).take r = T := ⟨_, rfl⟩
            have HTT := hide hT
            rw [hT] at HRA HTL
            clear hT
            have HMD : Hid (metered R B G (T, (0 : Int)) = ((wrap64 (R + 1)), (wrap64 (B + (r : Int))), max G (r : Int))) := by show _ = _; unfold metered; rw [if_pos rfl]; simp only [HTL.out]
            simp only [HMD.out] at HRA
            go_wp2_with fail
            refine HRA.out.mono ?_
            rintro e w8 ⟨v8, rfl, ho8, hs8, k8⟩
            obtain ⟨a8, c8, rfl⟩ := ho8.shape
            rw [HTL.out] at ho8 ⊢
            have y0 : w8.cell? ⟨x, 0, none⟩ = some (.int .i64 (p : Int)) := by rw [cell_kept k8 x 0 hx7 (by intro e; have := Option.some.inj e; omega) (by simp)]; exact x0
            have y1 : w8.cell? ⟨x, 1, none⟩ = some (.int .i64 N) := by rw [cell_kept k8 x 1 hx7 (by intro e; have := Option.some.inj e; omega) (by simp)]; exact x1
            have HS8 := hide hs8
            have HE8 := hide (HE7.out.kept k8 (fun i e => by have h1 := Option.some.inj e; refine ⟨by omega, by omega, fun e2 => ?_⟩; have h2 := HGO.out i e2; omega) (fun i e => by cases e))
            have HM8 := hide (HM7.out.kept k8 (by intro e; have := Option.some.inj e; omega) (by simp))
            obtain ⟨la, hrun, hrla⟩ := part a L cap p (p + r) (fitted bs) w8 (HR.out.below HE8.out.bel) (by omega) (by omega) hLc
            rw [Nat.add_sub_cancel_left, HTT.out] at hrla
            rw [Nat.add_sub_cancel_left, Int.natCast_add] at hrun
            have HSM := hide (same5_eq a8 la r c8 r (cap - p) T w8 (Got.rd ho8 (by rw [HTL.out]; omega)) hrla)
            have hx8 : x < w8.heap.size := by have := k8.size; omega
            have hci : (r : Int) ≤ 268435456 := by omega
            have hpc : (p : Int) + (r : Int) ≤ 268435456 := by omega
            clear k8 hs8 ho8 HRA HS7 HE7 HM7 x0 x1 hrla
            go_wp2_with fail
            refine HSM.out.mono ?_
            rintro e w10 ⟨rfl, hb10⟩
            have k10 := kept2_below hb10 none none
            have HS10 := hide (HS8.out.kept k10 (by simp) (by simp))
            have HE10 := hide (HE8.out.kept k10 (fun i e => by cases e) (fun i e => by cases e))
            have HM10 := hide (HM8.out.kept k10 (by simp) (by simp))
            have z0 : w10.cell? ⟨x, 0, none⟩ = some (.int .i64 (p : Int)) := by rw [cell_kept k10 x 0 hx8 (by simp) (by simp)]; exact y0
            have z1 : w10.cell? ⟨x, 1, none⟩ = some (.int .i64 N) := by rw [cell_kept k10 x 1 hx8 (by simp) (by simp)]; exact y1
            obtain ⟨q0, q1, q2⟩ := HM10.out.cells
            have fz0 := HM10.out.frozen 0
            have fz1 := HM10.out.frozen 1
            have fz2 := HM10.out.frozen 2
            clear k10 hb10 HS8 HE8 HM8 HSM y0 y1
            by_cases hGc : G < (r : Int)
            · obtain ⟨w11, hw11⟩ : ∃ w11, ((w10.setCell ⟨g, 0, none⟩ (.int .i64 (wrap64 (R + 1)))).setCell ⟨g, 1, none⟩ (.int .i64 (wrap64 (B + (r : Int))))).setCell ⟨g, 2, none⟩ (.int .i64 (r : Int)) = w11 := ⟨_, rfl⟩
              have HMX : Hid (max G (r : Int) = (r : Int)) := by show _ = _; omega
              rw [HMX.out] at HS10
              have k11 : Kept2 w10 w11 (some g) none := by rw [← hw11]; exact kept2_grown (grown_cell (grown_cell (grown_cell (World.grownBy.refl _ _) _ _) _ _) _ _) (.inl rfl)
              have HM_w11 : Hid (MRow w11 g (wrap64 (R + 1)) (wrap64 (B + (r : Int))) (r : Int)) := by rw [← hw11]; exact HM10.out.three _ _ _
              have HS_w11 := hide (HS10.out.kept k11 ⟨by intro e; have := Option.some.inj e; omega, by intro e; have := Option.some.inj e; omega⟩ (by simp))
              have HE_w11 := hide (HE10.out.kept k11 (fun i e => by have h1 := Option.some.inj e; refine ⟨by omega, by omega, fun e2 => ?_⟩; have h2 := HGO.out i e2; omega) (fun i e => by cases e))
              obtain ⟨m0, m1, m2⟩ := HM_w11.out.cells
              clear k11 HM10 HS10 HE10
              go_wp2_with fail
              have HSd : Hid (Store w11.drew s bm 1 D (wrap64 (R + 1)) (wrap64 (B + (r : Int))) (r : Int)) := HS_w11.out.kept (kept2_below ((Below.refl _ _).drew) none none) (by simp) (by simp)
              first | (go_region_held (fun V => V.cell? ⟨g, 0, none⟩ = some (.int .i64 (wrap64 (R + 1))) ∧ V.cell? ⟨g, 1, none⟩ = some (.int .i64 (wrap64 (B + (r : Int)))) ∧ V.cell? ⟨g, 2, none⟩ = some (.int .i64 (r : Int))) (go_keep) (first | (go_at_call 32; refine (meter_any s bm 1 D (wrap64 (R + 1)) (wrap64 (B + (r : Int))) (r : Int) _ HSd.out).mono ?_; rintro e w9 ⟨rfl, hs9, k9⟩; have HS9 := hide hs9; have HM9 := hide ((HM_w11.out.kept (kept2_below ((Below.refl w11.heap.size w11).drew) none none) (by simp) (by simp)).kept k9 (by intro e; have := Option.some.inj e; omega) (by simp)); have HE9 := hide ((HE_w11.out.kept (kept2_below ((Below.refl w11.heap.size w11).drew) none none) (fun i e => by cases e) (fun i e => by cases e)).kept k9 (fun i e => by have h1 := Option.some.inj e; refine ⟨by omega, by omega, fun e2 => ?_⟩; have h2 := HGO.out i e2; omega) (fun i e => by cases e)); obtain ⟨u0, u1, u2⟩ := HM9.out.cells; clear hs9 k9))) | fail
              go_wp2_with fail
              go_roundw
              case rel => exact ⟨k + 1, (wrap64 (R + 1)), (wrap64 (B + (r : Int))), (r : Int), by omega, by go_num, by omega, by omega, HS9, HE9, HM9⟩
              case measure => simp [intOf]; omega
            · obtain ⟨w11, hw11⟩ : ∃ w11, (w10.setCell ⟨g, 0, none⟩ (.int .i64 (wrap64 (R + 1)))).setCell ⟨g, 1, none⟩ (.int .i64 (wrap64 (B + (r : Int)))) = w11 := ⟨_, rfl⟩
              have HMX : Hid (max G (r : Int) = G) := by show _ = _; omega
              rw [HMX.out] at HS10
              have k11 : Kept2 w10 w11 (some g) none := by rw [← hw11]; exact kept2_grown (grown_cell (grown_cell (World.grownBy.refl _ _) _ _) _ _) (.inl rfl)
              have HM_w11 : Hid (MRow w11 g (wrap64 (R + 1)) (wrap64 (B + (r : Int))) G) := by rw [← hw11]; exact HM10.out.two _ _
              have HS_w11 := hide (HS10.out.kept k11 ⟨by intro e; have := Option.some.inj e; omega, by intro e; have := Option.some.inj e; omega⟩ (by simp))
              have HE_w11 := hide (HE10.out.kept k11 (fun i e => by have h1 := Option.some.inj e; refine ⟨by omega, by omega, fun e2 => ?_⟩; have h2 := HGO.out i e2; omega) (fun i e => by cases e))
              obtain ⟨m0, m1, m2⟩ := HM_w11.out.cells
              clear k11 HM10 HS10 HE10
              go_wp2_with fail
              have HSd : Hid (Store w11.drew s bm 1 D (wrap64 (R + 1)) (wrap64 (B + (r : Int))) G) := HS_w11.out.kept (kept2_below ((Below.refl _ _).drew) none none) (by simp) (by simp)
              first | (go_region_held (fun V => V.cell? ⟨g, 0, none⟩ = some (.int .i64 (wrap64 (R + 1))) ∧ V.cell? ⟨g, 1, none⟩ = some (.int .i64 (wrap64 (B + (r : Int)))) ∧ V.cell? ⟨g, 2, none⟩ = some (.int .i64 G)) (go_keep) (first | (go_at_call 32; refine (meter_any s bm 1 D (wrap64 (R + 1)) (wrap64 (B + (r : Int))) G _ HSd.out).mono ?_; rintro e w9 ⟨rfl, hs9, k9⟩; have HS9 := hide hs9; have HM9 := hide ((HM_w11.out.kept (kept2_below ((Below.refl w11.heap.size w11).drew) none none) (by simp) (by simp)).kept k9 (by intro e; have := Option.some.inj e; omega) (by simp)); have HE9 := hide ((HE_w11.out.kept (kept2_below ((Below.refl w11.heap.size w11).drew) none none) (fun i e => by cases e) (fun i e => by cases e)).kept k9 (fun i e => by have h1 := Option.some.inj e; refine ⟨by omega, by omega, fun e2 => ?_⟩; have h2 := HGO.out i e2; omega) (fun i e => by cases e)); obtain ⟨u0, u1, u2⟩ := HM9.out.cells; clear hs9 k9))) | fail
              go_wp2_with fail
              go_roundw
              case rel => exact ⟨k + 1, (wrap64 (R + 1)), (wrap64 (B + (r : Int))), G, by omega, by go_num, hG0, hG1, HS9, HE9, HM9⟩
              case measure => simp [intOf]; omega
          · obtain ⟨c, rfl⟩ : ∃ c : Nat, N = (c : Int) := ⟨N.toNat, by omega⟩
            rw [readOf_ok (fitted bs) p c _ (by rw [HFL.out]; omega) (by rw [HFL.out]; omega)] at HRA
            have HTL : Hid ((((fitted bs).drop p).take c).length = c) := by show _ = _; rw [List.length_take, List.length_drop, HFL.out]; omega
            obtain ⟨T, hT⟩ : ∃ T, ((fitted bs).drop p).take c = T := ⟨_, rfl⟩
            have HTT := hide hT
            rw [hT] at HRA HTL
            clear hT
            have HMD : Hid (metered R B G (T, (0 : Int)) = ((wrap64 (R + 1)), (wrap64 (B + (c : Int))), max G (c : Int))) := by show _ = _; unfold metered; rw [if_pos rfl]; simp only [HTL.out]
            simp only [HMD.out] at HRA
            go_wp2_with fail
            refine HRA.out.mono ?_
            rintro e w8 ⟨v8, rfl, ho8, hs8, k8⟩
            obtain ⟨a8, c8, rfl⟩ := ho8.shape
            rw [HTL.out] at ho8 ⊢
            have y0 : w8.cell? ⟨x, 0, none⟩ = some (.int .i64 (p : Int)) := by rw [cell_kept k8 x 0 hx7 (by intro e; have := Option.some.inj e; omega) (by simp)]; exact x0
            have y1 : w8.cell? ⟨x, 1, none⟩ = some (.int .i64 (c : Int)) := by rw [cell_kept k8 x 1 hx7 (by intro e; have := Option.some.inj e; omega) (by simp)]; exact x1
            have HS8 := hide hs8
            have HE8 := hide (HE7.out.kept k8 (fun i e => by have h1 := Option.some.inj e; refine ⟨by omega, by omega, fun e2 => ?_⟩; have h2 := HGO.out i e2; omega) (fun i e => by cases e))
            have HM8 := hide (HM7.out.kept k8 (by intro e; have := Option.some.inj e; omega) (by simp))
            obtain ⟨la, hrun, hrla⟩ := part a L cap p (p + c) (fitted bs) w8 (HR.out.below HE8.out.bel) (by omega) (by omega) hLc
            rw [Nat.add_sub_cancel_left, HTT.out] at hrla
            rw [Nat.add_sub_cancel_left, Int.natCast_add] at hrun
            have HSM := hide (same5_eq a8 la c c8 c (cap - p) T w8 (Got.rd ho8 (by rw [HTL.out]; omega)) hrla)
            have hx8 : x < w8.heap.size := by have := k8.size; omega
            have hci : (c : Int) ≤ 268435456 := by omega
            have hpc : (p : Int) + (c : Int) ≤ 268435456 := by omega
            clear k8 hs8 ho8 HRA HS7 HE7 HM7 x0 x1 hrla
            go_wp2_with fail
            refine HSM.out.mono ?_
            rintro e w10 ⟨rfl, hb10⟩
            have k10 := kept2_below hb10 none none
            have HS10 := hide (HS8.out.kept k10 (by simp) (by simp))
            have HE10 := hide (HE8.out.kept k10 (fun i e => by cases e) (fun i e => by cases e))
            have HM10 := hide (HM8.out.kept k10 (by simp) (by simp))
            have z0 : w10.cell? ⟨x, 0, none⟩ = some (.int .i64 (p : Int)) := by rw [cell_kept k10 x 0 hx8 (by simp) (by simp)]; exact y0
            have z1 : w10.cell? ⟨x, 1, none⟩ = some (.int .i64 (c : Int)) := by rw [cell_kept k10 x 1 hx8 (by simp) (by simp)]; exact y1
            obtain ⟨q0, q1, q2⟩ := HM10.out.cells
            have fz0 := HM10.out.frozen 0
            have fz1 := HM10.out.frozen 1
            have fz2 := HM10.out.frozen 2
            clear k10 hb10 HS8 HE8 HM8 HSM y0 y1
            by_cases hGc : G < (c : Int)
            · obtain ⟨w11, hw11⟩ : ∃ w11, ((w10.setCell ⟨g, 0, none⟩ (.int .i64 (wrap64 (R + 1)))).setCell ⟨g, 1, none⟩ (.int .i64 (wrap64 (B + (c : Int))))).setCell ⟨g, 2, none⟩ (.int .i64 (c : Int)) = w11 := ⟨_, rfl⟩
              have HMX : Hid (max G (c : Int) = (c : Int)) := by show _ = _; omega
              rw [HMX.out] at HS10
              have k11 : Kept2 w10 w11 (some g) none := by rw [← hw11]; exact kept2_grown (grown_cell (grown_cell (grown_cell (World.grownBy.refl _ _) _ _) _ _) _ _) (.inl rfl)
              have HM_w11 : Hid (MRow w11 g (wrap64 (R + 1)) (wrap64 (B + (c : Int))) (c : Int)) := by rw [← hw11]; exact HM10.out.three _ _ _
              have HS_w11 := hide (HS10.out.kept k11 ⟨by intro e; have := Option.some.inj e; omega, by intro e; have := Option.some.inj e; omega⟩ (by simp))
              have HE_w11 := hide (HE10.out.kept k11 (fun i e => by have h1 := Option.some.inj e; refine ⟨by omega, by omega, fun e2 => ?_⟩; have h2 := HGO.out i e2; omega) (fun i e => by cases e))
              obtain ⟨m0, m1, m2⟩ := HM_w11.out.cells
              clear k11 HM10 HS10 HE10
              go_wp2_with fail
              have HSd : Hid (Store w11.drew s bm 1 D (wrap64 (R + 1)) (wrap64 (B + (c : Int))) (c : Int)) := HS_w11.out.kept (kept2_below ((Below.refl _ _).drew) none none) (by simp) (by simp)
              first | (go_region_held (fun V => V.cell? ⟨g, 0, none⟩ = some (.int .i64 (wrap64 (R + 1))) ∧ V.cell? ⟨g, 1, none⟩ = some (.int .i64 (wrap64 (B + (c : Int)))) ∧ V.cell? ⟨g, 2, none⟩ = some (.int .i64 (c : Int))) (go_keep) (first | (go_at_call 32; refine (meter_any s bm 1 D (wrap64 (R + 1)) (wrap64 (B + (c : Int))) (c : Int) _ HSd.out).mono ?_; rintro e w9 ⟨rfl, hs9, k9⟩; have HS9 := hide hs9; have HM9 := hide ((HM_w11.out.kept (kept2_below ((Below.refl w11.heap.size w11).drew) none none) (by simp) (by simp)).kept k9 (by intro e; have := Option.some.inj e; omega) (by simp)); have HE9 := hide ((HE_w11.out.kept (kept2_below ((Below.refl w11.heap.size w11).drew) none none) (fun i e => by cases e) (fun i e => by cases e)).kept k9 (fun i e => by have h1 := Option.some.inj e; refine ⟨by omega, by omega, fun e2 => ?_⟩; have h2 := HGO.out i e2; omega) (fun i e => by cases e)); obtain ⟨u0, u1, u2⟩ := HM9.out.cells; clear hs9 k9))) | fail
              go_wp2_with fail
              go_roundw
              case rel => exact ⟨k + 1, (wrap64 (R + 1)), (wrap64 (B + (c : Int))), (c : Int), by omega, by go_num, by omega, by omega, HS9, HE9, HM9⟩
              case measure => simp [intOf]; omega
            · obtain ⟨w11, hw11⟩ : ∃ w11, (w10.setCell ⟨g, 0, none⟩ (.int .i64 (wrap64 (R + 1)))).setCell ⟨g, 1, none⟩ (.int .i64 (wrap64 (B + (c : Int)))) = w11 := ⟨_, rfl⟩
              have HMX : Hid (max G (c : Int) = G) := by show _ = _; omega
              rw [HMX.out] at HS10
              have k11 : Kept2 w10 w11 (some g) none := by rw [← hw11]; exact kept2_grown (grown_cell (grown_cell (World.grownBy.refl _ _) _ _) _ _) (.inl rfl)
              have HM_w11 : Hid (MRow w11 g (wrap64 (R + 1)) (wrap64 (B + (c : Int))) G) := by rw [← hw11]; exact HM10.out.two _ _
              have HS_w11 := hide (HS10.out.kept k11 ⟨by intro e; have := Option.some.inj e; omega, by intro e; have := Option.some.inj e; omega⟩ (by simp))
              have HE_w11 := hide (HE10.out.kept k11 (fun i e => by have h1 := Option.some.inj e; refine ⟨by omega, by omega, fun e2 => ?_⟩; have h2 := HGO.out i e2; omega) (fun i e => by cases e))
              obtain ⟨m0, m1, m2⟩ := HM_w11.out.cells
              clear k11 HM10 HS10 HE10
              go_wp2_with fail
              have HSd : Hid (Store w11.drew s bm 1 D (wrap64 (R + 1)) (wrap64 (B + (c : Int))) G) := HS_w11.out.kept (kept2_below ((Below.refl _ _).drew) none none) (by simp) (by simp)
              first | (go_region_held (fun V => V.cell? ⟨g, 0, none⟩ = some (.int .i64 (wrap64 (R + 1))) ∧ V.cell? ⟨g, 1, none⟩ = some (.int .i64 (wrap64 (B + (c : Int)))) ∧ V.cell? ⟨g, 2, none⟩ = some (.int .i64 G)) (go_keep) (first | (go_at_call 32; refine (meter_any s bm 1 D (wrap64 (R + 1)) (wrap64 (B + (c : Int))) G _ HSd.out).mono ?_; rintro e w9 ⟨rfl, hs9, k9⟩; have HS9 := hide hs9; have HM9 := hide ((HM_w11.out.kept (kept2_below ((Below.refl w11.heap.size w11).drew) none none) (by simp) (by simp)).kept k9 (by intro e; have := Option.some.inj e; omega) (by simp)); have HE9 := hide ((HE_w11.out.kept (kept2_below ((Below.refl w11.heap.size w11).drew) none none) (fun i e => by cases e) (fun i e => by cases e)).kept k9 (fun i e => by have h1 := Option.some.inj e; refine ⟨by omega, by omega, fun e2 => ?_⟩; have h2 := HGO.out i e2; omega) (fun i e => by cases e)); obtain ⟨u0, u1, u2⟩ := HM9.out.cells; clear hs9 k9))) | fail
              go_wp2_with fail
              go_roundw
              case rel => exact ⟨k + 1, (wrap64 (R + 1)), (wrap64 (B + (c : Int))), G, by omega, by go_num, hG0, hG1, HS9, HE9, HM9⟩
              case measure => simp [intOf]; omega
    · have hki : ¬ (k : Int) < (len1 : Int) := by omega
      go_wp2_with fail
      refine (head_any _).mono ?_
      rintro e w9 ⟨rfl, hb9⟩
      have HB9 := hide (below_trans HE.out.bel hb9)
      clear hb9
      go_wp2_with fail
      go_ret
      exact ⟨rfl, HB9.out⟩
end Go.Proofs.Ytndodbfhigejfab.St
namespace Go.Proofs.Ytndodbfhigejfab.storeReads
open Go.ChangeShapes Go.WideShapes Go.ChangeAt Go.RowKit
open Go.Proofs.Ytndodbfhigejfab.Base Go.Proofs.Ytndodbfhigejfab.St
theorem walk (a0 : Option Addr) (len0 cap0 : Nat) (b0 : List (BitVec 8)) (a1 : Option Addr) (len1 cap1 : Nat) (fa fn : Nat → Int) (w : World) (r0 : Rd w a0 len0 b0) (l0 : len0 ≤ cap0) (m0 : cap0 ≤ 140737488351232) (z0 : a0 = none → len0 = 0 ∧ cap0 = 0) (hlk : LooksAt w a1 len1 fa fn) (hl1 : len1 ≤ 140737488351232) :
    Calls Try.prog 7 #[.slice a0 len0 cap0, .slice a1 len1 cap1] w fun e w' => e = .returned (.bool true) ∧ Below w.heap.size w w' := reads_any a0 len0 cap0 b0 a1 len1 cap1 fa fn w r0 l0 m0 z0 hlk hl1
end Go.Proofs.Ytndodbfhigejfab.storeReads
