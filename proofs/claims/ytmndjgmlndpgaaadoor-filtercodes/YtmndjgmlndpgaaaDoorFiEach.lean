/-
  eachBit: all bits of a key are asked, or set.
-/
import Derived.Test.YtmndjgmlndpgaaaDoorFiBits
namespace Go.Proofs.YtmndjgmlndpgaaaDoor.Filt
open Go.ChangeShapes Go.WideShapes Go.ChangeAt Go.RowKit
open Go.Proofs.YtmndjgmlndpgaaaDoor.Base
set_option linter.unusedVariables false
def placeAt (x y : Nat) : Nat → Nat
  | 0 => x
  | i + 1 => (placeAt x y i + y) % 18446744073709551616
theorem placeAt_lt (x y : Nat) (hx : x < 18446744073709551616) (i : Nat) : placeAt x y i < 18446744073709551616 := by
  cases i with
  | zero => exact hx
  | succ i => unfold placeAt; omega
theorem placeAt_eq (x y : Nat) (hx : x < 18446744073709551616) (i : Nat) : placeAt x y i = (x + i * y) % 18446744073709551616 := by
  induction i with
  | zero => unfold placeAt; rw [Nat.zero_mul, Nat.add_zero, Nat.mod_eq_of_lt hx]
  | succ i ih => unfold placeAt; rw [ih, Nat.succ_mul, Nat.mod_add_mod, Nat.add_assoc]
/-- The bit number i of a key, in a filter of m bits. -/
def posAt (s : ByteArray) (m i : Nat) : Nat := placeAt (hashX s) (hashY s) i % m
theorem posAt_lt (s : ByteArray) (m i : Nat) (h : 0 < m) : posAt s m i < m := Nat.mod_lt _ h
/-- Are the first H bits of a key set? -/
def hasTo (bs : List (BitVec 8)) (s : ByteArray) (H : Nat) : Bool := (List.range H).all fun i => bitOn bs (posAt s (8 * bs.length) i)
/-- The first H bits of a key are set. -/
def setTo (s : ByteArray) (bs : List (BitVec 8)) : Nat → List (BitVec 8)
  | 0 => bs
  | i + 1 => setOn (setTo s bs i) (posAt s (8 * bs.length) i)
theorem setTo_len (s : ByteArray) (bs : List (BitVec 8)) (i : Nat) : (setTo s bs i).length = bs.length := by
  induction i with
  | zero => rfl
  | succ i ih => unfold setTo; rw [setOn_len, ih]
theorem hasTo_next {bs : List (BitVec 8)} {s : ByteArray} {k : Nat} (h : hasTo bs s k = true) : hasTo bs s (k + 1) = bitOn bs (posAt s (8 * bs.length) k) := by
  unfold hasTo at *
  rw [List.range_succ, List.all_append, h]
  simp
theorem hasTo_no {bs : List (BitVec 8)} {s : ByteArray} {k H : Nat} (hk : k < H) (h : bitOn bs (posAt s (8 * bs.length) k) = false) : hasTo bs s H = false := by
  unfold hasTo
  rw [List.all_eq_false]
  exact ⟨k, List.mem_range.2 hk, by rw [h]; simp⟩
theorem hashX_lt (s : ByteArray) : hashX s < 18446744073709551616 := hashTo_lt s _
theorem hashY_lt (s : ByteArray) : hashY s < 18446744073709551616 := mixC_lt _ (mixB_lt _)
/-- A closure's variable that holds a slice lies in the block g. -/
def DB (w : World) (g : Nat) (v : Value) : Prop := w.heap[g]? = some (.cells #[v] 22)
theorem DB.lt {w : World} {g : Nat} {v : Value} (h : DB w g v) : g < w.heap.size := (Array.getElem?_eq_some_iff.1 h).1
theorem DB.cell {w : World} {g : Nat} {v : Value} (h : DB w g v) : w.cell? ⟨g, 0, none⟩ = some v := by rw [cell_of_row _ _ _ _ _ _ h]; rfl
theorem DB.new (w : World) (v : Value) : DB (w.alloc (.cells #[v] 22)) w.heap.size v := heap_alloc_new _ _
theorem DB.below {w w' : World} {g : Nat} {v : Value} (h : DB w g v) (hb : Below w.heap.size w w') : DB w' g v := (hb.block g h.lt).trans h
theorem db_ne {w : World} {base i n c g : Nat} {xs : List (BitVec 8)} {v : Value} (h : Own w base (.slice (some ⟨i, 0, none⟩) n c) xs) (hf : DB w g v) : i ≠ g := by
  rintro rfl
  rcases h.2 with ⟨h1, _⟩ | ⟨g', c', cur, h1, _, h3, _⟩
  · cases h1
  · simp only [Value.slice.injEq, Option.some.injEq, Addr.mk.injEq] at h1
    obtain ⟨⟨rfl, _⟩, _⟩ := h1
    rw [hf] at h3
    simp only [Option.some.injEq, Obj.cells.injEq] at h3
    exact absurd h3.2.1 (by decide)
theorem DB.turn {w w' : World} {base g b n c : Nat} {xs : List (BitVec 8)} {v : Value} (h : DB w g v) (ho : Own w base (.slice (some ⟨b, 0, none⟩) n c) xs) (hg : w.grownBy w' (some b)) : DB w' g v :=
  (hg.block g h.lt (fun e => db_ne ho h (Option.some.inj e).symm)).trans h
set_option maxHeartbeats 1000000 in
set_option maxRecDepth 100000 in
theorem each_ask (A : Bool) (H : Nat) (b off len cap g : Nat) (bs : List (BitVec 8)) (s : ByteArray) (w : World) (hc : w.cell? ⟨g, 0, none⟩ = some (.slice (some ⟨b, off, none⟩) len cap)) (hg : g < w.heap.size) (hr : Rd w (some ⟨b, off, none⟩) len bs) (hp : 0 < len) (hl : len ≤ 140737488351232) (hs : s.size ≤ 9223372036854775807) (hH : H ≤ 8) :
    Calls Tryd.prog 26 #[.agg #[.bool A, .int .i64 (H : Int), .slice (some ⟨b, off, none⟩) len cap], .string s, .func (.func 32) #[] #[.pointer (some ⟨g, 0, none⟩)]] w fun e w' => e = .returned (.bool (hasTo bs s H)) ∧ Below w.heap.size w w' := by
  obtain ⟨w1, hw1⟩ : ∃ w1, w.alloc (.cells #[.bool A, .int .i64 (H : Int), .slice (some ⟨b, off, none⟩) len cap] 24) = w1 := ⟨_, rfl⟩
  have hb1 : Below w.heap.size w w1 := by rw [← hw1]; exact (Below.refl _ _).alloc (Nat.le_refl _) _
  have hF : FB w1 w.heap.size A (H : Int) (.slice (some ⟨b, off, none⟩) len cap) := by rw [← hw1]; exact FB.new _ _ _ _
  obtain ⟨p, hp0⟩ : ∃ p, w.heap.size = p := ⟨_, rfl⟩
  rw [hp0] at hF
  have f1 := hF.c1
  have f2 := hF.c2
  have HS := hide hp0
  have HB1 := hide hb1
  have HL := hide hr.1
  have HR1 := hide (hr.below hb1)
  have hc1 : w1.cell? ⟨g, 0, none⟩ = some (.slice (some ⟨b, off, none⟩) len cap) := (hb1.cell (p := ⟨g, 0, none⟩) hg).trans hc
  have HAS := hide (fun (B : Nat) (hB : B < 8 * len) => ask1_any g b off len cap B bs w1 hc1 HR1.out hB hl)
  obtain ⟨m, hm⟩ : ∃ m, 8 * len = m := ⟨_, rfl⟩
  have hmw : IntKind.u64.wrap (8 * IntKind.u64.wrap (len : Int)) = (m : Int) := by rw [IntKind.wrap_u64, IntKind.wrap_u64]; omega
  have hmp : 0 < m := by omega
  have hmb : (m : Int) ≤ 1125899906809856 := by omega
  rw [hm] at HAS
  have HM := hide hm
  have HXL := hide (hashX_lt s)
  have hyl := hashY_lt s
  have HP : Hid (∀ i, posAt s m i = placeAt (hashX s) (hashY s) i % m) := fun i => rfl
  have HPL := hide (fun i => placeAt_lt (hashX s) (hashY s) (hashX_lt s) i)
  have HHA := hide (hash_any s w1 hs)
  have HPN : Hid (∀ i, placeAt (hashX s) (hashY s) (i + 1) = (placeAt (hashX s) (hashY s) i + hashY s) % 18446744073709551616) := fun i => rfl
  have HP0 : Hid (placeAt (hashX s) (hashY s) 0 = hashX s) := rfl
  obtain ⟨PL, hPL⟩ : ∃ PL, placeAt (hashX s) (hashY s) = PL := ⟨_, rfl⟩
  rw [hPL] at HP HPL HPN HP0
  generalize hashX s = X at HXL HHA HP0
  generalize hashY s = Y at hyl HHA HPN
  have hYi : (Y : Int) ≤ 18446744073709551615 := by omega
  clear hr hc hF hb1 hm hPL
  go_enter Tryd.func26, Tryd.ntmps26
  go_wp2_with fail
  refine HHA.out.mono ?_
  rintro e w2 ⟨rfl, rfl⟩
  go_wp2_with fail
  go_loopw [8, 22] (fun pl i wr => ∃ (k P : Nat), k ≤ H ∧ i = .int .i64 (k : Int) ∧ pl = .int .u64 (P : Int) ∧ Hid (P = PL k) ∧ wr = w2 ∧ Hid (hasTo bs s k = true)) (fun _ i _ => H - (intOf i).toNat)
  case atStart => exact ⟨0, X, Nat.zero_le _, rfl, rfl, HP0.out.symm, rfl, rfl⟩
  case round =>
    obtain ⟨k, P, hk, rfl, rfl, HK, rfl, HH⟩ := hrel
    have hPi : (P : Int) ≤ 18446744073709551615 := by have := HPL.out k; have := HK.out; omega
    by_cases hlt : k < H
    · have hki : (k : Int) < (H : Int) := by omega
      obtain ⟨B, hB⟩ : ∃ B, P % m = B := ⟨_, rfl⟩
      have hPB : (P : Int) % (8 * (len : Int)) = (B : Int) := by
        have e : (8 * (len : Int)) = (m : Int) := by have := HM.out; omega
        rw [e]; omega
      have HBL : Hid (B < m) := by rw [← hB]; exact Nat.mod_lt _ hmp
      have HBP : Hid (posAt s (8 * bs.length) k = B) := by
        show _ = _
        rw [HL.out, HM.out, HP.out, ← HK.out]; exact hB
      have HKN : Hid ((P + Y) % 18446744073709551616 = PL (k + 1)) := by show _ = _; rw [HPN.out, ← HK.out]
      clear hB
      obtain ⟨P2, hP2⟩ : ∃ P2, (P + Y) % 18446744073709551616 = P2 := ⟨_, rfl⟩
      have hP2w : IntKind.u64.wrap ((P : Int) + (Y : Int)) = (P2 : Int) := by rw [IntKind.wrap_u64]; omega
      rw [hP2] at HKN
      clear hP2
      by_cases hbit : bitOn bs B = true
      · have HA2 := hide (HAS.out B HBL.out)
        rw [hbit] at HA2
        have HHN : Hid (hasTo bs s (k + 1) = true) := by show _ = _; rw [hasTo_next HH.out, HBP.out]; exact hbit
        clear hbit
        go_wp2_with fail
        refine HA2.out.mono ?_
        rintro e w3 ⟨rfl, rfl⟩
        go_wp2_with fail
        go_roundw
        case rel => exact ⟨k + 1, P2, by omega, by go_num, by first | rfl | rw [hP2w], HKN, by first | trivial | rfl, HHN⟩
        case measure => simp [intOf]; omega
      · have hbf : bitOn bs B = false := by simpa using hbit
        have HA2 := hide (HAS.out B HBL.out)
        rw [hbf] at HA2
        have HHN : Hid (hasTo bs s H = false) := hasTo_no hlt (by rw [HBP.out]; exact hbf)
        clear hbit hbf
        go_wp2_with fail
        refine HA2.out.mono ?_
        rintro e w3 ⟨rfl, rfl⟩
        go_wp2_with fail
        go_ret
        rw [HHN.out]
        exact ⟨rfl, by first | exact HB1.out | (rw [← HS.out]; exact HB1.out)⟩
    · have hkH : k = H := by omega
      subst hkH
      have hki : ¬ (k : Int) < (k : Int) := by omega
      go_wp2_with fail
      go_ret
      rw [HH.out]
      exact ⟨rfl, by first | exact HB1.out | (rw [← HS.out]; exact HB1.out)⟩
end Go.Proofs.YtmndjgmlndpgaaaDoor.Filt
