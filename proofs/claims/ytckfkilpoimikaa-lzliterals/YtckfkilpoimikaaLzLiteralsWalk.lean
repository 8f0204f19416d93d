/-
  The walk of the statement LzLiterals.
-/
import Derived.Test.YtckfkilpoimikaaLzWorks
import Derived.Test.YtckfkilpoimikaaLzC6
namespace Go.Proofs.Ytckfkilpoimikaa.Lz
open Go.ChangeShapes Go.WideShapes Go.ChangeAt Go.RowKit
open Go.Proofs.Ytckfkilpoimikaa.Base Go.Proofs.Ytckfkilpoimikaa.Nums
set_option linter.unusedVariables false
theorem trd_one (w : World) (a : Option Addr) (n c : Nat) (bs : List (BitVec 8)) (hr : Rd w a n bs) (hc : n ≤ c) (hm : c ≤ 140737488355328) (hz : a = none → n = 0 ∧ c = 0) :
    TRd (w.alloc (.cells #[.slice a n c, .int .i64 0, .int .i64 0] 32)) (some ⟨w.heap.size, 0, none⟩) 1 [⟨bs, 0, 0⟩] := by
  have hT := TRow.new w (.slice a n c) 0 0
  refine ⟨rfl, by omega, fun _ => ⟨w.heap.size, 0, rfl, by simp, fun i hi => ?_⟩⟩
  obtain rfl : i = 0 := by omega
  exact ⟨a, n, c, hT.c0, hT.c1, hT.c2, hr.below ((Below.refl _ _).alloc (Nat.le_refl _) _), hc, (by omega), hz⟩
theorem good_lit (bs : List (BitVec 8)) (h : 1 ≤ bs.length) : Good [⟨bs, 0, 0⟩] 0 bs.length := ⟨by omega, .inl ⟨⟨rfl, rfl⟩, by simp⟩, by simp [Good]⟩
theorem written_lit (bs : List (BitVec 8)) (h : 1 ≤ bs.length) (hm : bs.length ≤ 65536) : written [⟨bs, 0, 0⟩] = (putTok ⟨bs, 0, 0⟩, 0) := by
  unfold written
  rw [good_measure _ 0 bs.length hm (good_lit bs h)]
  simp [bytesOf]
theorem decoded_lit (bs : List (BitVec 8)) (h : 1 ≤ bs.length) (hm : bs.length ≤ 65536) : decoded (putTok ⟨bs, 0, 0⟩) (bs.length : Int) = (bs, 0) := by
  have h1 := read_good _ 0 bs.length (by omega) hm (good_lit bs h)
  rw [show bytesOf [(⟨bs, 0, 0⟩ : Tok)] = putTok ⟨bs, 0, 0⟩ by simp [bytesOf]] at h1
  unfold decoded
  rw [if_neg (by omega), Int.toNat_natCast, h1]
  rfl
end Go.Proofs.Ytckfkilpoimikaa.Lz
namespace Go.Proofs.Ytckfkilpoimikaa.lzLiterals
open Go.ChangeShapes Go.WideShapes Go.ChangeAt Go.RowKit
open Go.Proofs.Ytckfkilpoimikaa.Base Go.Proofs.Ytckfkilpoimikaa.Nums Go.Proofs.Ytckfkilpoimikaa.Lz
set_option linter.unusedVariables false
set_option maxHeartbeats 1000000 in
set_option maxRecDepth 100000 in
theorem walk (a0 : Option Addr) (len0 cap0 : Nat) (b0 : List (BitVec 8)) (w : World) (r0 : Rd w a0 len0 b0) (l0 : len0 ≤ cap0) (m0 : cap0 ≤ 140737488351232) (z0 : a0 = none → len0 = 0 ∧ cap0 = 0) :
    Calls Try.prog 4 #[.slice a0 len0 cap0] w fun e w' => e = .returned (.bool true) ∧ Below w.heap.size w w' := by
  have HL := hide r0.1
  have R0 := hide r0
  clear r0
  by_cases h1 : len0 < 1
  · have h1i : (len0 : Int) < 1 := by omega
    clear h1
    go_enter Try.func4, Try.ntmps4
    go_wp2_with fail
    refine (works_any w).mono ?_
    rintro e w1 ⟨rfl, hb1⟩
    have HB1 := hide hb1
    clear hb1
    go_wp2_with fail
    go_ret
    exact ⟨rfl, HB1.out⟩
  · have h1i : ¬ (len0 : Int) < 1 := by omega
    by_cases h2 : 65536 < len0
    · have h2i : (65536 : Int) < (len0 : Int) := by omega
      clear h1 h2
      go_enter Try.func4, Try.ntmps4
      go_wp2_with fail
      refine (works_any w).mono ?_
      rintro e w1 ⟨rfl, hb1⟩
      have HB1 := hide hb1
      clear hb1
      go_wp2_with fail
      go_ret
      exact ⟨rfl, HB1.out⟩
    · have h2i : ¬ (65536 : Int) < (len0 : Int) := by omega
      have HB0 : Hid (Below w.heap.size w (w.alloc (.cells #[.slice a0 len0 cap0, .int .i64 0, .int .i64 0] 32))) := (Below.refl _ _).alloc (Nat.le_refl _) _
      have HT := hide (trd_one w a0 len0 cap0 b0 R0.out l0 (by omega) z0)
      have HWR := hide (written_lit b0 (by have := HL.out; omega) (by have := HL.out; omega))
      have HDE := hide (decoded_lit b0 (by have := HL.out; omega) (by have := HL.out; omega))
      have HPL : Hid ((putTok ⟨b0, 0, 0⟩).length = (put len0).length + len0) := by
        show _ = _
        rw [putTok_bare _ ⟨rfl, rfl⟩, List.length_append, HL.out]
      have hp1 := (put_nine len0 (by omega)).1
      have hp9 := (put_nine len0 (by omega)).2
      rw [HL.out] at HDE
      clear h1 h2
      go_enter Try.func4, Try.ntmps4
      go_wp2_with fail
      refine (write_any _ 1 1 _ _ HT.out).mono ?_
      rintro e w1 ⟨v1, rfl, ho1, hb1⟩
      rw [HWR.out] at ho1 ⊢
      simp only at ho1 ⊢
      obtain ⟨a1, n1, c1, rfl, HN1⟩ := own_named ho1
      have HB1 := hide (below_trans HB0.out hb1)
      have HO1 := hide ho1
      have hc1 := (Got.cap ho1).1
      have hr1 := ho1.room
      have hn1 : (n1 : Int) = ((put len0).length : Int) + (len0 : Int) := by have h1 := HN1.out; have h2 := HPL.out; omega
      have hn2 : n1 ≤ 140737488355328 := by omega
      have HN2 := hide hn1
      have hgt : (len0 : Int) < (n1 : Int) := by omega
      clear hb1 ho1 HB0 hn1 HT
      go_wp2_with fail
      refine (decode_any a1 n1 c1 _ (len0 : Int) w1 (Got.rd HO1.out (by have := HN1.out; omega)) hc1 hr1).mono ?_
      rintro e w2 ⟨v2, rfl, ho2, hb2⟩
      rw [HDE.out] at ho2 ⊢
      simp only at ho2 ⊢
      have HB2 := hide (below_trans HB1.out hb2)
      obtain ⟨a2, n2, c2, rfl, HN2'⟩ := own_named ho2
      have HO2 := hide ho2
      clear hb2 ho2 HB1
      go_wp2_with fail
      refine (sameBytes_eq _ _ _ _ _ _ b0 w2 (Got.rd HO2.out (by have := HL.out; omega)) (R0.out.below HB2.out)).mono ?_
      rintro e w3 ⟨rfl, hb3⟩
      have HB3 := hide (below_trans HB2.out hb3)
      clear hb3
      go_wp2_with fail
      go_ret
      exact ⟨rfl, HB3.out⟩
end Go.Proofs.Ytckfkilpoimikaa.lzLiterals
