/-
  The document's place, Has and Build.
-/
import Derived.Test.YtmndjgmlndpgaaaDoorFiFewC
import Derived.Test.YtmndjgmlndpgaaaDoorFiRefHash
import Derived.Lib.MinMax
namespace Go.Proofs.YtmndjgmlndpgaaaDoor.Filt
open Go.ChangeShapes Go.WideShapes Go.ChangeAt Go.RowKit
open Go.Proofs.YtmndjgmlndpgaaaDoor.Base hiding hide unhide lt8
set_option linter.unusedVariables false
set_option maxHeartbeats 1000000 in
set_option maxRecDepth 100000 in
theorem place_any (s : ByteArray) (i n : Nat) (w : World) (hs : s.size ≤ 9223372036854775807) (hi : i ≤ 8) (hn : 0 < n) (hn2 : n ≤ 4096) :
    Calls Tryd.prog 28 #[.string s, .int .i64 (i : Int), .int .i64 (n : Int)] w fun e w' => e = .returned (.int .u64 (posAt s (8 * n) i : Nat)) ∧ w' = w := by
  have HP : Hid (posAt s (8 * n) i = (hashX s + i * hashY s) % 18446744073709551616 % (8 * n)) := by
    show placeAt (hashX s) (hashY s) i % (8 * n) = _
    rw [placeAt_eq _ _ (hashX_lt s)]
  have HH := hide (refHash_any s w hs)
  have hxl := hashX_lt s
  have hyl := hashY_lt s
  generalize hashX s = X at HP HH hxl
  generalize hashY s = Y at HP HH hyl
  obtain ⟨Z, hZ⟩ : ∃ Z, i * Y % 18446744073709551616 = Z := ⟨_, rfl⟩
  have hZw : IntKind.u64.wrap ((i : Int) * (Y : Int)) = (Z : Int) := by
    have e : (i : Int) * (Y : Int) = ((i * Y : Nat) : Int) := by simp
    rw [e, IntKind.wrap_u64]; omega
  obtain ⟨V, hV⟩ : ∃ V, (X + Z) % 18446744073709551616 = V := ⟨_, rfl⟩
  have hVw : IntKind.u64.wrap ((X : Int) + (Z : Int)) = (V : Int) := by rw [IntKind.wrap_u64]; omega
  obtain ⟨m, hm⟩ : ∃ m, 8 * n = m := ⟨_, rfl⟩
  have hmi : 8 * (n : Int) = (m : Int) := by omega
  obtain ⟨R, hR⟩ : ∃ R, V % m = R := ⟨_, rfl⟩
  have hRi : (V : Int) % (m : Int) = (R : Int) := by omega
  have HF : Hid (posAt s m i = R) := by
    show _ = _
    rw [← hm, HP.out, ← hR, ← hV, ← hZ, hm]
    congr 1
    omega
  have hmp : (0 : Int) < (m : Int) := by omega
  have hml : (m : Int) ≤ 32768 := by omega
  have hml2 : (m : Int) ≤ 32767 ∨ (m : Int) = 32768 := by omega
  rw [hm]
  clear hZ hV hR HP
  go_enter Tryd.func28, Tryd.ntmps28
  go_wp2_with fail
  refine HH.out.mono ?_
  rintro e w1 ⟨rfl, rfl⟩
  go_wp2_with fail
  go_ret
  rw [HF.out]
  exact ⟨ret_int hRi, rfl⟩
theorem hasTo_off {bs : List (BitVec 8)} {s : ByteArray} {k : Nat} (h : hasTo bs s k = true) (hb : bitOn bs (posAt s (8 * bs.length) k) = true) : hasTo bs s (k + 1) = true := by rw [hasTo_next h]; exact hb
set_option maxHeartbeats 1000000 in
set_option maxRecDepth 100000 in
theorem refHas_any (A : Bool) (H : Int) (a : Option Addr) (len cap : Nat) (bs : List (BitVec 8)) (s : ByteArray) (w : World) (hr : Rd w a len bs) (hl : len ≤ 140737488351232) (hs : s.size ≤ 9223372036854775807) :
    Calls Tryd.prog 12 #[.agg #[.bool A, .int .i64 H, .slice a len cap], .string s] w fun e w' => e = .returned (.bool (hasF A H bs s)) ∧ Below w.heap.size w w' := by
  obtain ⟨w1, hw1⟩ : ∃ w1, w.alloc (.cells #[.bool A, .int .i64 H, .slice a len cap] 24) = w1 := ⟨_, rfl⟩
  have hb1 : Below w.heap.size w w1 := by rw [← hw1]; exact (Below.refl _ _).alloc (Nat.le_refl _) _
  have hF : FB w1 w.heap.size A H (.slice a len cap) := by rw [← hw1]; exact FB.new _ _ _ _
  obtain ⟨p, hp0⟩ : ∃ p, w.heap.size = p := ⟨_, rfl⟩
  rw [hp0] at hF
  have HF := hide hF
  have f0 := hF.c0
  have f1 := hF.c1
  have f2 := hF.c2
  have HS := hide hp0
  have HB1 := hide hb1
  have HL := hide hr.1
  have HR1 := hide (hr.below hb1)
  have HKR := hide (kind_range A H len)
  have HCI := hide (refCheck_any A H a len cap w1 (by omega))
  have HE : Hid (hasF A H bs s = if kindN A H len = 1 then true else if kindN A H len = 2 then hasTo bs s H.toNat else false) := by show _ = _; unfold hasF; rw [HL.out]
  clear hr hF hb1
  go_enter Tryd.func12, Tryd.ntmps12
  go_wp2_with fail
  refine HCI.out.mono ?_
  rintro e w2 ⟨rfl, hb2⟩
  have HF2 := hide (HF.out.below hb2)
  have HB2 : Hid (Below w.heap.size w w2) := HB1.out.trans (hb2.mono HB1.out.size)
  have HR2 := hide (HR1.out.below hb2)
  have HCN : Hid (checkN A H len = if kindN A H len = 3 then 70 else 0) := rfl
  clear hb2 f0 f1 f2
  have f0 := HF2.out.c0
  have f1 := HF2.out.c1
  have f2 := HF2.out.c2
  rcases HKR.out with ⟨hk, rfl, rfl, rfl⟩ | ⟨hk, rfl, rfl, rfl⟩ | ⟨hk, rfl, h1, h8, hn1, hn2⟩ | hk
  · rw [hk] at HE HCN
    have hcn : checkN false 0 0 = 0 := HCN.out
    rw [hcn]
    go_wp2_with fail
    go_ret
    rw [HE.out]
    exact ⟨rfl, by first | exact HB2.out | (rw [← HS.out]; exact HB2.out)⟩
  · rw [hk] at HE HCN
    have hcn : checkN true 0 0 = 0 := HCN.out
    rw [hcn]
    go_wp2_with fail
    go_ret
    rw [HE.out]
    exact ⟨rfl, by first | exact HB2.out | (rw [← HS.out]; exact HB2.out)⟩
  · rw [hk] at HE HCN
    have hcn : checkN false H len = 0 := HCN.out
    rw [hcn]
    obtain ⟨N, rfl⟩ : ∃ N : Nat, H = (N : Int) := ⟨H.toNat, by omega⟩
    have HE2 : Hid (hasF false (N : Int) bs s = hasTo bs s N) := HE.out
    have hl0 : ((len : Int) == 0) = false := by rw [beq_eq_false_iff_ne]; omega
    obtain ⟨b, off, rfl, hbl, hcell⟩ := HR2.out.2.2 (by omega)
    have HCL := hide hcell
    clear hcell HE HCN hk hcn
    go_wp2_with fail
    go_loopw [5, 6] (fun i _ wr => ∃ k : Nat, k ≤ N ∧ i = .int .i64 (k : Int) ∧ wr = w2 ∧ Hid (hasTo bs s k = true)) (fun i _ _ => N - (intOf i).toNat)
    case atStart => exact ⟨0, Nat.zero_le _, rfl, rfl, rfl⟩
    case round =>
      obtain ⟨k, hk, rfl, rfl, HH⟩ := hrel
      by_cases hlt : k < N
      · have hki : (k : Int) < (N : Int) := by omega
        obtain ⟨B, hB⟩ : ∃ B, posAt s (8 * len) k = B := ⟨_, rfl⟩
        have HPL := hide (place_any s k len wr hs (by omega) (by omega) (by omega))
        rw [hB] at HPL
        have HBL : Hid (B < 8 * len) := by rw [← hB]; exact posAt_lt s _ k (by omega)
        have HBP : Hid (posAt s (8 * bs.length) k = B) := by show _ = _; rw [HL.out]; exact hB
        obtain ⟨t, ht⟩ : ∃ t, B / 8 = t := ⟨_, rfl⟩
        obtain ⟨f, hf⟩ : ∃ f, B % 8 = f := ⟨_, rfl⟩
        have g1 := HCL.out t (by have := HBL.out; omega)
        have HBE : Hid (bitOn bs B = decide ((bs.getD t 0).toNat / 2 ^ f % 2 = 1)) := by show _ = _; unfold bitOn; rw [ht, hf]
        have hx := (bs.getD t 0).isLt
        generalize (bs.getD t 0).toNat = x at g1 HBE hx
        obtain ⟨D, hD⟩ : ∃ D, x / 2 ^ f = D := ⟨_, rfl⟩
        have hD2 : ((x : Int) / 2 ^ f) = (D : Int) := by rw [← hD]; simp
        rw [hD] at HBE
        obtain ⟨d, hd⟩ : ∃ d, D % 2 = d := ⟨_, rfl⟩
        have hd2 : (D : Int) % 2 = (d : Int) := by omega
        rw [hd] at HBE
        have hti : (B : Int) / 8 = (t : Int) := by omega
        have hfi : (B : Int) % 8 = (f : Int) := by omega
        have htl : (t : Int) < (len : Int) := by have := HBL.out; omega
        have hf8 : (f : Int) < 64 := by omega
        have hd01 : d = 0 ∨ d = 1 := by omega
        clear hB ht hf hD hd
        rcases hd01 with rfl | rfl
        · have HNO : Hid (hasTo bs s N = false) := hasTo_no hlt (by rw [HBP.out, HBE.out]; rfl)
          go_wp2_with fail
          refine HPL.out.mono ?_
          rintro e w3 ⟨rfl, rfl⟩
          go_wp2_with fail
          go_ret
          rw [HE2.out, HNO.out]
          exact ⟨rfl, by first | exact HB2.out | (rw [← HS.out]; exact HB2.out)⟩
        · have HYES : Hid (hasTo bs s (k + 1) = true) := hasTo_off HH.out (by rw [HBP.out, HBE.out]; rfl)
          go_wp2_with fail
          refine HPL.out.mono ?_
          rintro e w3 ⟨rfl, rfl⟩
          go_wp2_with fail
          go_roundw
          case rel => exact ⟨k + 1, by omega, by go_num, by first | rfl | trivial, HYES⟩
          case measure => (simp [intOf] <;> omega)
      · have hkn : k = N := by omega
        subst hkn
        have hki : ¬ (k : Int) < (k : Int) := by omega
        go_wp2_with fail
        go_ret
        rw [HE2.out, HH.out]
        exact ⟨rfl, by first | exact HB2.out | (rw [← HS.out]; exact HB2.out)⟩
  · rw [hk] at HE HCN
    have hcn : checkN A H len = 70 := HCN.out
    rw [hcn]
    go_wp2_with fail
    go_ret
    rw [HE.out]
    exact ⟨rfl, by first | exact HB2.out | (rw [← HS.out]; exact HB2.out)⟩
end Go.Proofs.YtmndjgmlndpgaaaDoor.Filt
