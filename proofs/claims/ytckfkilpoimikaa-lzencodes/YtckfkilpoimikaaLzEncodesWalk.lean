/-
  The walk of the statement LzEncodes.
-/
import Derived.Test.YtckfkilpoimikaaLzK3
import Derived.Test.YtckfkilpoimikaaLzK4
import Derived.Test.YtckfkilpoimikaaOver
import Derived.Laws.IdiomStrings
import Derived.Lib.SlBytesConst
namespace Go.Proofs.Ytckfkilpoimikaa.lzEncodes
open Go.ChangeShapes Go.WideShapes Go.ChangeAt Go.RowKit
open Go.Proofs.Ytckfkilpoimikaa.Base Go.Proofs.Ytckfkilpoimikaa.Nums Go.Proofs.Ytckfkilpoimikaa.Lz
set_option linter.unusedVariables false
def asked : List (BitVec 8) := [97, 110, 111, 116, 104, 101, 114, 32, 113, 117, 101, 115, 116, 105, 111, 110, 44, 32, 97, 110, 111, 116, 104, 101, 114, 32, 97, 110, 115, 119, 101, 114, 44, 32, 97, 110, 111, 116, 104, 101, 114, 32, 113, 117, 101, 115, 116, 105, 111, 110]
theorem enc_at (x : Txt) (B : List (BitVec 8)) (E : Int) (h : encd x = (B, E)) (a : Option Addr) (len cap : Nat) (w : World) (hr : Rd w a len x) (hcap : len ≤ cap) (hm : cap ≤ 9223372036854775807) (hl : len ≤ 140737488355328) (hz : a = none → len = 0 ∧ cap = 0) :
    Calls Try.prog 9 #[.slice a len cap] w fun e w' => ∃ v, e = .returned (.tuple #[v, .int .i64 E]) ∧ Own w' w.heap.size v B ∧ Below w.heap.size w w' := by
  have := encode_all a len cap x w hr hcap hm hl hz
  rw [h] at this
  exact this
theorem ref_at (x : Txt) (B : List (BitVec 8)) (E : Int) (h : encd x = (B, E)) (a : Option Addr) (len cap : Nat) (w : World) (hr : Rd w a len x) (hcap : len ≤ cap) (hm : cap ≤ 9223372036854775807) (hl : len ≤ 140737488355328) (hz : a = none → len = 0 ∧ cap = 0) :
    Calls Try.prog 21 #[.slice a len cap] w fun e w' => ∃ v, e = .returned (.tuple #[v, .int .i64 E]) ∧ Own w' w.heap.size v B ∧ Below w.heap.size w w' := by
  have := refEncode_all a len cap x w hr hcap hm hl hz
  rw [h] at this
  exact this
set_option maxHeartbeats 2000000 in
set_option maxRecDepth 100000 in
theorem walk (a0 : Option Addr) (len0 cap0 : Nat) (b0 : List (BitVec 8)) (w : World) (r0 : Rd w a0 len0 b0) (l0 : len0 ≤ cap0) (m0 : cap0 ≤ 140737488351232) (z0 : a0 = none → len0 = 0 ∧ cap0 = 0) :
    Calls Try.prog 7 #[.slice a0 len0 cap0] w fun e w' => e = .returned (.bool true) ∧ Below w.heap.size w w' := by
  have kc := fun (w : World) (C : Array Value) (n c : Nat) => Lib.run_convert_bytes_const (P := Try.prog) w 23 5 C n c Try.underlying23 Try.underlying5
  have HL := hide r0.1
  have R0 := hide r0
  have hli : len0 ≤ 140737488351232 := by omega
  clear r0
  obtain ⟨B, E, hBE⟩ : ∃ B E, encd b0 = (B, E) := ⟨_, _, rfl⟩
  have HBL : Hid (B.length ≤ 1835008) := by have := encd_len b0; rw [hBE] at this; exact this
  have HBE := hide hBE
  obtain ⟨N, hN⟩ : ∃ N, N = B.length := ⟨_, rfl⟩
  have hNb : N ≤ 1835008 := by rw [hN]; exact HBL.out
  have HN := hide hN
  clear hN hBE
  have hee : (E == E) = true := by simp
  go_enter Try.func7, Try.ntmps7
  go_wp2_with fail
  refine (ref_at b0 B E HBE.out a0 len0 cap0 w R0.out l0 (by omega) (by omega) z0).mono ?_
  rintro e w1 ⟨v1, rfl, ho1, hb1⟩
  obtain ⟨a1, n1, c1, rfl, HN1⟩ := own_named ho1
  obtain rfl : n1 = N := by rw [HN.out]; exact HN1.out
  have HB1 := hide hb1
  have HW1 := hide ho1
  have R1 := hide (R0.out.below hb1)
  clear hb1 ho1 HN1
  go_wp2_with fail
  refine (roomy_any a0 len0 cap0 b0 w1 R1.out z0 hli).mono ?_
  rintro e w2 ⟨g, c, rfl, hg, ho2, hb2⟩
  have HB2 := hide (below_trans HB1.out hb2)
  have HW2 := hide (HW1.out.below hb2)
  have HX2 := hide ho2
  have HCX : Hid (len0 + 4 ≤ c ∧ c ≤ 9223372036854775807) := ⟨ho2.cap, ho2.room⟩
  have HKW : Hid (∀ i, (Value.slice a1 n1 c1).ownBlock = some i → i < w2.heap.size) := fun i e => Nat.lt_of_lt_of_le (blk HW1.out i e).2 hb2.size
  have hgw : w.heap.size ≤ g := Nat.le_trans HB1.out.size hg
  have HKX : Hid (g < w2.heap.size) := (blk ho2 g rfl).2
  clear hb2 ho2 HB1 HW1 R1 hg
  go_wp2_with fail
  refine (enc_at b0 B E HBE.out _ len0 c w2 (rd_front (Got.rd HX2.out (by rw [List.length_append, HL.out]; show len0 + 4 ≤ _; omega))) (by have := HCX.out.1; omega) HCX.out.2 (by omega) (fun h => by cases h)).mono ?_
  rintro e w3 ⟨v3, rfl, ho3, hb3⟩
  obtain ⟨a3, n3, c3, rfl, HN3⟩ := own_named ho3
  obtain rfl : n3 = n1 := by rw [HN.out]; exact HN3.out
  have HB3 := hide (below_trans HB2.out hb3)
  have HW3 := hide (HW2.out.below hb3)
  have HX3 := hide (HX2.out.below hb3)
  have HO3 := hide ho3
  have HK3 : Hid (∀ i, (Value.slice a3 n3 c3).ownBlock = some i → w2.heap.size ≤ i ∧ i < w3.heap.size) := blk ho3
  have hs2 : w.heap.size ≤ w2.heap.size := HB2.out.size
  have hs3 : w2.heap.size ≤ w3.heap.size := hb3.size
  clear hb3 ho3 HN3 HB2 HW2 HX2
  go_wp2_with fail
  refine (enc_at b0 B E HBE.out _ len0 c w3 (rd_front (Got.rd HX3.out (by rw [List.length_append, HL.out]; show len0 + 4 ≤ _; omega))) (by have := HCX.out.1; omega) HCX.out.2 (by omega) (fun h => by cases h)).mono ?_
  rintro e w4 ⟨v4, rfl, ho4, hb4⟩
  obtain ⟨a4, n4, c4, rfl, HN4⟩ := own_named ho4
  obtain rfl : n4 = n3 := by rw [HN.out]; exact HN4.out
  have HB4 := hide (below_trans HB3.out hb4)
  have HW4 := hide (HW3.out.below hb4)
  have HX4 := hide (HX3.out.below hb4)
  have HO4 := hide (HO3.out.below hb4)
  have HT4 := hide ho4
  have hs4 : w2.heap.size ≤ w4.heap.size := Nat.le_trans hs3 hb4.size
  have HK4 : Hid (∀ i, (Value.slice a4 n4 c4).ownBlock = some i → w3.heap.size ≤ i) := own_blk ho4
  clear hb4 ho4 HN4 HB3 HW3 HX3 HO3
  go_wp2_with fail
  have HBa : Hid (Below w4.heap.size w4 (w4.alloc (.cells (vals asked).toArray 5 (50, 51)))) := (Below.refl _ _).alloc (Nat.le_refl _) _
  refine (encode_all _ 50 _ asked _ (rd_new w4 asked _ (by decide)) (by decide) (by decide) (by decide) (fun h => by cases h)).mono ?_
  rintro e w5 ⟨v5, rfl, _, hb5⟩
  have hb5' := below_trans HBa.out hb5
  have HB5 := hide (below_trans HB4.out hb5')
  have HW5 := hide (HW4.out.below hb5')
  have HX5 := hide (HX4.out.below hb5')
  have HO5 := hide (HO4.out.below hb5')
  have HT5 := hide (HT4.out.below hb5')
  have hs5 : w2.heap.size ≤ w5.heap.size := Nat.le_trans hs4 hb5'.size
  clear hb5 hb5' HB4 HW4 HX4 HO4 HT4 HBa kc
  generalize (encd asked).2 = Ea
  go_wp2_with fail
  refine (sameBytes_eq _ _ _ _ _ _ B _ (Got.rd HO5.out (by have := HBL.out; omega)) (Got.rd HW5.out (by have := HBL.out; omega))).mono ?_
  rintro e w6 ⟨rfl, hb6⟩
  have HB6 := hide (below_trans HB5.out hb6)
  have HW6 := hide (HW5.out.below hb6)
  have HX6 := hide (HX5.out.below hb6)
  have HO6 := hide (HO5.out.below hb6)
  have HT6 := hide (HT5.out.below hb6)
  have hs6 : w2.heap.size ≤ w6.heap.size := Nat.le_trans hs5 hb6.size
  clear hb6 HB5 HW5 HX5 HO5 HT5
  go_wp2_with fail
  refine (sameBytes_eq _ _ _ _ _ _ B _ (Got.rd HT6.out (by have := HBL.out; omega)) (Got.rd HW6.out (by have := HBL.out; omega))).mono ?_
  rintro e w7 ⟨rfl, hb7⟩
  have HB7 := hide (below_trans HB6.out hb7)
  have HW7 := hide (HW6.out.below hb7)
  have HX7 := hide (HX6.out.below hb7)
  have HO7 := hide (HO6.out.below hb7)
  have HT7 := hide (HT6.out.below hb7)
  have hs7 : w2.heap.size ≤ w7.heap.size := Nat.le_trans hs6 hb7.size
  clear hb7 HB6 HW6 HX6 HO6 HT6
  go_wp2_with fail
  refine (kept_any g 0 len0 c a0 cap0 b0 w7 (Got.rd HX7.out (by rw [List.length_append, HL.out]; show len0 + 4 ≤ _; omega)) HCX.out.1 (R0.out.below HB7.out) hli).mono ?_
  rintro e w8 ⟨rfl, hb8⟩
  have HB8 := hide (below_trans HB7.out hb8)
  have HW8 := hide (HW7.out.below hb8)
  have HX8 := hide (HX7.out.below hb8)
  have HO8 := hide (HO7.out.below hb8)
  have HT8 := hide (HT7.out.below hb8)
  have hs8 : w2.heap.size ≤ w8.heap.size := Nat.le_trans hs7 hb8.size
  clear hb8 HB7 HW7 HX7 HO7 HT7
  have HOV : Hid (Over w8 w8 w2.heap.size (.slice a3 n4 c3) (.slice a3 n4 c3) n4) := by
    have h := Over.start HO8.out
    rw [← HN.out] at h
    exact h
  go_wp2_with fail
  go_loopw [11] (fun i wr => ∃ k : Nat, k ≤ n4 ∧ i = .int .i64 (k : Int) ∧ Hid (Over w8 wr w2.heap.size (.slice a3 n4 c3) (.slice a3 n4 c3) n4)) (fun i _ => n4 - (intOf i).toNat)
  case atStart => exact ⟨0, Nat.zero_le _, rfl, HOV⟩
  case round =>
    clear HOV
    obtain ⟨k, hk, rfl, HOV⟩ := hrel
    by_cases hlt : (k : Int) < (n4 : Int)
    · obtain ⟨g3, rfl⟩ := HOV.out.some' (by omega)
      obtain ⟨⟨d, hd⟩, hf⟩ := HOV.out.cell k (by omega)
      go_wp2_with fail
      go_roundw
      case rel => exact ⟨k + 1, by omega, by go_num, HOV.out.store k 7⟩
      case measure => simp [intOf]; omega
    · go_wp2_with fail
      go_loopw [6, 12] (fun v i w2' => ∃ (j : Nat) (va : Option Addr) (vc : Nat), j ≤ 64 ∧ i = .int .i64 (j : Int) ∧ v = .slice va (n4 + j) vc ∧ Hid (Over w8 w2' w2.heap.size (.slice a3 n4 c3) (.slice va (n4 + j) vc) (n4 + j))) (fun _ i _ => 64 - (intOf i).toNat)
      case atStart => exact ⟨0, a3, c3, Nat.zero_le _, rfl, rfl, HOV⟩
      case round =>
        clear HOV
        obtain ⟨j, va, vc, hj, rfl, rfl, HOV⟩ := hrel
        by_cases hlt2 : (j : Int) < 64
        · have HOA := hide (HOV.out.alloc (.cells #[.int .u8 8] 5))
          have hsr : w2.heap.size ≤ wr.heap.size := Nat.le_trans hs8 HOV.out.2.2.size
          go_wp2_with (at_builtin; refine pushOver w8 _ rfl _ _ rfl w2.heap.size _ _ (n4 + j) rfl HOA.out ⟨wr.heap.size, 0, none⟩ 1 8 rfl (cell_one_new _ _ _ 0 _ rfl) (by omega) (by simp; omega) ?_
                       intro g5 c5 w9 hov
                       have HOV9 := hide hov
                       clear hov)
          go_roundw
          case rel => exact ⟨j + 1, _, c5, by omega, by go_num, rfl, HOV9⟩
          case measure => simp [intOf]; omega
        · obtain rfl : j = 64 := by omega
          have HW9 := hide (HOV.out.keep HW8.out (fun i e e2 => by have := HKW.out i e; have := (HK3.out i e2).1; omega))
          have HX9 := hide (HOV.out.keep HX8.out (fun i e e2 => by have h1 := blk_eq e; have h2 := HKX.out; have h3 := (HK3.out _ e2).1; omega))
          have HT9 := hide (HOV.out.keep HT8.out (fun i e e2 => by have := HK4.out i e; have := (HK3.out i e2).2; omega))
          have HB9 := hide (HOV.out.below HB8.out (fun i e => by have := (HK3.out i e).1; omega))
          have hq : (((n4 : Int) + 64) == ((n4 : Int) + 64)) = true := by simp
          clear HOV HW8 HX8 HT8 HB8 HO8
          go_wp2_with fail
          refine (sameBytes_eq _ _ _ _ _ _ B _ (Got.rd HT9.out (by have := HBL.out; omega)) (Got.rd HW9.out (by have := HBL.out; omega))).mono ?_
          rintro e w10 ⟨rfl, hb10⟩
          have HB10 := hide (below_trans HB9.out hb10)
          have HX10 := hide (HX9.out.below hb10)
          clear hb10 HB9 HX9 HT9 HW9
          go_wp2_with fail
          refine (kept_any g 0 len0 c a0 cap0 b0 w10 (Got.rd HX10.out (by rw [List.length_append, HL.out]; show len0 + 4 ≤ _; omega)) HCX.out.1 (R0.out.below HB10.out) hli).mono ?_
          rintro e w11 ⟨rfl, hb11⟩
          have HB11 := hide (below_trans HB10.out hb11)
          have HX11 := hide (HX10.out.below hb11)
          clear hb11 HB10 HX10
          go_wp2_with fail
          refine (enc_at b0 B E HBE.out _ len0 c w11 (rd_front (Got.rd HX11.out (by rw [List.length_append, HL.out]; show len0 + 4 ≤ _; omega))) (by have := HCX.out.1; omega) HCX.out.2 (by omega) (fun h => by cases h)).mono ?_
          rintro e w12 ⟨v12, rfl, _, hb12⟩
          have HB12 := hide (below_trans HB11.out hb12)
          have HX12 : Hid (Own w12 w1.heap.size (.slice (some ⟨g, 0, none⟩) len0 c) b0) := by
            have h := (HX11.out.below hb12).cut len0 (by omega)
            rw [List.take_append_of_le_length (by rw [HL.out]; exact Nat.le_refl _), List.take_of_length_le (by rw [HL.out]; exact Nat.le_refl _)] at h
            exact h
          clear hb12 HB11 HX11
          go_wp2_with fail
          refine (turned_any _ g len0 c b0 w12 HX12.out hli).mono ?_
          rintro e w13 ⟨v13, z, rfl, hz, ho13, hx13, hg13⟩
          obtain ⟨a13, n13, c13, rfl, HN13⟩ := own_named ho13
          obtain rfl : n13 = len0 := by rw [← hz]; exact HN13.out
          obtain ⟨B2, E2, hBE2⟩ : ∃ B E, encd z = (B, E) := ⟨_, _, rfl⟩
          have HBE2 := hide hBE2
          have HBL2 : Hid (B2.length ≤ 1835008) := by have := encd_len z; rw [hBE2] at this; exact this
          have he2 : (E2 == E2) = true := by simp
          have HZ := hide hz
          have HB13 : Hid (Below w.heap.size w w13) := HB12.out.grown hg13 HB12.out.size (fun i e => by cases e; exact hgw)
          have HO13 := hide ho13
          have HX13 := hide hx13
          clear hBE2 hz ho13 hx13 hg13 HB12 HX12 HN13
          go_wp2_with fail
          refine (ref_at z B2 E2 HBE2.out a13 n13 c13 w13 (Got.rd HO13.out (by rw [HZ.out]; omega)) (Got.cap HO13.out).1 HO13.out.room (by omega) (fun h => Got.nil HO13.out h)).mono ?_
          rintro e w14 ⟨v14, rfl, ho14, hb14⟩
          obtain ⟨a14, n14, c14, rfl, HN14⟩ := own_named ho14
          have HB14 := hide (below_trans HB13.out hb14)
          have HX14 := hide (HX13.out.below hb14)
          have HO14 := hide ho14
          clear hb14 ho14 HB13 HX13 HO13
          go_wp2_with fail
          refine (enc_at z B2 E2 HBE2.out _ n13 c w14 (Got.rd HX14.out (by rw [HZ.out]; omega)) (Got.cap HX14.out).1 HX14.out.room (by omega) (fun h => by cases h)).mono ?_
          rintro e w15 ⟨v15, rfl, ho15, hb15⟩
          obtain ⟨a15, n15, c15, rfl, HN15⟩ := own_named ho15
          have HB15 := hide (below_trans HB14.out hb15)
          have HO15 := hide (HO14.out.below hb15)
          have HP15 := hide ho15
          clear hb15 ho15 HB14 HX14 HO14
          go_wp2_with fail
          refine (sameBytes_eq _ _ _ _ _ _ B2 _ (Got.rd HP15.out (by have := HBL2.out; omega)) (Got.rd HO15.out (by have := HBL2.out; omega))).mono ?_
          rintro e w16 ⟨rfl, hb16⟩
          have HB16 := hide (below_trans HB15.out hb16)
          clear hb16
          go_wp2_with fail
          go_ret
          exact ⟨rfl, HB16.out⟩
end Go.Proofs.Ytckfkilpoimikaa.lzEncodes
