/-
  Files whose bits are turned or whose length changes: flipped, resized.
-/
import Derived.Test.YtbmbhcjocgbbpaaFaZeros
import Derived.Test.YtbmbhcjocgbbpaaStFlipM
import Derived.Test.YtbmbhcjocgbbpaaFaMayC
import Derived.BigRegion
import Derived.Lib.MinMax
namespace Go.Proofs.Ytbmbhcjocgbbpaa.Fa
open Go.ChangeShapes Go.WideShapes Go.ChangeAt Go.RowKit
open Go.Proofs.Ytbmbhcjocgbbpaa.Base Go.Proofs.Ytbmbhcjocgbbpaa.St
set_option linter.unusedVariables false
theorem fband32 (x y : BitVec 32) : bits .and .u32 (x.toNat : Int) (y.toNat : Int) = ((x &&& y).toNat : Int) := by
  rw [u32_and_nat _ _ (lt32 x) (lt32 y), BitVec.toNat_and]
theorem flow_bit32 (x : BitVec 32) : (x.toNat : Int) % 2 = if x.getLsbD 0 then 1 else 0 := by
  have : x.getLsbD 0 = decide (x.toNat % 2 = 1) := by
    rw [BitVec.getLsbD, Nat.testBit_zero]
  rw [this]
  by_cases h : x.toNat % 2 = 1
  · simp [h]; omega
  · simp [h]; omega
theorem fand_one32 (x : BitVec 32) : bits .and .u32 (x.toNat : Int) 1 = if x.getLsbD 0 then 1 else 0 := by
  have h := fband32 x (BitVec.ofNat 32 1)
  have e : ((BitVec.ofNat 32 1).toNat : Int) = 1 := by decide
  rw [e] at h
  rw [h, ← flow_bit32, BitVec.toNat_and]
  show ((x.toNat &&& 1 : Nat) : Int) = _
  rw [Nat.and_one_is_mod]; rfl
theorem fmask_bit (mask X : BitVec 32) (k : Nat) (h : mask >>> k = X) : bits .and .u32 (X.toNat : Int) 1 = if mask.getLsbD k then 1 else 0 := by
  rw [fand_one32, ← h, BitVec.getLsbD_ushiftRight, Nat.add_zero]
theorem fmask_mod (mask X : BitVec 32) (k : Nat) (h : mask >>> k = X) : (X.toNat : Int) % 2 = if mask.getLsbD k then 1 else 0 := by
  rw [flow_bit32, ← h, BitVec.getLsbD_ushiftRight, Nat.add_zero]
theorem fshl8 : ∀ r : Fin 8, (2 : Int) ^ r.val % 256 = ((1#8 <<< r.val).toNat : Int) := by decide
theorem fshl_at (p : Nat) : (2 : Int) ^ (p % 8) % 256 = ((1#8 <<< (p % 8)).toNat : Int) := fshl8 ⟨p % 8, Nat.mod_lt _ (by omega)⟩
theorem fbshr32 (k : Nat) (x : BitVec 32) : (x.toNat : Int) / (2 : Int) ^ k = ((x >>> k).toNat : Int) := by
  rw [BitVec.toNat_ushiftRight, Nat.shiftRight_eq_div_pow, Int.natCast_ediv, Int.natCast_pow]; rfl
theorem flip_in (bs : List (BitVec 8)) (bit k : Nat) (mask : BitVec 32) (h : mask.getLsbD k = true) (h2 : bit + k < 8 * bs.length) : flipTo bs bit mask (k + 1) = flipOne (flipTo bs bit mask k) (bit + k) := by
  show (if _ then _ else _) = _
  rw [if_pos ⟨h, h2⟩]
theorem flip_out (bs : List (BitVec 8)) (bit k : Nat) (mask : BitVec 32) (h : ¬ (mask.getLsbD k = true ∧ bit + k < 8 * bs.length)) : flipTo bs bit mask (k + 1) = flipTo bs bit mask k := by
  show (if _ then _ else _) = _
  rw [if_neg h]
theorem xor_zero8 (c : BitVec 8) : bits .xor .u8 (c.toNat : Int) 0 = (c.toNat : Int) := by
  have := bxor_u8 c 0#8
  simpa using this
theorem own_some {w : World} {base n : Nat} {v : Value} {bs : List (BitVec 8)} (h : Own w base v bs) (hl : bs.length = n) (hn : 0 < n) : ∃ g c, v = .slice (some ⟨g, 0, none⟩) n c := by
  subst hl
  rcases h.2 with ⟨_, e⟩ | ⟨g, c, cur, e, _⟩
  · omega
  · exact ⟨g, c, e⟩
/-- What a flip makes of a file. -/
def flipL (bs : List (BitVec 8)) (p : Nat) (q : BitVec 32) : List (BitVec 8) := flipTo bs (p % (8 * bs.length)) q 32
theorem set_same (bs : List (BitVec 8)) (k : Nat) : bs.set k (bs.getD k 0) = bs := by
  by_cases h : k < bs.length
  · rw [List.getD_eq_getElem?_getD, List.getElem?_eq_getElem h]; exact List.set_getElem_self h
  · rw [List.set_eq_of_length_le (by omega)]
set_option maxHeartbeats 2000000 in
set_option maxRecDepth 100000 in
theorem flipped_any (a : Option Addr) (len cap p : Nat) (q : BitVec 32) (bs : List (BitVec 8)) (w : World) (hr : Rd w a len bs) (hnil : a = none → len = 0 ∧ cap = 0) (hp : p ≤ 9223372036854775807) :
    Calls Try.prog 34 #[.slice a len cap, .int .i64 (p : Int), .int .u32 (q.toNat : Int)] w fun e w' => ∃ v, e = .returned v ∧ Own w' w.heap.size v (flipL bs p q) ∧ Below w.heap.size w w' := by
  have hl := hr.2.1
  have HL := hide hr.1
  have HR := hide hr
  have hpi : (p : Int) ≤ 9223372036854775807 := by omega
  clear hr
  go_enter Try.func34, Try.ntmps34
  go_wp2_with fail
  refine (cloneB_any a len cap bs w HR.out hnil).mono ?_
  rintro e w1 ⟨v, rfl, ho, hb⟩
  by_cases h0 : len = 0
  · subst h0
    have hb0 : bs = [] := List.length_eq_zero_iff.1 HL.out
    subst hb0
    obtain ⟨va, vc, rfl⟩ := ho.shape
    have HO := hide ho
    have HB := hide hb
    clear ho hb
    go_wp2_with fail
    go_ret
    refine ⟨_, rfl, ?_, HB.out⟩
    have e : flipL [] p q = [] := List.length_eq_zero_iff.1 (by unfold flipL; rw [flipTo_len]; rfl)
    rw [e]
    exact HO.out
  · obtain ⟨g, vc, rfl⟩ := own_some ho HL.out (by omega)
    have HG := hide ho.lt'.1
    have HO := hide ho
    have HB := hide hb
    clear ho hb
    have hp0 : 0 < len := by omega
    have hm1 : p % (8 * len) < 8 * len := Nat.mod_lt _ (by omega)
    obtain ⟨F, hF⟩ : ∃ F, p % (8 * len) = F := ⟨_, rfl⟩
    rw [hF] at hm1
    have hF1 : (p : Int) % (8 * (len : Int)) = (F : Int) := by rw [← hF, Int.natCast_emod]; rfl
    have hF2 : Int.tmod (p : Int) (8 * (len : Int)) = (F : Int) := by rw [Int.tmod_eq_emod_of_nonneg (by omega), hF1]
    have HF : Hid (flipL bs p q = flipTo bs F q 32) := by show _ = _; unfold flipL; rw [HL.out, hF]
    have hlb : (len : Int) ≤ 140737488355328 := by omega
    have hFi : (F : Int) < 8 * (len : Int) := by omega
    have hne : ((8 * (len : Int)) == 0) = false := by simp; omega
    clear hF h0 hm1
    go_wp2_with fail
    go_loopw [23] (fun i wr => ∃ k : Nat, k ≤ 32 ∧ i = .int .i64 (k : Int) ∧ Hid (Own wr w.heap.size (.slice (some ⟨g, 0, none⟩) len vc) (flipTo bs F q k)) ∧ Hid (Below w.heap.size w wr)) (fun i _ => 32 - (intOf i).toNat)
    case atStart => exact ⟨0, Nat.zero_le _, rfl, HO.out, HB.out⟩
    case round =>
      obtain ⟨k, hk, rfl, HO1, HB1⟩ := hrel
      by_cases hlt : k < 32
      · have hki : (k : Int) < 32 := by omega
        obtain ⟨t, ht⟩ : ∃ t : Nat, (F : Int) + (k : Int) = (t : Int) := ⟨F + k, by omega⟩
        have hti : (t : Int) ≤ 1125899906842656 := by omega
        by_cases hin : t < 8 * len
        · have hini : (t : Int) < 8 * (len : Int) := by omega
          have h8 : (t : Int) / 8 < (len : Int) := by omega
          have g1 := HO1.out.cell (t / 8) (by omega)
          have f1 := HO1.out.frozen (t / 8)
          obtain ⟨c, hc⟩ : ∃ c, (flipTo bs F q k).getD (t / 8) 0 = c := ⟨_, rfl⟩
          rw [hc] at g1
          obtain ⟨X, hX⟩ : ∃ X, q >>> k = X := ⟨_, rfl⟩
          have m1 : (q.toNat : Int) / (2 : Int) ^ k = (X.toNat : Int) := by rw [fbshr32, hX]
          by_cases hm : q.getLsbD k = true
          · have m2 : bits .and .u32 (X.toNat : Int) 1 = 1 := by rw [fmask_bit q X k hX, if_pos hm]
            clear hX
            obtain ⟨Y, hY⟩ : ∃ Y, 1#8 <<< (t % 8) = Y := ⟨_, rfl⟩
            have y1 : (2 : Int) ^ (t % 8) % 256 = (Y.toNat : Int) := by rw [fshl_at, hY]
            have y2 := bxor_u8 c Y
            obtain ⟨Z, hZ⟩ : ∃ Z, c ^^^ Y = Z := ⟨_, rfl⟩
            rw [hZ] at y2
            have HZ : Hid ((flipTo bs F q k).set (t / 8) Z = flipTo bs F q (k + 1)) := by
              show _ = _
              obtain rfl : t = F + k := by omega
              rw [flip_in bs F k q hm (by rw [HL.out]; exact hin), ← hZ, ← hc, ← hY]; rfl
            clear hZ hY hc
            go_wp2_with fail
            go_region
            go_wp2_with fail
            go_roundw
            case rel =>
              have h9 := HO1.out.store (t / 8) Z
              rw [HZ.out] at h9
              exact ⟨k + 1, by omega, by go_num, h9.1.below ((Below.refl _ _).drew), below_trans (grown_below HB1.out h9.2 HG.out) ((Below.refl _ _).drew)⟩
            case measure => simp [intOf]; omega
          · have m2 : bits .and .u32 (X.toNat : Int) 1 = 0 := by rw [fmask_bit q X k hX, if_neg hm]
            clear hX
            have y2 := xor_zero8 c
            have HZ : Hid ((flipTo bs F q k).set (t / 8) c = flipTo bs F q (k + 1)) := by
              show _ = _
              rw [flip_out bs F k q (fun h => hm h.1), ← hc]
              exact set_same _ _
            clear hc
            go_wp2_with fail
            go_region
            go_wp2_with fail
            go_roundw
            case rel =>
              have h9 := HO1.out.store (t / 8) c
              rw [HZ.out] at h9
              exact ⟨k + 1, by omega, by go_num, h9.1.below ((Below.refl _ _).drew), below_trans (grown_below HB1.out h9.2 HG.out) ((Below.refl _ _).drew)⟩
            case measure => simp [intOf]; omega
        · have hini : ¬ (t : Int) < 8 * (len : Int) := by omega
          go_wp2_with fail
          go_roundw
          case rel => exact ⟨k + 1, by omega, by go_num, by rw [flip_out bs F k q (fun h => by have h1 := h.2; rw [HL.out] at h1; omega)]; exact HO1.out, HB1.out⟩
          case measure => simp [intOf]; omega
      · have hki : ¬ (k : Int) < 32 := by omega
        obtain rfl : k = 32 := by omega
        go_wp2_with fail
        go_ret
        exact ⟨_, rfl, by rw [HF.out]; exact HO1.out, HB1.out⟩
end Go.Proofs.Ytbmbhcjocgbbpaa.Fa
