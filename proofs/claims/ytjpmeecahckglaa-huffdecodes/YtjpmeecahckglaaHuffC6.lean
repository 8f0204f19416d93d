/-
  The document's Kraft and Codes, at any lengths.
-/
import Derived.Test.YtjpmeecahckglaaHuffC5m
namespace Go.Proofs.Ytjpmeecahckglaa.Huff
open Go.ChangeShapes Go.WideShapes Go.ChangeAt Go.RowKit
open Go.Proofs.Ytjpmeecahckglaa.Base
set_option linter.unusedVariables false
/-- The sum of 2^(15 - l) over the first k that have a word. -/
def kraft (ls : List Int) : Nat → Nat
  | 0 => 0
  | k + 1 => kraft ls k + if ls.getD k 0 = 0 then 0 else 2 ^ (15 - (ls.getD k 0).toNat)
def sumW (f : Nat → Nat) : Nat → Nat
  | 0 => 0
  | l + 1 => sumW f l + f l
theorem sumW_zero (f : Nat → Nat) (h : ∀ j, f j = 0) : ∀ l, sumW f l = 0 := by
  intro l
  induction l with
  | zero => rfl
  | succ l ih => simp only [sumW, ih, h]
theorem sumW_add (f f' : Nat → Nat) (q d : Nat) (h : ∀ j, f' j = f j + if j = q then d else 0) : ∀ l, sumW f' l = sumW f l + if q < l then d else 0 := by
  intro l
  induction l with
  | zero => rfl
  | succ l ih =>
    simp only [sumW, ih, h]
    by_cases e : l = q
    · subst e
      rw [if_neg (by omega), if_pos rfl, if_pos (by omega)]; omega
    · rw [if_neg e]
      by_cases e2 : q < l
      · rw [if_pos e2, if_pos (by omega)]; omega
      · rw [if_neg e2, if_neg (by omega)]; omega
theorem kraft_sum (ls : List Int) (hin : allIn 15 ls = true) : ∀ k, k ≤ ls.length → kraft ls k = sumW (fun j => cntW ls k j * 2 ^ (15 - j)) 16 := by
  intro k
  induction k with
  | zero => intro _; symm; apply sumW_zero; intro j; unfold cntW; split <;> simp [cnt]
  | succ k ih =>
    intro hk
    have hx := allIn_get hin k (by omega)
    simp only [kraft]
    rw [ih (by omega)]
    obtain ⟨q, hq⟩ : ∃ q : Nat, ls.getD k 0 = (q : Int) := ⟨(ls.getD k 0).toNat, by omega⟩
    rw [hq] at hx ⊢
    by_cases h0 : q = 0
    · subst h0
      rw [if_pos (by rfl), Nat.add_zero]
      congr 1
      funext j
      congr 1
      unfold cntW
      split
      · rfl
      · simp only [cnt]; rw [hq, if_neg (by omega)]; rfl
    · rw [if_neg (by omega), Int.toNat_natCast]
      rw [sumW_add (fun j => cntW ls k j * 2 ^ (15 - j)) (fun j => cntW ls (k + 1) j * 2 ^ (15 - j)) q (2 ^ (15 - q)) ?_ 16, if_pos (by omega)]
      intro j
      unfold cntW
      by_cases e : j = q
      · subst e
        rw [if_neg h0, if_neg h0, if_pos rfl]
        simp only [cnt]
        rw [hq, if_pos rfl, Nat.add_mul, Nat.one_mul]
      · rw [if_neg e]
        split
        · rfl
        · simp only [cnt]; rw [hq, if_neg (by omega)]; rfl
theorem first_sum (ls : List Int) : ∀ l, l ≤ 15 → first ls l * 2 ^ (15 - l) = sumW (fun j => cntW ls ls.length j * 2 ^ (15 - j)) l := by
  intro l
  induction l with
  | zero => intro _; simp [first, sumW]
  | succ l ih =>
    intro h
    simp only [first, sumW]
    rw [← ih (by omega), show 15 - l = (15 - (l + 1)) + 1 by omega, Nat.pow_succ]
    generalize 2 ^ (15 - (l + 1)) = p
    rw [← Nat.add_mul, Nat.mul_comm 2, Nat.mul_assoc, Nat.mul_comm 2]
theorem kraft_last (ls : List Int) (hin : allIn 15 ls = true) : kraft ls ls.length = last ls := by
  rw [kraft_sum ls hin ls.length (Nat.le_refl _)]
  unfold last
  have h := first_sum ls 15 (Nat.le_refl _)
  rw [show (15 - 15 : Nat) = 0 by rfl, Nat.pow_zero, Nat.mul_one] at h
  rw [h]
  simp only [sumW]
  rw [show (15 - 15 : Nat) = 0 by rfl, Nat.pow_zero, Nat.mul_one]
theorem kraft_le (ls : List Int) : ∀ k, kraft ls k ≤ 32768 * k := by
  intro k
  induction k with
  | zero => simp [kraft]
  | succ k ih =>
    simp only [kraft]
    split
    · omega
    · have : 2 ^ (15 - (ls.getD k 0).toNat) ≤ 2 ^ 15 := Nat.pow_le_pow_right (by decide) (by omega)
      omega
set_option maxHeartbeats 1000000 in
set_option maxRecDepth 100000 in
theorem kraft_any (a : Option Addr) (len cap : Nat) (ls : List Int) (w : World) (hr : RdI w a len ls) (hl : len ≤ 256) (hin : allIn 15 ls = true) :
    Calls Try.prog 50 #[.slice a len cap] w fun e w' => e = .returned (.int .i64 (kraft ls len : Int)) ∧ Below w.heap.size w w' := by
  have HL := hide hr.1
  have HCN := hide hr.2.2
  have HIN := hide (fun k h => allIn_get hin k h)
  clear hr hin
  go_enter Try.func50, Try.ntmps50
  go_wp2_with fail
  go_loopw [3, 4] (fun s i wr => ∃ (k S : Nat), k ≤ len ∧ i = .int .i64 (k : Int) ∧ s = .int .i64 (S : Int) ∧ Hid (S = kraft ls k) ∧ Hid (Below w.heap.size w wr)) (fun _ i _ => len - (intOf i).toNat)
  case atStart => exact ⟨0, 0, Nat.zero_le _, rfl, rfl, rfl, Below.refl _ _⟩
  case round =>
    obtain ⟨k, S, hk, rfl, rfl, HS, HB⟩ := hrel
    by_cases hlt : k < len
    · obtain ⟨b1, o1, rfl, hb1, hc1⟩ := unhide HCN (by omega)
      have g1 := hc1 k hlt
      have hx := HIN.out k (by have := HL.out; omega)
      rw [← HB.out.cell (p := ⟨b1, o1 + k, none⟩) hb1] at g1
      clear hc1
      have hki : (k : Int) < (len : Int) := by omega
      have hSb : S ≤ 8388608 := by have := kraft_le ls k; have := HS.out; omega
      have HK : Hid (kraft ls (k + 1) = kraft ls k + if ls.getD k 0 = 0 then 0 else 2 ^ (15 - (ls.getD k 0).toNat)) := rfl
      obtain ⟨x, hxe⟩ : ∃ x, ls.getD k 0 = x := ⟨_, rfl⟩
      rw [hxe] at g1 hx HK
      by_cases hp : 0 < x
      · obtain ⟨q, hq⟩ : ∃ q : Nat, x = (q : Int) := ⟨x.toNat, by omega⟩
        subst hq
        rw [if_neg (by omega), Int.toNat_natCast] at HK
        have hq0 : 0 < (q : Int) := hp
        have hq1 : (q : Int) ≤ 15 := by omega
        have hSi : (S : Int) ≤ 8388608 := by omega
        clear hxe hx hp
        have hP : ∃ P : Nat, 2 ^ (15 - q) = P ∧ P ≤ 32768 := ⟨_, rfl, Nat.le_trans (Nat.pow_le_pow_right (by decide) (by omega)) (show 2 ^ 15 ≤ 32768 by decide)⟩
        obtain ⟨P, hP1, hP2⟩ := hP
        have HP : Hid ((2 : Int) ^ (15 - q) = (P : Int)) := by show _ = _; rw [← hP1]; simp
        rw [hP1] at HK
        clear hP1
        go_wp2_with fail
        go_roundw
        case rel => exact ⟨k + 1, S + P, by omega, by go_num, val_int (by rw [HP.out]; unfold wrap64; omega), by show _ = _; rw [HK.out, HS.out], HB⟩
        case measure => simp [intOf]; omega
      · obtain rfl : x = 0 := by omega
        rw [if_pos rfl, Nat.add_zero] at HK
        clear hxe hx hp
        go_wp2_with fail
        go_roundw
        case rel => exact ⟨k + 1, S, by omega, by go_num, rfl, HS.out.trans HK.out.symm, HB⟩
        case measure => simp [intOf]; omega
    · obtain rfl : k = len := by omega
      go_wp2_with fail
      go_ret
      exact ⟨by rw [HS.out]; rfl, HB.out⟩
end Go.Proofs.Ytjpmeecahckglaa.Huff
