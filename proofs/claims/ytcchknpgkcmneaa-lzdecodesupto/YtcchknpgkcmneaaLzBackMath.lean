/-
  What a text's own tokens take, and that no other length is read.
-/
import Derived.Test.YtcchknpgkcmneaaLzWorks
import Derived.Test.YtcchknpgkcmneaaLzTotalMath
namespace Go.Proofs.Ytcchknpgkcmneaa.Lz
open Go.ChangeShapes Go.WideShapes Go.ChangeAt Go.RowKit
open Go.Proofs.Ytcchknpgkcmneaa.Base Go.Proofs.Ytcchknpgkcmneaa.Nums
set_option linter.unusedVariables false
theorem put_len1 (u : Nat) (h : u < 128) : (put u).length = 1 := by rw [put_small u h]; rfl
theorem put_len2 (u : Nat) (h : u < 16384) : (put u).length ≤ 2 := by
  by_cases h1 : u < 128
  · rw [put_small u h1]; simp
  · rw [put_large u (by omega), put_small _ (by omega)]; simp
theorem put_len3 (u : Nat) (h : u < 2097152) : (put u).length ≤ 3 := by
  by_cases h1 : u < 128
  · rw [put_small u h1]; simp
  · rw [put_large u (by omega), List.length_cons]
    have := put_len2 (u / 128) (by omega)
    omega
/-- A match that pays saves two bytes. -/
theorem match_saves (lit : Txt) (d l : Nat) (h1 : 4 ≤ l) (h2 : l ≤ 259) (h3 : 3 + (put d).length ≤ l) (hd : d ≤ 32768) : (putTok ⟨lit, (d : Int), (l : Int)⟩).length + 2 ≤ (put lit.length).length + lit.length + l := by
  rw [putTok_match _ (not_bare _ (by simp only; omega))]
  simp only [List.length_append, Int.toNat_natCast]
  by_cases h : l ≤ 131
  · have := put_len1 ((l : Int) - 4).toNat (by omega)
    omega
  · have e1 := put_len2 ((l : Int) - 4).toNat (by omega)
    have e2 := put_len3 d (by omega)
    omega
theorem own_bytes (x : Txt) (hx : x.length ≤ 65536) : ∀ n i frm, x.length - i ≤ n → frm ≤ i → i ≤ x.length →
    ((bytesOf (ownFrom x i frm)).length ≤ (x.length - frm) + 2 + (x.length - frm + 4) / 16388) ∧ (x.length ≤ 127 → (bytesOf (ownFrom x i frm)).length ≤ (x.length - frm) + 1) := by
  intro n
  induction n with
  | zero =>
    intro i frm h1 h2 h3
    rw [own_end x i frm (by omega)]
    split
    · rename_i hf
      rw [bytesOf_cons, putTok_bare _ ⟨rfl, rfl⟩]
      simp only [List.length_append, List.length_drop]
      have e0 : (bytesOf []).length = 0 := rfl
      rw [e0]
      refine ⟨?_, fun hs => ?_⟩
      · by_cases hb : x.length - frm < 16384
        · have := put_len2 (x.length - frm) hb; omega
        · have := put_len3 (x.length - frm) (by omega); omega
      · have := put_len1 (x.length - frm) (by omega); omega
    · have e0 : (bytesOf []).length = 0 := rfl
      rw [e0]; exact ⟨by omega, fun _ => by omega⟩
  | succ n ih =>
    intro i frm h1 h2 h3
    by_cases hi : i < x.length
    · by_cases hb : 0 < (best x i).2
      · rw [own_match x i frm hi hb]
        rcases best_fits x i with e | ⟨f1, f2, f3, f4, f5, f6, f7, f8⟩
        · rw [e] at hb; simp at hb
        · obtain ⟨g1, g2⟩ := ih (i + (best x i).2) (i + (best x i).2) (by omega) (Nat.le_refl _) (by omega)
          have hlit : ((x.drop frm).take (i - frm)).length = i - frm := by rw [List.length_take, List.length_drop]; omega
          have hs := match_saves ((x.drop frm).take (i - frm)) (best x i).1 (best x i).2 f4 f5 f7 f2
          rw [hlit] at hs
          rw [bytesOf_cons, List.length_append]
          refine ⟨?_, fun hx' => ?_⟩
          · by_cases hbig : i - frm < 16384
            · have := put_len2 (i - frm) hbig; omega
            · have := put_len3 (i - frm) (by omega); omega
          · have := put_len1 (i - frm) (by omega)
            have := g2 hx'
            omega
      · rw [own_skip x i frm hi hb]
        exact ih (i + 1) frm (by omega) (by omega) (by omega)
    · have hn : x.length - i ≤ n := by omega
      exact ih i frm hn h2 h3
/-- What is encoded keeps within the bound. -/
theorem own_bound (x : Txt) (hx : x.length ≤ 65536) : ((bytesOf (ownFrom x 0 0)).length : Int) ≤ bound (x.length : Int) := by
  by_cases h0 : x.length = 0
  · have : x = [] := List.length_eq_zero_iff.1 h0
    subst this
    rw [own_end _ 0 0 (by simp)]
    simp [bytesOf, bound]
  · obtain ⟨h1, h2⟩ := own_bytes x hx x.length 0 0 (by omega) (Nat.le_refl _) (Nat.zero_le _)
    by_cases h3 : x.length < 128
    · rw [bound_one _ (by omega) (by omega)]
      have := h2 (by omega); omega
    · by_cases h4 : x.length < 16384
      · rw [bound_two _ (by omega) (by omega)]; omega
      · rw [bound_five _ (by omega) (by omega)]; omega
theorem expanded_good (ts : List Tok) (n : Nat) (hn : n ≤ 65536) (h : Good ts 0 n) : expanded ts = (expand [] ts, 0) := by
  unfold expanded; rw [good_measure ts 0 n hn h]; rfl
/-- With another length nothing is read. -/
theorem dec_other (x : Txt) (hx : x.length ≤ 65536) (other : Int) (ho : other ≠ (x.length : Int)) : (decoded (bytesOf (ownFrom x 0 0)) other).2 = 30 ∨ (decoded (bytesOf (ownFrom x 0 0)) other).2 = 3 := by
  rcases dec_cases (bytesOf (ownFrom x 0 0)) other with ⟨_, hd, _⟩ | ⟨m, rfl, hm, hd, _⟩ | ⟨m, ts, rfl, hm, hrd, _, _⟩
  · rw [hd]; exact .inr rfl
  · rw [hd]; exact .inl rfl
  · exfalso
    obtain ⟨h1, _⟩ := own_good x hx x.length 0 0 (by omega) (Nat.le_refl _) (Nat.zero_le _)
    obtain ⟨g1, g2⟩ := read_ok _ _ 0 m ts (Nat.le_refl _) (Nat.zero_le _) hm hrd
    have := good_one (ownFrom x 0 0) ts 0 x.length m hx hm h1 g1 g2
    omega
theorem enc_tok (x : Txt) (hx : x.length ≤ 65536) : toked (bytesOf (ownFrom x 0 0)) (x.length : Int) = (ownFrom x 0 0, 0) := by
  obtain ⟨h1, h2⟩ := enc_read x hx
  unfold toked
  rw [if_neg (by omega), Int.toNat_natCast, h1]
  rfl
end Go.Proofs.Ytcchknpgkcmneaa.Lz
