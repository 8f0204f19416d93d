/-
  The document's own answer: the token that stands at a place of bytes.
-/
import Derived.Test.YtcchknpgkcmneaaLzR10
namespace Go.Proofs.Ytcchknpgkcmneaa.Lz
open Go.Proofs.Ytcchknpgkcmneaa.Base Go.Proofs.Ytcchknpgkcmneaa.Nums
set_option linter.unusedVariables false
theorem number_get {b : List (BitVec 8)} {u k : Nat} (most : Int) (h : get b = (u, k, 0)) : number b most = if most < (u : Int) then (0, 0) else (u, k) := by
  unfold number
  rw [h]
  by_cases hm : most < (u : Int)
  · rw [if_pos (.inr hm), if_pos hm]
  · rw [if_neg (by simp; omega), if_neg hm]
theorem number_bad {b : List (BitVec 8)} (most : Int) (h : (get b).2.2 ≠ 0) : number b most = (0, 0) := by
  unfold number
  rw [if_pos (.inl h)]
theorem refNum_get {bs : List (BitVec 8)} {p u k : Nat} (h : get (bs.drop p) = (u, k, 0)) : refNum bs p = if 65536 < u then (-1, p) else ((u : Int), p + k) := by
  unfold refNum
  rw [h]
  by_cases hu : 65536 < u
  · rw [if_pos (.inr hu), if_pos hu]
  · rw [if_neg (by simp; omega), if_neg hu]
theorem refNum_bad {bs : List (BitVec 8)} {p : Nat} (h : (get (bs.drop p)).2.2 ≠ 0) : refNum bs p = (-1, p) := by
  unfold refNum
  rw [if_pos (.inl h)]
/-- The document's reading of one token. -/
def refTok (bs : List (BitVec 8)) (p h n : Nat) : Option (Tok × Nat) :=
  if (refNum bs p).1 < 0 ∨ (bs.length : Int) - (refNum bs p).2 < (refNum bs p).1 ∨ (n : Int) < h + (refNum bs p).1 then none
  else if (h : Int) + (refNum bs p).1 = n then some (⟨(bs.drop (refNum bs p).2).take (refNum bs p).1.toNat, 0, 0⟩, (refNum bs p).2 + (refNum bs p).1.toNat)
  else if (refNum bs ((refNum bs p).2 + (refNum bs p).1.toNat)).1 < 0 then none
  else if (refNum bs (refNum bs ((refNum bs p).2 + (refNum bs p).1.toNat)).2).1 < 0 ∨ (n : Int) < h + (refNum bs p).1 + (refNum bs ((refNum bs p).2 + (refNum bs p).1.toNat)).1 + 4 then none
  else if (refNum bs ((refNum bs p).2 + (refNum bs p).1.toNat)).1 + 4 ≤ 259 ∧ 1 ≤ (refNum bs (refNum bs ((refNum bs p).2 + (refNum bs p).1.toNat)).2).1 ∧ (refNum bs (refNum bs ((refNum bs p).2 + (refNum bs p).1.toNat)).2).1 ≤ 32768 ∧ (refNum bs (refNum bs ((refNum bs p).2 + (refNum bs p).1.toNat)).2).1 ≤ h + (refNum bs p).1
    then some (⟨(bs.drop (refNum bs p).2).take (refNum bs p).1.toNat, (refNum bs (refNum bs ((refNum bs p).2 + (refNum bs p).1.toNat)).2).1, (refNum bs ((refNum bs p).2 + (refNum bs p).1.toNat)).1 + 4⟩, (refNum bs (refNum bs ((refNum bs p).2 + (refNum bs p).1.toNat)).2).2)
  else none
theorem get_good (b : List (BitVec 8)) : (get b).2.2 ≠ 0 ∨ ∃ u k, get b = (u, k, 0) ∧ 1 ≤ k ∧ k ≤ b.length := by
  rcases get_cases b with ⟨u, m, g1, g2, _, g4, _⟩ | ⟨g1, _⟩ | ⟨g1, _⟩
  · exact .inr ⟨u, m, g1, g2, g4⟩
  · left; rw [g1]; simp
  · left; rw [g1]; simp
section
variable {b : List (BitVec 8)} {h n u k : Nat}
theorem firstA (e : number b ((n : Int) - h) = (0, 0)) : first b h n = none := by
  unfold first; rw [e]; exact if_pos (.inl rfl)
theorem firstB (e : number b ((n : Int) - h) = (u, k)) (h1 : b.length - k < u) : first b h n = none := by
  unfold first; rw [e]; exact if_pos (.inr h1)
theorem firstC (e : number b ((n : Int) - h) = (u, k)) (hk : 1 ≤ k) (h1 : u ≤ b.length - k) (h2 : h + u = n) : first b h n = some (⟨(b.drop k).take u, 0, 0⟩, k + u) := by
  unfold first; rw [e]; exact (if_neg (by rintro (h3 | h3) <;> simp only at h3 <;> omega)).trans (if_pos h2)
theorem firstD (e : number b ((n : Int) - h) = (u, k)) (hk : 1 ≤ k) (h1 : u ≤ b.length - k) (h2 : h + u ≠ n) (e2 : number (b.drop (k + u)) (min 259 ((n : Int) - (h + u)) - 4) = (0, 0)) : first b h n = none := by
  unfold first; rw [e]; simp only; rw [e2]; exact (if_neg (by rintro (h3 | h3) <;> omega)).trans ((if_neg h2).trans (if_pos rfl))
theorem firstE {m k2 : Nat} (e : number b ((n : Int) - h) = (u, k)) (hk : 1 ≤ k) (h1 : u ≤ b.length - k) (h2 : h + u ≠ n) (e2 : number (b.drop (k + u)) (min 259 ((n : Int) - (h + u)) - 4) = (m, k2)) (hk2 : 1 ≤ k2) {d k3 : Nat} (e3 : number (b.drop (k + u + k2)) (min 32768 ((h : Int) + u)) = (d, k3)) (h3 : k3 = 0 ∨ d = 0) : first b h n = none := by
  unfold first; rw [e]; simp only; rw [e2]; simp only; rw [e3]
  exact (if_neg (by rintro (h3 | h3) <;> omega)).trans ((if_neg h2).trans ((if_neg (by first | omega | (simp only; omega))).trans (if_pos h3)))
theorem firstF {m k2 : Nat} (e : number b ((n : Int) - h) = (u, k)) (hk : 1 ≤ k) (h1 : u ≤ b.length - k) (h2 : h + u ≠ n) (e2 : number (b.drop (k + u)) (min 259 ((n : Int) - (h + u)) - 4) = (m, k2)) (hk2 : 1 ≤ k2) {d k3 : Nat} (e3 : number (b.drop (k + u + k2)) (min 32768 ((h : Int) + u)) = (d, k3)) (h3 : ¬ (k3 = 0 ∨ d = 0)) :
    first b h n = some (⟨(b.drop k).take u, (d : Int), (m : Int) + 4⟩, k + u + k2 + k3) := by
  unfold first; rw [e]; simp only; rw [e2]; simp only; rw [e3]
  exact (if_neg (by rintro (h3 | h3) <;> omega)).trans ((if_neg h2).trans ((if_neg (by first | omega | (simp only; omega))).trans (if_neg h3)))
end
section
variable {bs : List (BitVec 8)} {p h n u k : Nat}
theorem refTok1 (e : refNum bs p = (-1, p)) : refTok bs p h n = none := by
  unfold refTok; rw [e]; exact if_pos (.inl (show (-1 : Int) < 0 by decide))
theorem refTok2 (e : refNum bs p = ((u : Int), p + k)) (h1 : (bs.length : Int) - ((p + k : Nat) : Int) < (u : Int) ∨ (n : Int) < (h : Int) + (u : Int)) : refTok bs p h n = none := by
  unfold refTok; rw [e]; exact if_pos (.inr h1)
theorem refTok3 (e : refNum bs p = ((u : Int), p + k)) (h1 : p + k + u ≤ bs.length) (h2 : h + u = n) : refTok bs p h n = some (⟨(bs.drop (p + k)).take u, 0, 0⟩, p + k + u) := by
  unfold refTok; rw [e]; simp only [Int.toNat_natCast]
  exact (if_neg (by rintro (h3 | h3 | h3) <;> omega)).trans (if_pos (by omega))
theorem refTok4 (e : refNum bs p = ((u : Int), p + k)) (h1 : p + k + u ≤ bs.length) (h2 : h + u < n) (e2 : refNum bs (p + k + u) = (-1, p + k + u)) : refTok bs p h n = none := by
  unfold refTok; rw [e]; simp only [Int.toNat_natCast]; rw [e2]
  exact (if_neg (by rintro (h3 | h3 | h3) <;> omega)).trans ((if_neg (by omega)).trans (if_pos (show (-1 : Int) < 0 by decide)))
theorem refTok5 {m k2 : Nat} (e : refNum bs p = ((u : Int), p + k)) (h1 : p + k + u ≤ bs.length) (h2 : h + u < n) (e2 : refNum bs (p + k + u) = ((m : Int), p + k + u + k2)) (h3 : (refNum bs (p + k + u + k2)).1 < 0 ∨ n < h + u + m + 4) : refTok bs p h n = none := by
  unfold refTok; rw [e]; simp only [Int.toNat_natCast]; rw [e2]; simp only
  exact (if_neg (by rintro (h3 | h3 | h3) <;> omega)).trans ((if_neg (by omega)).trans ((if_neg (by omega)).trans (if_pos (by rcases h3 with h3 | h3; exact .inl h3; right; omega))))
theorem refTok6 {m k2 d k3 : Nat} (e : refNum bs p = ((u : Int), p + k)) (h1 : p + k + u ≤ bs.length) (h2 : h + u < n) (e2 : refNum bs (p + k + u) = ((m : Int), p + k + u + k2)) (e3 : refNum bs (p + k + u + k2) = ((d : Int), p + k + u + k2 + k3)) (h3 : h + u + m + 4 ≤ n) (h4 : (m : Int) + 4 ≤ 259 ∧ 1 ≤ (d : Int) ∧ (d : Int) ≤ 32768 ∧ (d : Int) ≤ (h : Int) + (u : Int)) :
    refTok bs p h n = some (⟨(bs.drop (p + k)).take u, (d : Int), (m : Int) + 4⟩, p + k + u + k2 + k3) := by
  unfold refTok; rw [e]; simp only [Int.toNat_natCast]; rw [e2]; simp only; rw [e3]; simp only
  exact (if_neg (by rintro (h3 | h3 | h3) <;> omega)).trans ((if_neg (by omega)).trans ((if_neg (by omega)).trans ((if_neg (by rintro (h3 | h3) <;> omega)).trans (if_pos h4))))
theorem refTok7 {m k2 d k3 : Nat} (e : refNum bs p = ((u : Int), p + k)) (h1 : p + k + u ≤ bs.length) (h2 : h + u < n) (e2 : refNum bs (p + k + u) = ((m : Int), p + k + u + k2)) (e3 : refNum bs (p + k + u + k2) = ((d : Int), p + k + u + k2 + k3)) (h3 : h + u + m + 4 ≤ n) (h4 : ¬ ((m : Int) + 4 ≤ 259 ∧ 1 ≤ (d : Int) ∧ (d : Int) ≤ 32768 ∧ (d : Int) ≤ (h : Int) + (u : Int))) : refTok bs p h n = none := by
  unfold refTok; rw [e]; simp only [Int.toNat_natCast]; rw [e2]; simp only; rw [e3]; simp only
  exact (if_neg (by rintro (h3 | h3 | h3) <;> omega)).trans ((if_neg (by omega)).trans ((if_neg (by omega)).trans ((if_neg (by rintro (h3 | h3) <;> omega)).trans (if_neg h4))))
end
theorem first_ref (bs : List (BitVec 8)) (p h n : Nat) (hp : p ≤ bs.length) (hh : h < n) (hn : n ≤ 65536) : refTok bs p h n = (first (bs.drop p) h n).map fun r => (r.1, p + r.2) := by
  have hl : (bs.drop p).length = bs.length - p := List.length_drop
  rcases get_good (bs.drop p) with g | ⟨u, k, g, k1, k2⟩
  · rw [firstA (number_bad _ g), refTok1 (refNum_bad g)]; rfl
  · rw [hl] at k2
    by_cases hu : (n : Int) - h < (u : Int)
    · rw [firstA ((number_get _ g).trans (if_pos hu))]
      by_cases hu2 : 65536 < u
      · rw [refTok1 ((refNum_get g).trans (if_pos hu2))]; rfl
      · rw [refTok2 ((refNum_get g).trans (if_neg hu2)) (.inr (by omega))]; rfl
    · have e := (number_get ((n : Int) - h) g).trans (if_neg hu)
      have r := (refNum_get g).trans (if_neg (by omega : ¬ 65536 < u))
      by_cases h1 : bs.length - p - k < u
      · rw [firstB e (by rw [hl]; exact h1), refTok2 r (.inl (by omega))]; rfl
      · by_cases h2 : h + u = n
        · rw [firstC e k1 (by rw [hl]; omega) h2, refTok3 r (by omega) h2]
          simp [List.drop_drop, Nat.add_assoc]
        · have hd1 : (bs.drop p).drop (k + u) = bs.drop (p + k + u) := by rw [List.drop_drop, Nat.add_assoc]
          rcases get_good (bs.drop (p + k + u)) with g2 | ⟨m, k3, g2, k4, k5⟩
          · rw [firstD e k1 (by rw [hl]; omega) h2 (by rw [hd1]; exact number_bad _ g2), refTok4 r (by omega) (by omega) (refNum_bad g2)]; rfl
          · rw [List.length_drop] at k5
            by_cases hm2 : 65536 < m
            · rw [firstD e k1 (by rw [hl]; omega) h2 (by rw [hd1]; exact (number_get _ g2).trans (if_pos (by omega))), refTok4 r (by omega) (by omega) ((refNum_get g2).trans (if_pos hm2))]; rfl
            · have r2 := (refNum_get g2).trans (if_neg hm2)
              by_cases hm : min 259 ((n : Int) - (h + u)) - 4 < (m : Int)
              · rw [firstD e k1 (by rw [hl]; omega) h2 (by rw [hd1]; exact (number_get _ g2).trans (if_pos hm))]
                by_cases hm3 : n < h + u + m + 4
                · rw [refTok5 r (by omega) (by omega) r2 (.inr hm3)]; rfl
                · rcases get_good (bs.drop (p + k + u + k3)) with g3 | ⟨d, k6, g3, k7, k8⟩
                  · rw [refTok5 r (by omega) (by omega) r2 (.inl (by rw [refNum_bad g3]; show (-1 : Int) < 0; decide))]; rfl
                  · by_cases hd3 : 65536 < d
                    · rw [refTok5 r (by omega) (by omega) r2 (.inl (by rw [refNum_get g3, if_pos hd3]; show (-1 : Int) < 0; decide))]; rfl
                    · rw [refTok7 r (by omega) (by omega) r2 ((refNum_get g3).trans (if_neg hd3)) (by omega) (by omega)]; rfl
              · have e2 : number ((bs.drop p).drop (k + u)) (min 259 ((n : Int) - (h + u)) - 4) = (m, k3) := by rw [hd1]; exact (number_get _ g2).trans (if_neg hm)
                have hd2 : (bs.drop p).drop (k + u + k3) = bs.drop (p + k + u + k3) := by rw [List.drop_drop]; congr 1; omega
                rcases get_good (bs.drop (p + k + u + k3)) with g3 | ⟨d, k6, g3, k7, k8⟩
                · rw [firstE e k1 (by rw [hl]; omega) h2 e2 k4 (by rw [hd2]; exact number_bad _ g3) (.inl rfl), refTok5 r (by omega) (by omega) r2 (.inl (by rw [refNum_bad g3]; show (-1 : Int) < 0; decide))]; rfl
                · by_cases hdd : min 32768 ((h : Int) + u) < (d : Int)
                  · rw [firstE e k1 (by rw [hl]; omega) h2 e2 k4 (by rw [hd2]; exact (number_get _ g3).trans (if_pos hdd)) (.inl rfl)]
                    by_cases hd3 : 65536 < d
                    · rw [refTok5 r (by omega) (by omega) r2 (.inl (by rw [refNum_get g3, if_pos hd3]; show (-1 : Int) < 0; decide))]; rfl
                    · rw [refTok7 r (by omega) (by omega) r2 ((refNum_get g3).trans (if_neg hd3)) (by omega) (by omega)]; rfl
                  · have e3 : number ((bs.drop p).drop (k + u + k3)) (min 32768 ((h : Int) + u)) = (d, k6) := by rw [hd2]; exact (number_get _ g3).trans (if_neg hdd)
                    have r3 := (refNum_get g3).trans (if_neg (by omega : ¬ 65536 < d))
                    by_cases hd4 : d = 0
                    · rw [firstE e k1 (by rw [hl]; omega) h2 e2 k4 e3 (.inr hd4), refTok7 r (by omega) (by omega) r2 r3 (by omega) (by omega)]; rfl
                    · rw [firstF e k1 (by rw [hl]; omega) h2 e2 k4 e3 (by omega), refTok6 r (by omega) (by omega) r2 r3 (by omega) (by omega)]
                      simp [List.drop_drop, Nat.add_assoc]
end Go.Proofs.Ytcchknpgkcmneaa.Lz
