/-
  The statements' own helpers: bent, all; what joins of built filters are.
-/
import Derived.Test.YtmndjgmlndpgaaaDoorFiRoundM
import Derived.Test.YtmndjgmlndpgaaaDoorFiWorks
namespace Go.Proofs.YtmndjgmlndpgaaaDoor.Filt
open Go.ChangeShapes Go.WideShapes Go.ChangeAt Go.RowKit
open Go.Proofs.YtmndjgmlndpgaaaDoor.Base hiding hide unhide lt8
set_option linter.unusedVariables false
/-- What Has says of a filter. -/
def hasW (f : Fw) (s : ByteArray) : Bool := hasF f.all f.hashes f.data s
theorem built_ok (ss : List ByteArray) (b : Int) (h0 : 0 ≤ b) (h1 : b ≤ 16) : (builtF ss b).2 = 0 ∧ (builtF ss b).1.kind ≠ 3 ∧ ∀ s ∈ ss, hasW (builtF ss b).1 s = true := by
  unfold builtF
  rw [if_neg (by omega)]
  by_cases hl : ss.length = 0
  · rw [if_pos hl]
    have hs := List.length_eq_zero_iff.1 hl
    subst hs
    exact ⟨rfl, by decide, fun s h => absurd h List.not_mem_nil⟩
  · rw [if_neg hl]
    by_cases hb : b = 0 ∨ 65536 < ss.length
    · rw [if_pos hb]
      refine ⟨rfl, by decide, fun s _ => ?_⟩
      show hasF true 0 [] s = true
      unfold hasF
      rw [show kindN true 0 ([] : List (BitVec 8)).length = 1 by decide]
      rfl
    · rw [if_neg hb]
      have hh := hashesOf_le b.toNat
      have hp := bytesOfK_pos (ss.length * b.toNat)
      have hlen : (laidBits ss (hashesOf b.toNat) (List.replicate (bytesOfK (ss.length * b.toNat)) 0)).length = bytesOfK (ss.length * b.toNat) := by rw [laidBits_len, List.length_replicate]
      have hk : (⟨false, (hashesOf b.toNat : Nat), laidBits ss (hashesOf b.toNat) (List.replicate (bytesOfK (ss.length * b.toNat)) 0)⟩ : Fw).kind = 2 := kind_of_two (by omega) (by omega) (by rw [hlen]; omega) (by rw [hlen]; omega)
      refine ⟨rfl, by show Fw.kind _ ≠ 3; rw [hk]; omega, fun s hs => ?_⟩
      show hasF false ((hashesOf b.toNat : Nat) : Int) (laidBits ss (hashesOf b.toNat) (List.replicate (bytesOfK (ss.length * b.toNat)) 0)) s = true
      unfold hasF
      have hk' : kindN false ((hashesOf b.toNat : Nat) : Int) (laidBits ss (hashesOf b.toNat) (List.replicate (bytesOfK (ss.length * b.toNat)) 0)).length = 2 := hk
      rw [hk', if_neg (by omega), if_pos rfl, Int.toNat_natCast]
      exact laid_has ss _ _ (by rw [List.length_replicate]; exact hp.1) s hs
theorem enc_ok (f : Fw) (h : f.kind ≠ 3) : (encF f).2 = 0 := by
  rcases kind_cases f with rfl | rfl | h2 | h3
  · rfl
  · rfl
  · unfold encF
    rw [if_neg (by rw [h2]; omega), if_neg (by rw [h2]; omega), if_pos h2]
  · exact absurd h3 h
theorem joined_comm (f g : Fw) : joined f g = joined g f := by
  unfold joined
  by_cases h3 : f.kind = 3 ∨ g.kind = 3
  · rw [if_pos h3, if_pos h3.symm]
  · have h3' : ¬ (g.kind = 3 ∨ f.kind = 3) := fun h => h3 h.symm
    rw [if_neg h3, if_neg h3']
    by_cases h1 : f.kind = 1 ∨ g.kind = 1
    · rw [if_pos h1, if_pos h1.symm]
    · have h1' : ¬ (g.kind = 1 ∨ f.kind = 1) := fun h => h1 h.symm
      rw [if_neg h1, if_neg h1']
      by_cases hf : f.kind = 0
      · rw [if_pos hf]
        by_cases hg : g.kind = 0
        · rw [if_pos hg]
          have e1 := fw_zero (A := f.all) (H := f.hashes) (xs := f.data) hf
          have e2 := fw_zero (A := g.all) (H := g.hashes) (xs := g.data) hg
          have e3 : f = g := by
            obtain ⟨fa, fh, fd⟩ := f
            obtain ⟨ga, gh, gd⟩ := g
            simp only at e1 e2
            rw [e1, e2]
          rw [e3]
        · rw [if_neg hg, if_pos hf]
      · rw [if_neg hf]
        by_cases hg : g.kind = 0
        · rw [if_pos hg, if_pos hg]
        · rw [if_neg hg, if_neg hg, if_neg hf]
          by_cases hne : f.hashes ≠ g.hashes ∨ f.data.length ≠ g.data.length
          · rw [if_pos hne, if_pos (by rcases hne with h | h; exact .inl (Ne.symm h); exact .inr (Ne.symm h))]
          · have e1 : f.hashes = g.hashes := by by_cases h : f.hashes = g.hashes; exact h; exact absurd (.inl h) hne
            have e2 : f.data.length = g.data.length := by by_cases h : f.data.length = g.data.length; exact h; exact absurd (.inr h) hne
            rw [if_neg hne, if_neg (by rw [e1, e2]; simp), e1, orZip_comm _ _ e2]
theorem joined_err (f g : Fw) (hf : f.kind ≠ 3) (hg : g.kind ≠ 3) : (joined f g).2 = 0 ∨ (joined f g).2 = 3 := by
  unfold joined
  rw [if_neg (by rintro (h | h); exact hf h; exact hg h)]
  repeat' split
  all_goals first | exact .inl rfl | exact .inr rfl
theorem kind_two {f : Fw} (h3 : f.kind ≠ 3) (h1 : f.kind ≠ 1) (h0 : f.kind ≠ 0) : f.kind = 2 := by
  rcases kind_cases f with rfl | rfl | h | h
  · exact absurd (by decide) h0
  · exact absurd (by decide) h1
  · exact h
  · exact absurd h h3
theorem joined_has (f g : Fw) (hf : f.kind ≠ 3) (hg : g.kind ≠ 3) (he : (joined f g).2 = 0) (s : ByteArray) (hs : hasW f s = true) : hasW (joined f g).1 s = true := by
  unfold joined at he ⊢
  rw [if_neg (by rintro (h | h); exact hf h; exact hg h)] at he ⊢
  by_cases h1 : f.kind = 1 ∨ g.kind = 1
  · rw [if_pos h1]
    show hasF true 0 [] s = true
    unfold hasF
    rw [show kindN true 0 ([] : List (BitVec 8)).length = 1 by decide]
    rfl
  · rw [if_neg h1] at he ⊢
    by_cases hf0 : f.kind = 0
    · exfalso
      have e1 := fw_zero (A := f.all) (H := f.hashes) (xs := f.data) hf0
      obtain ⟨fa, fh, fd⟩ := f
      simp only at e1
      rw [e1] at hs
      have : hasW ⟨false, 0, []⟩ s = false := has_none s
      rw [this] at hs
      cases hs
    · rw [if_neg hf0] at he ⊢
      by_cases hg0 : g.kind = 0
      · rw [if_pos hg0]; exact hs
      · rw [if_neg hg0] at he ⊢
        by_cases hne : f.hashes ≠ g.hashes ∨ f.data.length ≠ g.data.length
        · rw [if_pos hne] at he; exact absurd he (by decide)
        · rw [if_neg hne]
          have k2 := kind_two hf (fun h => h1 (.inl h)) hf0
          obtain ⟨g1, g2, g3, g4, g5⟩ := fw_two k2
          have e2 : f.data.length = g.data.length := by by_cases h : f.data.length = g.data.length; exact h; exact absurd (.inr h) hne
          show hasF false f.hashes (orZip f.data g.data) s = true
          have hs2 : hasF false f.hashes f.data s = true := by unfold hasW at hs; rw [g1] at hs; exact hs
          have hk : kindN false f.hashes f.data.length = 2 := by unfold Fw.kind at k2; rw [g1] at k2; exact k2
          unfold hasF at hs2 ⊢
          rw [hk, if_neg (by omega), if_pos rfl] at hs2
          rw [orZip_len _ _ e2, hk, if_neg (by omega), if_pos rfl]
          exact or_has_left _ _ e2 (by omega) s _ hs2
theorem joined_self (f : Fw) (hf : f.kind ≠ 3) : joined f f = (f, 0) := by
  unfold joined
  rw [if_neg (by rintro (h | h) <;> exact hf h)]
  rcases kind_cases f with rfl | rfl | h | h
  · rfl
  · rfl
  · obtain ⟨g1, _⟩ := fw_two h
    rw [if_neg (by rw [h]; omega), if_neg (by rw [h]; omega), if_neg (by rw [h]; omega), if_neg (by simp), orZip_self]
    obtain ⟨fa, fh, fd⟩ := f
    simp only at g1
    rw [g1]
  · exact absurd h hf
end Go.Proofs.YtmndjgmlndpgaaaDoor.Filt
