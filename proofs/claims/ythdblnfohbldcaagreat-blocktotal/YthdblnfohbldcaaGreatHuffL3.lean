/-
  Lengths that are taken, symbol by symbol.
-/
import Derived.Test.YthdblnfohbldcaaGreatHuffL2
namespace Go.Proofs.YthdblnfohbldcaaGreat.Pm
open Go.Proofs.YthdblnfohbldcaaGreat.Base
set_option linter.unusedVariables false
theorem rank_of {cs : List Int} {s : Nat} (h1 : s < cs.length) (h2 : 0 < cs.getD s 0) : ∃ r, r < (orderOf cs).length ∧ (orderOf cs).getD r 0 = s := by
  have hm := (ordered_mem (orderOf_ok cs) s).2 ⟨h1, h2⟩
  obtain ⟨r, hr, he⟩ := List.getElem_of_mem hm
  exact ⟨r, hr, by rw [List.getD_eq_getElem?_getD, List.getElem?_eq_getElem hr]; exact he⟩
theorem rank_in {cs : List Int} {r : Nat} (h : r < (orderOf cs).length) : (orderOf cs).getD r 0 < cs.length ∧ 0 < cs.getD ((orderOf cs).getD r 0) 0 := by
  refine (ordered_mem (orderOf_ok cs) _).1 ?_
  rw [List.getD_eq_getElem?_getD, List.getElem?_eq_getElem h]; exact List.getElem_mem _
theorem tally_none {cs : List Int} (hl : cs.length ≤ 256) {s : Nat} (h1 : s < cs.length) (h2 : ¬ 0 < cs.getD s 0) (top : Nat) : tally (takenBy cs top) s = 0 := by
  have h0 : tally (thingsOf cs (orderOf cs)) s = 0 := by
    rw [things_tally cs s (by omega)]
    exact List.count_eq_zero_of_not_mem (fun hm => h2 ((ordered_mem (orderOf_ok cs) s).1 hm).2)
  unfold takenBy takenOf
  split
  · exact h0
  · have h3 := row_tally (things_wide cs (orderOf cs)) s (top - 1)
    rw [h0, Nat.mul_zero] at h3
    have h4 := tally_take_le s (row (thingsOf cs (orderOf cs)) (top - 1)) (2 * (thingsOf cs (orderOf cs)).length - 2)
    unfold cut
    omega
theorem wt_things (cs : List Int) (os : List Nat) (r : Nat) (h : r < os.length) : wt (thingsOf cs os) r = (cs.getD (os.getD r 0) 0).toNat := by
  unfold wt thingsOf
  rw [List.getD_eq_getElem?_getD, List.getElem?_map, List.getElem?_eq_getElem h, List.getD_eq_getElem?_getD (l := os), List.getElem?_eq_getElem h]; rfl
structure Lens (cs : List Int) (top : Nat) : Prop where
  each : ∀ s, s < cs.length → 0 ≤ (lensBy cs top).getD s 0 ∧ (lensBy cs top).getD s 0 ≤ top ∧ (0 < (lensBy cs top).getD s 0 ↔ 0 < cs.getD s 0)
  all : Huff.allIn 15 (lensBy cs top) = true
  right : kraftTo (lensBy cs top) cs.length ≤ 32768
  whole : 2 ≤ (orderOf cs).length → kraftTo (lensBy cs top) cs.length = 32768
  one : (orderOf cs).length < 2 → kraftTo (lensBy cs top) cs.length = (orderOf cs).length * 16384
  down : ∀ s t, s < cs.length → t < cs.length → cs.getD t 0 < cs.getD s 0 → 0 < cs.getD t 0 → (lensBy cs top).getD s 0 ≤ (lensBy cs top).getD t 0
  least : ∀ mine : List Int, (∀ s, s < cs.length → (0 < cs.getD s 0 → 1 ≤ mine.getD s 0 ∧ mine.getD s 0 ≤ top) ∧ (¬ 0 < cs.getD s 0 → mine.getD s 0 = 0)) → mine.length = cs.length → kraftTo mine cs.length ≤ 32768 → Huff.sumTo cs (lensBy cs top) cs.length ≤ Huff.sumTo cs mine cs.length
theorem kraft_rank {cs xs : List Int} {top : Nat} (h15 : top ≤ 15) (hx : xs.length = cs.length) (f : Nat → Nat) (hp : ∀ r, r < (orderOf cs).length → xs.getD ((orderOf cs).getD r 0) 0 = (f r : Int) ∧ 0 < f r ∧ f r ≤ top) (h0 : ∀ s, s < cs.length → ¬ 0 < cs.getD s 0 → xs.getD s 0 = 0) :
    kraftTo xs cs.length = 2 ^ (15 - top) * sumTo (orderOf cs).length (fun r => 2 ^ (top - f r)) := by
  rw [kraft_nat xs cs.length (by omega), sum_syms (orderOf_ok cs) _ (fun s h1 h2 => by rw [h0 s h1 h2, share_zero]), ← sumTo_mul]
  refine sumTo_congr fun r hr => ?_
  obtain ⟨e1, e2, e3⟩ := hp r hr
  rw [e1, share_nat _ e2 (by omega), pow_split top (f r) e3 h15]
theorem lens_ok (cs : List Int) (hl : cs.length ≤ 256) (hc : Huff.allIn 1099511627776 cs = true) (top : Nat) (h1 : 1 ≤ top) (h15 : top ≤ 15) (hn : (orderOf cs).length ≤ 2 ^ top) : Lens cs top := by
  have F := fine cs hl top h1 hn
  have hin := fun s h => Huff.allIn_get hc s h
  have p15 : 2 ^ (15 - top) * 2 ^ top = 32768 := by rw [← Nat.pow_add, show 15 - top + top = 15 by omega]
  have each : ∀ s, s < cs.length → 0 ≤ (lensBy cs top).getD s 0 ∧ (lensBy cs top).getD s 0 ≤ top ∧ (0 < (lensBy cs top).getD s 0 ↔ 0 < cs.getD s 0) := by
    intro s hs
    rw [lensBy_get cs top s hs]
    by_cases hp : 0 < cs.getD s 0
    · obtain ⟨r, hr, rfl⟩ := rank_of hs hp
      have a1 := F.pos r hr
      have a2 := F.le r hr
      refine ⟨by omega, by omega, ⟨fun _ => hp, fun _ => by omega⟩⟩
    · rw [tally_none hl hs hp]
      exact ⟨by simp, by omega, ⟨fun h => by simp at h, fun h => absurd h hp⟩⟩
  have hk : kraftTo (lensBy cs top) cs.length = 2 ^ (15 - top) * sumTo (orderOf cs).length (fun r => 2 ^ (top - tally (takenBy cs top) ((orderOf cs).getD r 0))) :=
    kraft_rank h15 (lensBy_len cs top) _ (fun r hr => ⟨lensBy_get cs top _ (rank_in hr).1, F.pos r hr, F.le r hr⟩) (fun s h2 h3 => by rw [lensBy_get cs top s h2, tally_none hl h2 h3]; rfl)
  have whole : 2 ≤ (orderOf cs).length → kraftTo (lensBy cs top) cs.length = 32768 := fun h => by rw [hk, F.whole h, p15]
  have one : (orderOf cs).length < 2 → kraftTo (lensBy cs top) cs.length = (orderOf cs).length * 16384 := by
    intro h
    have e : takenBy cs top = thingsOf cs (orderOf cs) := by unfold takenBy takenOf; rw [if_pos (by rw [things_len]; exact h)]
    have T := things_ok (orderOf_ok cs) hl
    have hone : ∀ r, r < (orderOf cs).length → tally (takenBy cs top) ((orderOf cs).getD r 0) = 1 := by
      intro r hr
      have := T.one (thingsOf cs (orderOf cs)).length r (Nat.le_refl _) (by rw [things_len]; exact hr)
      rw [List.take_length, if_pos (by rw [things_len]; exact hr)] at this
      rw [e]; exact this
    rw [hk, sumTo_congr (g := fun _ => 2 ^ (top - 1)) (fun r hr => by rw [hone r hr]), sumTo_one, Nat.mul_left_comm, ← Nat.pow_add, show 15 - top + (top - 1) = 14 by omega]
  refine ⟨each, ?_, ?_, whole, one, ?_, ?_⟩
  · unfold Huff.allIn
    rw [List.all_eq_true]
    intro x hx
    obtain ⟨s, hs, rfl⟩ := List.getElem_of_mem hx
    have hs' : s < cs.length := by rwa [lensBy_len] at hs
    have := each s hs'
    rw [List.getD_eq_getElem?_getD, List.getElem?_eq_getElem hs] at this
    simp only [Option.getD_some] at this
    rw [decide_eq_true_iff]; omega
  · by_cases h : 2 ≤ (orderOf cs).length
    · rw [whole h]; omega
    · rw [one (by omega)]; omega
  · intro s t hs ht hlt hpt
    obtain ⟨r, hr, er⟩ := rank_of hs (by omega)
    obtain ⟨q, hq, eq⟩ := rank_of ht hpt
    rw [lensBy_get cs top s hs, lensBy_get cs top t ht, ← er, ← eq]
    have hrq : q ≤ r := Nat.le_of_not_lt fun hlt2 => by
      have hp := (orderOf_ok cs).2
      have := List.pairwise_iff_getElem.1 hp r q hr hq hlt2
      unfold aheadOf at this
      rw [List.getD_eq_getElem?_getD, List.getElem?_eq_getElem hr] at er
      rw [List.getD_eq_getElem?_getD, List.getElem?_eq_getElem hq] at eq
      simp only [Option.getD_some] at er eq
      rw [er, eq] at this
      omega
    have := F.down q r hrq hr
    omega
  · intro mine hm hml hkm
    have hpos : ∀ r, r < (orderOf cs).length → mine.getD ((orderOf cs).getD r 0) 0 = (((mine.getD ((orderOf cs).getD r 0) 0).toNat : Nat) : Int) ∧ 0 < (mine.getD ((orderOf cs).getD r 0) 0).toNat ∧ (mine.getD ((orderOf cs).getD r 0) 0).toNat ≤ top := by
      intro r hr
      obtain ⟨a1, a2⟩ := rank_in hr
      obtain ⟨b1, b2⟩ := (hm _ a1).1 a2
      omega
    rw [kraft_rank h15 hml (fun r => (mine.getD ((orderOf cs).getD r 0) 0).toNat) hpos (fun s h2 h3 => (hm s h2).2 h3)] at hkm
    have hs : sumTo (orderOf cs).length (fun r => 2 ^ (top - (mine.getD ((orderOf cs).getD r 0) 0).toNat)) ≤ 2 ^ top := by
      rw [← p15] at hkm
      exact Nat.le_of_mul_le_mul_left hkm (Nat.two_pow_pos _)
    have hlst := F.least (fun r => (mine.getD ((orderOf cs).getD r 0) 0).toNat) (fun r hr => ⟨(hpos r hr).2.1, (hpos r hr).2.2⟩) hs
    rw [cost_nat cs (lensBy cs top) (fun s => (cs.getD s 0).toNat) (fun s => tally (takenBy cs top) s) cs.length (fun s h2 => ⟨by have := (hin s h2).1; omega, lensBy_get cs top s h2⟩),
      cost_nat cs mine (fun s => (cs.getD s 0).toNat) (fun s => (mine.getD s 0).toNat) cs.length (fun s h2 => ⟨by have := (hin s h2).1; omega, by
        by_cases hp : 0 < cs.getD s 0
        · have := (hm s h2).1 hp; omega
        · have := (hm s h2).2 hp; omega⟩),
      sum_syms (orderOf_ok cs) (fun s => (cs.getD s 0).toNat * tally (takenBy cs top) s) (fun s h2 h3 => by rw [show (cs.getD s 0).toNat = 0 by omega, Nat.zero_mul]),
      sum_syms (orderOf_ok cs) (fun s => (cs.getD s 0).toNat * (mine.getD s 0).toNat) (fun s h2 h3 => by rw [show (cs.getD s 0).toNat = 0 by omega, Nat.zero_mul])]
    have e1 : sumTo (orderOf cs).length (fun r => wt (thingsOf cs (orderOf cs)) r * tally (takenBy cs top) ((orderOf cs).getD r 0)) = sumTo (orderOf cs).length (fun r => (cs.getD ((orderOf cs).getD r 0) 0).toNat * tally (takenBy cs top) ((orderOf cs).getD r 0)) := sumTo_congr fun r hr => by rw [wt_things cs _ r hr]
    have e2 : sumTo (orderOf cs).length (fun r => wt (thingsOf cs (orderOf cs)) r * (mine.getD ((orderOf cs).getD r 0) 0).toNat) = sumTo (orderOf cs).length (fun r => (cs.getD ((orderOf cs).getD r 0) 0).toNat * (mine.getD ((orderOf cs).getD r 0) 0).toNat) := sumTo_congr fun r hr => by rw [wt_things cs _ r hr]
    rw [← e1, ← e2]
    exact Int.ofNat_le.2 hlst
end Go.Proofs.YthdblnfohbldcaaGreat.Pm
