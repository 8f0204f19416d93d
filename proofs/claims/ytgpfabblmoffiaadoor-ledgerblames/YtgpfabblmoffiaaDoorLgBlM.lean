/-
  A book with a reduce task held may be, too; what Blame answers, by cases.
-/
import Derived.Test.YtgpfabblmoffiaaDoorLgO
namespace Go.Proofs.YtgpfabblmoffiaaDoor.Lg
open Go.ChangeShapes Go.WideShapes Go.ChangeAt Go.RowKit
open Go.Proofs.YtgpfabblmoffiaaDoor.Base Go.Proofs.YtgpfabblmoffiaaDoor.Rf
set_option linter.unusedVariables false
theorem cnt_none {t : Int} {L : List TS} (h : ∀ k, k < L.length → (L.getD k z0).c < t) : cnt t L = 0 := by
  unfold cnt
  rw [List.countP_eq_zero]
  intro x hx
  obtain ⟨k, hk, rfl⟩ := List.getElem_of_mem hx
  have := h k hk
  rw [List.getD_eq_getElem?_getD, List.getElem?_eq_getElem hk] at this
  simp only [Option.getD_some] at this
  simp only [decide_eq_true_eq]
  omega
theorem ok_mk {b : Bk} (h1 : b.m.length ≤ 256) (h2 : 1 ≤ b.r.length) (h3 : b.r.length ≤ 65535) (h4 : 1 ≤ b.t) (h5 : b.t ≤ 16) (gm : ∀ k, k < b.m.length → good false b.t (b.m.getD k z0) = true) (gr : ∀ k, k < b.r.length → good true b.t (b.r.getD k z0) = true) (bm : ∀ k, k < b.m.length → (b.m.getD k z0).c < b.t) (br : ∀ k, k < b.r.length → (b.r.getD k z0).c < b.t) (hf : b.f = false) : Ok b := by
  have h0 : full b = 0 := by unfold full; rw [cnt_none bm, cnt_none br]
  exact ⟨h1, h2, h3, h4, h5, gm, gr, by omega, by rw [hf, h0]; simp⟩
theorem hld_ok {b : Bk} {i : Int} (hok : Ok b) (hf : b.f = false) (hth : thr b 1 i = true) (hs : (tsk b 1 i).s = 1) : Ok (hld b i) ∧ (hld b i).f = false ∧ (hld b i).t = b.t ∧ (hld b i).m = b.m ∧ (hld b i).r = b.r.set i.toNat ⟨2, (tsk b 1 i).a, (tsk b 1 i).c⟩ := by
  obtain ⟨h0i, hlt, hkk⟩ := thr_kind hth
  have hl : lst b 1 = b.r := by unfold lst; rw [if_neg (by omega), if_pos rfl]
  rw [hl] at hlt
  have hg := tsk_good hok hth
  have hb := tsk_below hok hf hth
  have hbe := hok.below hf
  have hm : (hld b i).m = b.m := by simp [hld, put]
  have hr : (hld b i).r = b.r.set i.toNat ⟨2, (tsk b 1 i).a, (tsk b 1 i).c⟩ := by simp [hld, put]
  have ht : (hld b i).t = b.t := rfl
  have hff : (hld b i).f = false := hf
  have hgi := good_iff.1 hg
  refine ⟨ok_mk (by rw [hm]; exact hok.m) (by rw [hr, List.length_set]; exact hok.r1) (by rw [hr, List.length_set]; exact hok.r2) (by rw [ht]; exact hok.t1) (by rw [ht]; exact hok.t2) (by rw [hm, ht]; exact hok.gm) ?_ (by rw [hm, ht]; exact hbe.1) ?_ hff, hff, ht, hm, hr⟩
  · rw [hr, ht, List.length_set]
    intro k hk
    rw [get_set b.r i.toNat k _ hlt]
    by_cases e : k = i.toNat
    · rw [if_pos e, good_iff]
      refine ⟨hgi.1, hgi.2.1, .inr ⟨.inr (.inl ⟨rfl, rfl⟩), ?_, hb⟩⟩
      show (tsk b 1 i).a = (tsk b 1 i).c + 1
      rcases hgi.2.2 with h | h
      · omega
      · exact h.2.1
    · rw [if_neg e]; exact hok.gr k hk
  · rw [hr, ht, List.length_set]
    intro k hk
    rw [get_set b.r i.toNat k _ hlt]
    by_cases e : k = i.toNat
    · rw [if_pos e]; exact hb
    · rw [if_neg e]; exact hbe.2 k hk
theorem thrN_two (b : Bk) (i j : Int) : thrN b (fun k => if k = 0 then (1, i) else (0, j)) 2 = (thr b 1 i && thr b 0 j) := by simp [thrN, List.range_succ]
theorem blmE_book {b : Bk} {i j n : Int} (h : chk b = false) : blmE b i j n = 190 := by unfold blmE; rw [if_pos h]
theorem blmE_task {b : Bk} {i j n : Int} (h : chk b = true) (h2 : (thr b 1 i && thr b 0 j) = false) : blmE b i j n = 191 := by
  unfold blmE
  rw [if_neg (by rw [h]; simp), if_pos (Bool.and_eq_false_iff.1 h2)]
theorem blmE_arg {b : Bk} {i j n : Int} (h : chk b = true) (h2 : (thr b 1 i && thr b 0 j) = true) (h3 : n < 1 ∨ (tsk b 0 j).a < n) : blmE b i j n = 3 := by
  rw [Bool.and_eq_true] at h2
  unfold blmE
  rw [if_neg (by rw [h]; simp), if_neg (by rw [h2.1, h2.2]; simp), if_pos h3]
theorem blmE_state {b : Bk} {i j n : Int} (h : chk b = true) (h2 : (thr b 1 i && thr b 0 j) = true) (h3 : ¬ (n < 1 ∨ (tsk b 0 j).a < n)) (h4 : b.f = true ∨ (tsk b 1 i).s ≠ 1) : blmE b i j n = 192 := by
  rw [Bool.and_eq_true] at h2
  unfold blmE
  rw [if_neg (by rw [h]; simp), if_neg (by rw [h2.1, h2.2]; simp), if_neg h3, if_pos h4]
theorem blmE_ok {b : Bk} {i j n : Int} (h : chk b = true) (h2 : (thr b 1 i && thr b 0 j) = true) (h3 : ¬ (n < 1 ∨ (tsk b 0 j).a < n)) (h4 : ¬ (b.f = true ∨ (tsk b 1 i).s ≠ 1)) : blmE b i j n = 0 := by
  rw [Bool.and_eq_true] at h2
  unfold blmE
  rw [if_neg (by rw [h]; simp), if_neg (by rw [h2.1, h2.2]; simp), if_neg h3, if_neg h4]
theorem blm_no {b : Bk} {i j n : Int} (h : blmE b i j n ≠ 0) : blmB b i j n = nob ∧ blmC b i j n = false := by
  unfold blmB blmC
  exact ⟨if_neg h, decide_eq_false (fun e => h e.1)⟩
end Go.Proofs.YtgpfabblmoffiaaDoor.Lg
