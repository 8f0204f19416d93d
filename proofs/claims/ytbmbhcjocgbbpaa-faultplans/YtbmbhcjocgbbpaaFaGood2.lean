/-
  Whether an entry may be: the document's good, whole.
-/
import Derived.Test.YtbmbhcjocgbbpaaFaGood
namespace Go.Proofs.Ytbmbhcjocgbbpaa.Fa
open Go.ChangeShapes Go.WideShapes Go.ChangeAt Go.RowKit
open Go.Proofs.Ytbmbhcjocgbbpaa.Base
set_option linter.unusedVariables false
theorem may_eq (f : Flt) : may f = (decide (1 ≤ f.a ∧ f.a ≤ 16) && ((decide (f.k = 0) && stopB f) || (decide (f.k = 1) && (damB f && isPl f.p && isOd f.q)) || (decide (f.k = 2) && (damB f && isCh f.p && isNk f.q)))) := rfl
theorem stopB_t {f : Flt} (h : stopB f = true) : 0 ≤ f.t := by
  simp [stopB, isTk, isMp, isRd] at h
  omega
theorem damB_t {f : Flt} (h : damB f = true) : 0 ≤ f.t := by
  simp [damB, isMp] at h
  omega
theorem may_neg (f : Flt) (h : f.t < 0 ∨ f.a < 1 ∨ 16 < f.a) : may f = false := by
  rw [may_eq]
  rcases h with h | h
  · have h1 : stopB f = false := bool_ff (fun e => by have := stopB_t e; omega)
    have h2 : damB f = false := bool_ff (fun e => by have := damB_t e; omega)
    rw [h1, h2]
    simp
  · rw [decide_eq_false (by omega)]; rfl
set_option maxHeartbeats 1000000 in
set_option maxRecDepth 100000 in
theorem good_in (k j t a m r p : Int) (q : BitVec 32) (w : World) (h0 : 0 ≤ t) (h1 : 1 ≤ a) (h2 : a ≤ 16) :
    Calls Try.prog 37 #[Flt.val ⟨k, j, t, a, m, r, p, q⟩] w fun e w' => e = .returned (.bool (may ⟨k, j, t, a, m, r, p, q⟩)) ∧ Below w.heap.size w w' := by
  have HM : Hid (may ⟨k, j, t, a, m, r, p, q⟩ = ((decide (k = 0) && stopB ⟨k, j, t, a, m, r, p, q⟩) || (decide (k = 1) && (damB ⟨k, j, t, a, m, r, p, q⟩ && isPl p && decide (q.toNat % 2 = 1))) || (decide (k = 2) && (damB ⟨k, j, t, a, m, r, p, q⟩ && isCh p && decide (q.toNat = 0))))) := by
    show _ = _; rw [may_eq]; simp only; rw [decide_eq_true ⟨h1, h2⟩]; rfl
  have HS := hide (fun W => stop_any ⟨k, j, t, a, m, r, p, q⟩ W h0)
  have HD := hide (fun W => damage_any ⟨k, j, t, a, m, r, p, q⟩ W h0)
  have hq := q.isLt
  unfold Flt.val at HS HD ⊢
  simp only at HS HD ⊢
  generalize may ⟨k, j, t, a, m, r, p, q⟩ = b at HM ⊢
  generalize stopB ⟨k, j, t, a, m, r, p, q⟩ = S at HM HS
  generalize damB ⟨k, j, t, a, m, r, p, q⟩ = D at HM HD
  generalize q.toNat = n at HM HS HD hq ⊢
  have hn : n ≤ 4294967295 := by omega
  clear hq q
  by_cases e0 : k = 0
  · subst e0
    go_enter Try.func37, Try.ntmps37
    go_wp2_with fail
    refine (HS.out _).mono ?_
    rintro e w1 ⟨rfl, hb1⟩
    have HB := hide hb1
    clear hb1
    go_wp2_with fail
    go_ret
    exact ⟨ret_bool (by rw [HM.out]; simp), below_trans (ba (b0 _) _) HB.out⟩
  · have e0' : (k == 0) = false := by simpa using e0
    by_cases e1 : k = 1
    · subst e1
      go_enter Try.func37, Try.ntmps37
      go_wp2_with fail
      refine (HD.out _).mono ?_
      rintro e w1 ⟨rfl, hb1⟩
      have HB := hide hb1
      obtain ⟨hc, hf⟩ := bcell hb1
      clear hb1
      cases D
      · go_wp2_with fail
        go_ret
        exact ⟨ret_bool (by rw [HM.out]; simp), below_trans (ba (b0 _) _) HB.out⟩
      · go_wp2_with fail
        all_goals (go_ret; refine ⟨ret_bool ?_, below_trans (ba (b0 _) _) HB.out⟩; rw [HM.out, Bool.eq_iff_iff]; simp [isPl]; (first | done | omega))
    · have e1' : (k == 1) = false := by simpa using e1
      by_cases e2 : k = 2
      · subst e2
        go_enter Try.func37, Try.ntmps37
        go_wp2_with fail
        refine (HD.out _).mono ?_
        rintro e w1 ⟨rfl, hb1⟩
        have HB := hide hb1
        obtain ⟨hc, hf⟩ := bcell hb1
        clear hb1
        cases D
        · go_wp2_with fail
          go_ret
          exact ⟨ret_bool (by rw [HM.out]; simp), below_trans (ba (b0 _) _) HB.out⟩
        · go_wp2_with fail
          all_goals (go_ret; refine ⟨ret_bool ?_, below_trans (ba (b0 _) _) HB.out⟩; rw [HM.out, Bool.eq_iff_iff]; simp [isCh]; (first | done | omega))
      · have e2' : (k == 2) = false := by simpa using e2
        go_enter Try.func37, Try.ntmps37
        go_wp2_with fail
        go_ret
        exact ⟨ret_bool (by rw [HM.out]; simp [e0, e1, e2]), ba (b0 _) _⟩
set_option maxHeartbeats 1000000 in
set_option maxRecDepth 100000 in
theorem good_any (f : Flt) (w : World) :
    Calls Try.prog 37 #[f.val] w fun e w' => e = .returned (.bool (may f)) ∧ Below w.heap.size w w' := by
  by_cases h : f.t < 0 ∨ f.a < 1 ∨ 16 < f.a
  · rw [may_neg f h]
    obtain ⟨k, j, t, a, m, r, p, q⟩ := f
    unfold Flt.val
    simp only at h ⊢
    have H := hide h
    clear h
    by_cases h0 : t < 0
    · go_enter Try.func37, Try.ntmps37
      go_wp2_with fail
      go_ret
      exact ⟨rfl, ba (b0 _) _⟩
    · have h1 : a < 1 ∨ 16 < a := by have := H.out; omega
      clear H
      rcases h1 with h1 | h1
      · go_enter Try.func37, Try.ntmps37
        go_wp2_with fail
        go_ret
        exact ⟨rfl, ba (b0 _) _⟩
      · have h2 : 1 ≤ a := by omega
        go_enter Try.func37, Try.ntmps37
        go_wp2_with fail
        go_ret
        exact ⟨rfl, ba (b0 _) _⟩
  · obtain ⟨k, j, t, a, m, r, p, q⟩ := f
    simp only at h
    exact good_in k j t a m r p q w (by omega) (by omega) (by omega)
end Go.Proofs.Ytbmbhcjocgbbpaa.Fa
