/-
  Whether an entry may be: mayBe, and the document's good.
-/
import Derived.Test.YtbmbhcjocgbbpaaFaMay
import Derived.Laws.EntriesVeiled
namespace Go.Proofs.Ytbmbhcjocgbbpaa.Fa
open Go.ChangeShapes Go.WideShapes Go.ChangeAt Go.RowKit
open Go.Proofs.Ytbmbhcjocgbbpaa.Base
set_option linter.unusedVariables false
theorem bool_ff {b : Bool} (h : ¬ b = true) : b = false := by simpa using h
theorem ba {w w' : World} (h : Below w.heap.size w w') (o : Obj) : Below w.heap.size w (w'.alloc o) := h.alloc h.size o
theorem b0 (w : World) : Below w.heap.size w w := Below.refl _ _

set_option maxHeartbeats 1000000 in
set_option maxRecDepth 100000 in
theorem mayBe_row (k j t a m r p : Int) (q : BitVec 32) (w : World) (hk : k = 0 ∨ k = 1 ∨ k = 2) (h1 : 1 ≤ a) (h2 : a ≤ 16) :
    Calls Try.prog 33 #[.agg #[.int .i64 k, .int .i64 j, .int .i64 t, .int .i64 a, .int .i64 m, .int .i64 r, .int .i64 p, .int .u32 (q.toNat : Int)]] w fun e w' => e = .returned (.bool (may ⟨k, j, t, a, m, r, p, q⟩)) ∧ Below w.heap.size w w' := by
  rcases hk with rfl | rfl | rfl
  · go_enter Try.func33, Try.ntmps33
    go_wp2_with fail
    refine (isTask_any j t _).mono ?_
    rintro e w1 ⟨rfl, rfl⟩
    by_cases c1 : isTk j t = true
    rotate_left
    · have C1 : Hid (isTk j t = false) := bool_ff c1
      rw [C1.out]
      clear c1
      go_wp2_with fail
      go_ret
      exact ⟨ret_bool (by simp [may, C1.out]), ba (ba (ba (b0 _) _) _) _⟩
    have C1 := hide c1
    rw [C1.out]
    clear c1
    go_wp2_with fail
    refine (isNoMoment_any m r _).mono ?_
    rintro e w2 ⟨rfl, rfl⟩
    by_cases c2 : isNm m r = true
    rotate_left
    · have C2 : Hid (isNm m r = false) := bool_ff c2
      rw [C2.out]
      clear c2
      go_wp2_with fail
      go_ret
      exact ⟨ret_bool (by simp [may, C1.out, C2.out]), ba (ba (ba (b0 _) _) _) _⟩
    have C2 := hide c2
    rw [C2.out]
    clear c2
    go_wp2_with fail
    refine (isPlace_any p _).mono ?_
    rintro e w3 ⟨rfl, rfl⟩
    by_cases c3 : isPl p = true
    rotate_left
    · have C3 : Hid (isPl p = false) := bool_ff c3
      rw [C3.out]
      clear c3
      go_wp2_with fail
      go_ret
      exact ⟨ret_bool (by simp [may, C1.out, C2.out, C3.out]), ba (ba (ba (b0 _) _) _) _⟩
    have C3 := hide c3
    rw [C3.out]
    clear c3
    go_wp2_with fail
    refine (isNoMask_any q _).mono ?_
    rintro e w4 ⟨rfl, rfl⟩
    go_wp2_with fail
    go_ret
    exact ⟨ret_bool (by simp [may, C1.out, C2.out, C3.out, h1, h2]), ba (ba (ba (b0 _) _) _) _⟩
  · go_enter Try.func33, Try.ntmps33
    go_wp2_with fail
    refine (isMapTask_any j t _).mono ?_
    rintro e w1 ⟨rfl, rfl⟩
    by_cases c1 : isMp j t = true
    rotate_left
    · have C1 : Hid (isMp j t = false) := bool_ff c1
      rw [C1.out]
      clear c1
      go_wp2_with fail
      go_ret
      exact ⟨ret_bool (by simp [may, C1.out]), ba (ba (ba (b0 _) _) _) _⟩
    have C1 := hide c1
    rw [C1.out]
    clear c1
    go_wp2_with fail
    refine (isMoment_any m r _).mono ?_
    rintro e w2 ⟨rfl, rfl⟩
    by_cases c2 : isMo m r = true
    rotate_left
    · have C2 : Hid (isMo m r = false) := bool_ff c2
      rw [C2.out]
      clear c2
      go_wp2_with fail
      go_ret
      exact ⟨ret_bool (by simp [may, C1.out, C2.out]), ba (ba (ba (b0 _) _) _) _⟩
    have C2 := hide c2
    rw [C2.out]
    clear c2
    go_wp2_with fail
    refine (isPlace_any p _).mono ?_
    rintro e w3 ⟨rfl, rfl⟩
    by_cases c3 : isPl p = true
    rotate_left
    · have C3 : Hid (isPl p = false) := bool_ff c3
      rw [C3.out]
      clear c3
      go_wp2_with fail
      go_ret
      exact ⟨ret_bool (by simp [may, C1.out, C2.out, C3.out]), ba (ba (ba (b0 _) _) _) _⟩
    have C3 := hide c3
    rw [C3.out]
    clear c3
    go_wp2_with fail
    refine (isOdd_any q _).mono ?_
    rintro e w4 ⟨rfl, rfl⟩
    go_wp2_with fail
    go_ret
    exact ⟨ret_bool (by simp [may, C1.out, C2.out, C3.out, h1, h2]), ba (ba (ba (b0 _) _) _) _⟩
  · go_enter Try.func33, Try.ntmps33
    go_wp2_with fail
    refine (isMapTask_any j t _).mono ?_
    rintro e w1 ⟨rfl, rfl⟩
    by_cases c1 : isMp j t = true
    rotate_left
    · have C1 : Hid (isMp j t = false) := bool_ff c1
      rw [C1.out]
      clear c1
      go_wp2_with fail
      go_ret
      exact ⟨ret_bool (by simp [may, C1.out]), ba (ba (ba (b0 _) _) _) _⟩
    have C1 := hide c1
    rw [C1.out]
    clear c1
    go_wp2_with fail
    refine (isMoment_any m r _).mono ?_
    rintro e w2 ⟨rfl, rfl⟩
    by_cases c2 : isMo m r = true
    rotate_left
    · have C2 : Hid (isMo m r = false) := bool_ff c2
      rw [C2.out]
      clear c2
      go_wp2_with fail
      go_ret
      exact ⟨ret_bool (by simp [may, C1.out, C2.out]), ba (ba (ba (b0 _) _) _) _⟩
    have C2 := hide c2
    rw [C2.out]
    clear c2
    go_wp2_with fail
    refine (isChange_any p _).mono ?_
    rintro e w3 ⟨rfl, rfl⟩
    by_cases c3 : isCh p = true
    rotate_left
    · have C3 : Hid (isCh p = false) := bool_ff c3
      rw [C3.out]
      clear c3
      go_wp2_with fail
      go_ret
      exact ⟨ret_bool (by simp [may, C1.out, C2.out, C3.out]), ba (ba (ba (b0 _) _) _) _⟩
    have C3 := hide c3
    rw [C3.out]
    clear c3
    go_wp2_with fail
    refine (isNoMask_any q _).mono ?_
    rintro e w4 ⟨rfl, rfl⟩
    go_wp2_with fail
    go_ret
    exact ⟨ret_bool (by simp [may, C1.out, C2.out, C3.out, h1, h2]), ba (ba (ba (b0 _) _) _) _⟩
set_option maxHeartbeats 1000000 in
set_option maxRecDepth 100000 in
theorem mayBe_any (f : Flt) (w : World) :
    Calls Try.prog 33 #[f.val] w fun e w' => e = .returned (.bool (may f)) ∧ Below w.heap.size w w' := by
  obtain ⟨k, j, t, a, m, r, p, q⟩ := f
  unfold Flt.val
  simp only
  by_cases hk : k = 0 ∨ k = 1 ∨ k = 2
  · by_cases ha : 1 ≤ a ∧ a ≤ 16
    · exact mayBe_row k j t a m r p q w hk ha.1 ha.2
    · have HA := hide ha
      have HF : Hid (may ⟨k, j, t, a, m, r, p, q⟩ = false) := by show _ = _; simp only [may]; rw [decide_eq_false ha]; rfl
      rw [HF.out]
      have h0 : 0 ≤ k := by omega
      have h3 : k < 3 := by omega
      clear hk ha
      by_cases h1 : 1 ≤ a
      · have h2 : 16 < a := by have := HA.out; omega
        go_enter Try.func33, Try.ntmps33
        go_wp2_with fail
        go_ret
        exact ⟨rfl, ba (ba (b0 _) _) _⟩
      · go_enter Try.func33, Try.ntmps33
        go_wp2_with fail
        go_ret
        exact ⟨rfl, ba (ba (b0 _) _) _⟩
  · have HF : Hid (may ⟨k, j, t, a, m, r, p, q⟩ = false) := by show _ = _; simp only [may]; rw [decide_eq_false (by omega : ¬ k = 0), decide_eq_false (by omega : ¬ k = 1), decide_eq_false (by omega : ¬ k = 2)]; simp
    rw [HF.out]
    by_cases h0 : 0 ≤ k
    · have h3 : 3 ≤ k := by omega
      clear hk
      go_enter Try.func33, Try.ntmps33
      go_wp2_with fail
      go_ret
      exact ⟨rfl, ba (ba (b0 _) _) _⟩
    · clear hk
      go_enter Try.func33, Try.ntmps33
      go_wp2_with fail
      go_ret
      exact ⟨rfl, ba (ba (b0 _) _) _⟩
end Go.Proofs.Ytbmbhcjocgbbpaa.Fa
