/-
  The document's cursor: Fixed, Text, Fail, Rest, End, as it stands.
-/
import Derived.Test.YtcchknpgkcmneaaNcR3
namespace Go.Proofs.Ytcchknpgkcmneaa.Curs
open Go.ChangeShapes Go.WideShapes Go.ChangeAt Go.RowKit
open Go.Proofs.Ytcchknpgkcmneaa.Base Go.Proofs.Ytcchknpgkcmneaa.Nums
set_option linter.unusedVariables false
theorem rfixed_nil (k : Int) (w : World) : Calls Try.prog 49 #[.pointer none, .int .i64 k] w fun e w' => e = .returned (.int .u64 0) ∧ w' = w := by
  go_enter Try.func49, Try.ntmps49
  go_wp2
  go_ret
  exact ⟨rfl, rfl⟩
theorem rfixed_dead (g : Nat) (v : Value) (p er wa k : Int) (w : World) (h : Row5 w g v p true er wa) : Calls Try.prog 49 #[.pointer (some ⟨g, 0, none⟩), .int .i64 k] w fun e w' => e = .returned (.int .u64 0) ∧ w' = w := by
  have c2 := h.c2
  clear h
  go_enter Try.func49, Try.ntmps49
  go_wp2
  go_ret
  exact ⟨rfl, rfl⟩
theorem rtext_nil (k : Int) (w : World) : Calls Try.prog 55 #[.pointer none, .int .i64 k] w fun e w' => e = .returned (.string ⟨#[]⟩) ∧ w' = w := by
  go_enter Try.func55, Try.ntmps55
  go_wp2
  go_ret
  exact ⟨rfl, rfl⟩
theorem rtext_dead (g : Nat) (v : Value) (p er wa k : Int) (w : World) (h : Row5 w g v p true er wa) : Calls Try.prog 55 #[.pointer (some ⟨g, 0, none⟩), .int .i64 k] w fun e w' => e = .returned (.string ⟨#[]⟩) ∧ w' = w := by
  have c2 := h.c2
  clear h
  go_enter Try.func55, Try.ntmps55
  go_wp2
  go_ret
  exact ⟨rfl, rfl⟩
set_option maxHeartbeats 1000000 in
set_option maxRecDepth 100000 in
theorem rfixed_wide (g : Nat) (v : Value) (p k : Int) (w : World) (h : Row5 w g v p false 0 0) (hk : ¬ (1 ≤ k ∧ k ≤ 8)) : Calls Try.prog 49 #[.pointer (some ⟨g, 0, none⟩), .int .i64 k] w fun e w' => e = .returned (.int .u64 0) ∧ w.grownBy w' (some g) ∧ Row5 w' g v p true 23 p := by
  have HROW := hide h
  have c2 := h.c2
  clear h
  by_cases h1 : k < 1
  · clear hk
    go_enter Try.func49, Try.ntmps49
    go_wp2_with fail
    refine (rfail_any g _ p 23 w HROW.out (by decide)).mono ?_
    rintro e w2 ⟨rfl, hr2, hg2⟩
    have HR2 := hide hr2
    have HG2 := hide hg2
    clear hr2 hg2
    go_wp2_with fail
    go_ret
    exact ⟨rfl, HG2.out, HR2.out⟩
  · have h8 : 8 < k := by omega
    clear hk
    go_enter Try.func49, Try.ntmps49
    go_wp2_with fail
    refine (rfail_any g _ p 23 w HROW.out (by decide)).mono ?_
    rintro e w2 ⟨rfl, hr2, hg2⟩
    have HR2 := hide hr2
    have HG2 := hide hg2
    clear hr2 hg2
    go_wp2_with fail
    go_ret
    exact ⟨rfl, HG2.out, HR2.out⟩
set_option maxHeartbeats 1000000 in
set_option maxRecDepth 100000 in
theorem rfixed_ok (g D p : Nat) (L : List (BitVec 8)) (k : Int) (w : World) (h : ReA w g D L p) (hk : 1 ≤ k ∧ k ≤ 8) (X : List (BitVec 8)) (hX : L.take (takeAt L k).1 = X) (S : List (BitVec 8) × Nat × Int) (hS : stepS L p 0 (takeAt L k) = S) :
    Calls Try.prog 49 #[.pointer (some ⟨g, 0, none⟩), .int .i64 k] w fun e w' => e = .returned (.int .u64 (word X : Nat)) ∧ w.grownBy w' (some g) ∧ Rz w' g D S := by
  have HC := hide (rz_take g D (L, p, 0) k w (.inl ⟨rfl, h⟩))
  simp only [ne_eq, not_true_eq_false, if_false] at HC
  rw [hX, hS] at HC
  have HXL : Hid (X.length ≤ 140737488355328) := by
    show _ ≤ _
    rw [← hX]
    obtain ⟨a, n, c, bs, hrow, hrd, hsl, hp, hL, had⟩ := h
    have h1 := hrd.2.1
    have h2 := hrd.1
    rw [hL, List.length_take, List.length_drop]; omega
  obtain ⟨a, n, c, bs, hrow, _⟩ := h
  have c2 := hrow.c2
  obtain ⟨h1, h8⟩ := hk
  have hk1 : ¬ k < 1 := by omega
  have hk8 : ¬ 8 < k := by omega
  clear hrow hX hS h1 h8
  go_enter Try.func49, Try.ntmps49
  go_wp2_with fail
  refine HC.out.mono ?_
  rintro e w1 ⟨⟨v, rfl, hv⟩, hg, hr⟩
  obtain ⟨va, vn, vc, rfl, _⟩ := Lz.own_named hv
  have HV := hide hv
  have HG := hide hg
  have HR := hide hr
  clear hv hg hr HC
  go_wp2_with fail
  refine (refWord_any va vn vc X w1 (Got.rd HV.out HXL.out)).mono ?_
  rintro e w2 ⟨rfl, hb2⟩
  have HB := hide hb2
  clear hb2
  go_wp2_with fail
  go_ret
  refine ⟨rfl, grown_trans HG.out (grown_any (below_grown HB.out) _), ?_⟩
  rcases HR.out with ⟨e0, q⟩ | ⟨e0, e1, a', n', c', at', q, q2⟩
  · left
    obtain ⟨a', n', c', bs', q1, q2, q3, q4, q5, q6⟩ := q
    exact ⟨e0, a', n', c', bs', q1.below HB.out, q2.below HB.out, q3, q4, q5, fun ad e => ⟨(q6 ad e).1, (q6 ad e).2.1, Nat.le_trans (q6 ad e).2.2 HB.out.size⟩⟩
  · exact .inr ⟨e0, e1, a', n', c', at', q.below HB.out, q2⟩
theorem Rz.below {w w' : World} {g D : Nat} {s : List (BitVec 8) × Nat × Int} (h : Rz w g D s) (hb : Below w.heap.size w w') : Rz w' g D s := by
  rcases h with ⟨e0, q⟩ | ⟨e0, e1, a', n', c', at', q, q2⟩
  · left
    obtain ⟨a', n', c', bs', q1, q2, q3, q4, q5, q6⟩ := q
    exact ⟨e0, a', n', c', bs', q1.below hb, q2.below hb, q3, q4, q5, fun ad e => ⟨(q6 ad e).1, (q6 ad e).2.1, Nat.le_trans (q6 ad e).2.2 hb.size⟩⟩
  · exact .inr ⟨e0, e1, a', n', c', at', q.below hb, q2⟩
theorem rz_fixed (g D : Nat) (s : List (BitVec 8) × Nat × Int) (k : Int) (w : World) (h : Rz w g D s) : Calls Try.prog 49 #[.pointer (some ⟨g, 0, none⟩), .int .i64 k] w fun e w' => e = .returned (.int .u64 ((if s.2.2 ≠ 0 then 0 else (fixAt s.1 k).1 : Nat) : Int)) ∧ w.grownBy w' (some g) ∧ Rz w' g D (stepS s.1 s.2.1 s.2.2 (fixAt s.1 k).2) := by
  obtain ⟨L, p, er⟩ := s
  rcases h with ⟨he, h⟩ | ⟨he, hL, h⟩
  · simp only at he h
    subst he
    simp only [ne_eq, not_true_eq_false, if_false]
    by_cases hk : 1 ≤ k ∧ k ≤ 8
    · have hf : fixAt L k = (word (L.take (takeAt L k).1), (takeAt L k)) := by
        have e1 : takeAt L k = if (L.length : Int) < k then (0, 20) else (k.toNat, 0) := by unfold takeAt; rw [if_neg (by omega : ¬ k < 0)]
        have e2 : fixAt L k = if (L.length : Int) < k then (0, 0, 20) else (word (L.take k.toNat), k.toNat, 0) := by unfold fixAt; rw [if_neg (by simpa using hk)]
        rw [e1, e2]
        by_cases hl : (L.length : Int) < k
        · rw [if_pos hl, if_pos hl]; rfl
        · rw [if_neg hl, if_neg hl]
      rw [hf]
      exact rfixed_ok g D p L k w h hk _ rfl _ rfl
    · have hf : fixAt L k = (0, 0, 23) := by unfold fixAt; rw [if_pos hk]
      obtain ⟨a, n, c, bs, hrow, _⟩ := h
      refine (rfixed_wide g _ (p : Int) k w hrow hk).mono ?_
      rintro e w' ⟨rfl, hg, hr⟩
      rw [hf]
      simp only
      rw [stepS_bad _ _ _ _ (by decide)]
      exact ⟨rfl, hg, .inr ⟨by simp, rfl, _, _, _, _, hr, by simp⟩⟩
  · simp only at he hL h
    obtain ⟨a, n, c, at', hr, h0⟩ := h
    refine (rfixed_dead g _ at' er (p : Int) k w hr).mono ?_
    rintro e w' ⟨rfl, rfl⟩
    refine ⟨by simp [he], World.grownBy.refl _ _, ?_⟩
    simp only
    rw [stepS_dead _ _ _ _ he]
    exact .inr ⟨he, hL, a, n, c, at', hr, h0⟩
set_option maxHeartbeats 1000000 in
set_option maxRecDepth 100000 in
/-- Text whose number fails. -/
theorem rtext_num (g D p : Nat) (L : List (BitVec 8)) (k : Int) (w : World) (h : ReA w g D L p) (er : Nat) (hA : (atMost L k).2.2 = er) (he : er ≠ 0) :
    Calls Try.prog 55 #[.pointer (some ⟨g, 0, none⟩), .int .i64 k] w fun e w' => e = .returned (.string ⟨#[]⟩) ∧ w.grownBy w' (some g) ∧ ReD w' g p (er : Int) := by
  have HC := hide (rz_num g D (L, p, 0) k w (.inl ⟨rfl, h⟩))
  simp only [ne_eq, not_true_eq_false, if_false] at HC
  rw [show (atMost L k).2 = ((atMost L k).2.1, er) from Prod.ext rfl hA, stepS_bad _ _ _ _ he] at HC
  obtain ⟨a, n, c, bs, hrow, hrd, hsl, hp, hL, had⟩ := h
  have c1 := hrow.c1
  have c2 := hrow.c2
  generalize (atMost L k).1 = V at HC
  clear hrow hrd hsl hp hL had hA
  go_enter Try.func55, Try.ntmps55
  go_wp2_with fail
  refine HC.out.mono ?_
  rintro e w1 ⟨rfl, hg, hr⟩
  have hr' : ReD w1 g p (er : Int) := by
    rcases hr with ⟨e0, _⟩ | ⟨_, _, q⟩
    · simp only at e0; omega
    · exact q
  have HR := hide hr'
  have HG := hide hg
  obtain ⟨a1, n1, c1', at1, q1, q2⟩ := hr'
  have d2 := q1.c2
  clear hr hg q1 q2 HC c1 c2
  go_wp2_with fail
  go_ret
  exact ⟨rfl, HG.out, HR.out⟩
set_option maxHeartbeats 1000000 in
set_option maxRecDepth 100000 in
/-- Text whose bytes lack. -/
theorem rtext_short (g D p : Nat) (L : List (BitVec 8)) (k : Int) (w : World) (h : ReA w g D L p) (V K : Nat) (hA : atMost L k = (V, K, 0)) (hs : L.length - K < V) :
    Calls Try.prog 55 #[.pointer (some ⟨g, 0, none⟩), .int .i64 k] w fun e w' => e = .returned (.string ⟨#[]⟩) ∧ w.grownBy w' (some g) ∧ ReD w' g p 20 := by
  have HC := hide (rz_num g D (L, p, 0) k w (.inl ⟨rfl, h⟩))
  simp only [ne_eq, not_true_eq_false, if_false] at HC
  rw [hA] at HC
  simp only at HC
  rw [stepS_ok] at HC
  have hV : V ≤ 9223372036854775807 := by have := (atMost_ok L k (by rw [hA])).1; rw [hA] at this; exact this
  have hVi : (V : Int) ≤ 9223372036854775807 := by omega
  obtain ⟨a, n, c, bs, hrow, hrd, hsl, hp, hL, had⟩ := h
  have c1 := hrow.c1
  have c2 := hrow.c2
  have HGL : Hid (g < w.heap.size) := hrow.lt
  clear hrow hrd hsl hp hL had hA
  go_enter Try.func55, Try.ntmps55
  go_wp2_with fail
  refine HC.out.mono ?_
  rintro e w1 ⟨rfl, hg, hr⟩
  have hr' : ReA w1 g D (L.drop K) (p + K) := by
    rcases hr with ⟨_, q⟩ | ⟨e0, _⟩
    · exact q
    · simp only at e0; omega
  obtain ⟨a1, n1, c1', bs1, q1, q2, q3, q4, q5, q6⟩ := hr'
  obtain ⟨m, hm⟩ : ∃ m, (p + K) + m = n1 := ⟨n1 - (p + K), by omega⟩
  have hmV : m < V := by
    have h1 : (L.drop K).length = m := by rw [q5, List.length_drop, q2.1]; omega
    rw [List.length_drop] at h1; omega
  have HREST := hide (rrest_any g (p + K) n1 c1' m a1 w1 q1 hm q2.2.1)
  have hmi : (m : Int) < (V : Int) := by omega
  have hm47 : (m : Int) ≤ 140737488355328 := by have := q2.2.1; omega
  have HROW := hide q1
  have HG := hide hg
  have d2 := q1.c2
  clear hr hg q1 q2 q3 q4 q5 q6 HC c1 c2 hm hs
  go_wp2_with fail
  refine HREST.out.mono ?_
  rintro e w2 ⟨rfl, hb2⟩
  have HR2 := hide (HROW.out.below hb2)
  have HB2 := hide hb2
  have e1 := HR2.out.c1
  have f1 := HR2.out.fr 1
  clear hb2 HREST d2
  have HR3 : Hid (Row5 (w2.setCell ⟨g, 1, none⟩ (.int .i64 (p : Int))) g (.slice a1 n1 c1') (p : Int) false 0 0) := HR2.out.put1 _
  go_wp2_with fail
  refine (rfail_any g _ (p : Int) 20 _ HR3.out (by decide)).mono ?_
  rintro e w3 ⟨rfl, hr3, hg3⟩
  have HR4 := hide hr3
  have HG4 : Hid (w.grownBy w3 (some g)) := grown_trans (grown_cell (grown_trans HG.out (grown_any (below_grown HB2.out) _)) 1 _) hg3
  clear hr3 hg3
  go_wp2_with fail
  go_ret
  exact ⟨rfl, HG4.out, _, _, _, _, HR4.out, by decide⟩
theorem conv_none (W : World) : (convert 22 9 (.slice none 0 0)).run Try.prog W = .ok (.string ⟨#[]⟩) W := by kernel_rfl
set_option maxHeartbeats 1000000 in
set_option maxRecDepth 100000 in
/-- Text that is there. -/
theorem rtext_ok (g D p : Nat) (L : List (BitVec 8)) (k : Int) (w : World) (h : ReA w g D L p) (V K : Nat) (hA : atMost L k = (V, K, 0)) (hs : ¬ L.length - K < V) :
    Calls Try.prog 55 #[.pointer (some ⟨g, 0, none⟩), .int .i64 k] w fun e w' => e = .returned (.string (str ((L.drop K).take V))) ∧ w.grownBy w' (some g) ∧ ReA w' g D (L.drop (K + V)) (p + (K + V)) := by
  have HC := hide (rz_num g D (L, p, 0) k w (.inl ⟨rfl, h⟩))
  simp only [ne_eq, not_true_eq_false, if_false] at HC
  rw [hA] at HC
  simp only at HC
  rw [stepS_ok] at HC
  have hV : V ≤ 9223372036854775807 := by have := (atMost_ok L k (by rw [hA])).1; rw [hA] at this; exact this
  have hVi : (V : Int) ≤ 9223372036854775807 := by omega
  obtain ⟨a, n, c, bs, hrow, hrd, hsl, hp, hL, had⟩ := h
  have c1 := hrow.c1
  have c2 := hrow.c2
  have hXB : ((L.drop K).take V).length ≤ 140737488355328 := by
    have h1 := hrd.2.1
    have h2 := hrd.1
    rw [List.length_take, List.length_drop, hL, List.length_drop]; omega
  generalize hX : (L.drop K).take V = X at hXB
  have HXX := hide hX
  have HXB := hide hXB
  clear hrow hrd hsl hp hL had hA hX hXB
  go_enter Try.func55, Try.ntmps55
  go_wp2_with fail
  refine HC.out.mono ?_
  rintro e w1 ⟨rfl, hg, hr⟩
  have hr' : ReA w1 g D (L.drop K) (p + K) := by
    rcases hr with ⟨_, q⟩ | ⟨e0, _⟩
    · exact q
    · simp only at e0; omega
  have HRA := hide hr'
  obtain ⟨a1, n1, c1', bs1, q1, q2, q3, q4, q5, q6⟩ := hr'
  obtain ⟨m, hm⟩ : ∃ m, (p + K) + m = n1 := ⟨n1 - (p + K), by omega⟩
  have HLM : Hid ((L.drop K).length = m) := by show _ = _; rw [q5, List.length_drop, q2.1]; omega
  have hmV : ¬ m < V := by have h1 := HLM.out; rw [List.length_drop] at h1; omega
  have HREST := hide (rrest_any g (p + K) n1 c1' m a1 w1 q1 hm q2.2.1)
  have hmi : ¬ (m : Int) < (V : Int) := by omega
  have hm47 : (m : Int) ≤ 140737488355328 := by have := q2.2.1; omega
  have HG := hide hg
  have d2 := q1.c2
  clear hr hg q1 q2 q3 q4 q5 q6 HC c1 c2 hm hs
  go_wp2_with fail
  refine HREST.out.mono ?_
  rintro e w2 ⟨rfl, hb2⟩
  have HRZ : Hid (Rz w2 g D (L.drop K, p + K, 0)) := Rz.below (.inl ⟨rfl, HRA.out⟩) hb2
  have HB2 := hide hb2
  have HT := hide (rz_take g D (L.drop K, p + K, 0) (V : Int) w2 HRZ.out)
  simp only [ne_eq, not_true_eq_false, if_false] at HT
  rw [show takeAt (L.drop K) (V : Int) = (V, 0) by unfold takeAt; rw [if_neg (by omega), if_neg (by rw [HLM.out]; omega), Int.toNat_natCast], stepS_ok] at HT
  rw [HXX.out] at HT
  have HX : Hid (∀ W va vn vc, Own W w2.heap.size (.slice va vn vc) X → X.length ≤ 140737488355328 → (convert 22 9 (.slice va vn vc)).run Try.prog W = .ok (.string (str X)) W) := fun W va vn vc ho hx => by
    rcases ho.2 with ⟨e, e2⟩ | ⟨gg, cap, cur, e, _⟩
    · have : X = [] := List.length_eq_zero_iff.1 e2
      subst this
      rw [e]
      exact conv_none W
    · simp only [Value.slice.injEq] at e
      obtain ⟨rfl, rfl, rfl⟩ := e
      exact conv_str (Got.rd ho hx)
  clear hb2 HREST d2
  go_wp2_with fail
  refine HT.out.mono ?_
  rintro e w3 ⟨⟨v, rfl, hv⟩, hg3, hr3⟩
  obtain ⟨va, vn, vc, rfl, hvn⟩ := Lz.own_named hv
  have hcv := HX.out w3 va vn vc hv HXB.out
  have HG3 := hide (grown_trans (grown_trans HG.out (grown_any (below_grown HB2.out) _)) hg3)
  have HR3 := hide hr3
  clear hv hg3 hr3 hvn HT
  go_wp2_with fail
  go_ret
  refine ⟨rfl, HG3.out, ?_⟩
  rcases HR3.out with ⟨_, q⟩ | ⟨e0, _⟩
  · rw [List.drop_drop] at q
    simp only at q
    rw [← Nat.add_assoc]
    exact q
  · simp only at e0; omega
end Go.Proofs.Ytcchknpgkcmneaa.Curs
