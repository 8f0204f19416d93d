/-
  The statements' own merging of two lists.
-/
import Derived.Test.YtjhmnimbncfhoaaSoApp
import Derived.Test.YtjhmnimbncfhoaaSoMerge
import Derived.Test.YtjhmnimbncfhoaaSoSortC
namespace Go.Proofs.Ytjhmnimbncfhoaa.So
open Go.ChangeShapes Go.WideShapes Go.ChangeAt Go.RowKit
open Go.Proofs.Ytjhmnimbncfhoaa.Base
set_option linter.unusedVariables false
theorem cutR_any (a : Option Addr) (len cap i : Nat) (h : i ≤ len) (hc : len ≤ cap) (hnil : a = none → len = 0 ∧ cap = 0) : ∃ a' : Option Addr, (∀ W, (Instr.sliceAt 27 (.slice a len cap) (some (.int .i64 (i : Int))) none none).run Try.prog W = .ok (.slice a' (len - i) (cap - i)) W) ∧
    (a' = none → len - i = 0 ∧ cap - i = 0) ∧ (∀ b off, a = some ⟨b, off, none⟩ → i < len → a' = some ⟨b, off + i * 3, none⟩) := by
  refine ⟨if cap = i then a else a.map (·.add (i * 3)), fun W => ?_, ?_, ?_⟩
  · rw [run_sliceAt_slice (h := elR), run_slice_l (ht := elR) (h0 := by omega) (h1 := by omega), szR]
    simp only [Result.andThen, sliced, Int.toNat_natCast]
  · split
    · intro e; have := hnil e; omega
    · intro e
      cases a with
      | none => have := hnil rfl; omega
      | some ad => cases e
  · intro b off e hi
    rw [if_neg (by omega), e]
    exact congrArg some (addr_add ⟨b, off, none⟩ rfl (i * 3))
theorem getD_drop (rs : List Rec) (i j : Nat) : (rs.drop i).getD j rec0 = rs.getD (i + j) rec0 := by
  rw [List.getD_eq_getElem?_getD, List.getD_eq_getElem?_getD, List.getElem?_drop]
theorem RdR.drop {w : World} {a a' : Option Addr} {len i : Nat} {rs : List Rec} (h : RdR w a len rs) (hi : i ≤ len) (ha : ∀ b off, a = some ⟨b, off, none⟩ → i < len → a' = some ⟨b, off + i * 3, none⟩) : RdR w a' (len - i) (rs.drop i) := by
  refine ⟨by rw [List.length_drop, h.1], fun hp => ?_⟩
  obtain ⟨b, off, e, hl, hc⟩ := h.2 (by omega)
  refine ⟨b, off + i * 3, ha b off e (by omega), hl, fun j hj => ?_⟩
  rw [getD_drop, show off + i * 3 + j * 3 = off + (i + j) * 3 by omega]
  exact hc (i + j) (by omega)
/-- A slice of one record that has just been built. -/
theorem rdr_one {w : World} {g : Nat} {x : Rec} (h : RB w g x) : RdR w (some ⟨g, 0, none⟩) 1 [x] := by
  refine ⟨rfl, fun _ => ⟨g, 0, rfl, lt_row h, fun j hj => ?_⟩⟩
  obtain rfl : j = 0 := by omega
  exact h.cells
theorem getD_cons {rs : List Rec} {i : Nat} (h : i < rs.length) : rs.drop i = rs.getD i rec0 :: rs.drop (i + 1) := by
  rw [List.drop_eq_getElem_cons h, List.getD_eq_getElem?_getD, List.getElem?_eq_getElem h]; rfl
theorem mrg_step_left (A B : List Rec) (i k : Nat) (hi : i < A.length) (hk : k < B.length) (h : le (A.getD i rec0) (B.getD k rec0) = true) : mrg (A.drop i) (B.drop k) = A.getD i rec0 :: mrg (A.drop (i + 1)) (B.drop k) := by
  rw [getD_cons hi, getD_cons hk, mrg_cons, if_pos h]
theorem mrg_step_right (A B : List Rec) (i k : Nat) (hk : k < B.length) (h : A.length ≤ i ∨ le (A.getD i rec0) (B.getD k rec0) = false) : mrg (A.drop i) (B.drop k) = B.getD k rec0 :: mrg (A.drop i) (B.drop (k + 1)) := by
  by_cases hi : i < A.length
  · have h' : le (A.getD i rec0) (B.getD k rec0) = false := h.elim (fun h => by omega) id
    rw [getD_cons hi, getD_cons hk, mrg_cons, if_neg (by rw [h']; simp)]
  · rw [List.drop_eq_nil_of_le (by omega), nil_mrg, nil_mrg, getD_cons hk]
set_option maxHeartbeats 8000000 in
set_option maxRecDepth 100000 in
theorem merged_any (a b : Option Addr) (na ca nb cb : Nat) (A B : List Rec) (w : World) (hA : RdR w a na A) (hB : RdR w b nb B) (hnil : a = none → na = 0 ∧ ca = 0) (hca : na ≤ ca) (hcl : ca ≤ 9223372036854775807) (fA : Fine A) (fB : Fine B) (hl : (na + nb) * 40 ≤ 140737488355328) :
    Calls Try.prog 14 #[.slice a na ca, .slice b nb cb] w fun e w' => ∃ v, e = .returned v ∧ OwnR w' w.heap.size v (mrg A B) ∧ Below w.heap.size w w' := by
  have HA := hide hA
  have HB := hide hB
  have HFA := hide fA
  have HFB := hide fB
  have HAL := hide hA.1
  have HBL := hide hB.1
  clear hA hB fA fB
  obtain ⟨M, hM⟩ : ∃ M, mrg A B = M := ⟨_, rfl⟩
  have HM := hide hM
  have HLM : Hid (M.length = na + nb) := by rw [← hM]; show _ = _; rw [length_mrg, HAL.out, HBL.out]
  rw [hM]
  clear hM
  go_enter Try.func14, Try.ntmps14
  go_wp2_with fail
  go_loopw [5, 6, 7] (fun s5 s6 s7 wr => ∃ (v : Value) (T : List Rec) (i k : Nat), v = s5 ∧ .int .i64 (i : Int) = s6 ∧ .int .i64 (k : Int) = s7 ∧ i ≤ na ∧ k ≤ nb ∧ Hid (T ++ mrg (A.drop i) (B.drop k) = M) ∧ Hid (OwnR wr w.heap.size v T) ∧ Hid (Below w.heap.size w wr)) (fun _ _ s7 _ => nb - (intOf s7).toNat)
  case atStart => exact ⟨_, [], 0, 0, rfl, rfl, rfl, by omega, by omega, by rw [List.drop_zero, List.drop_zero, List.nil_append]; exact HM.out, own_nil _ _, Below.refl _ _⟩
  case round =>
    obtain ⟨v, T, i, k, rfl, rfl, rfl, hi, hk, HT, HO, HW⟩ := hrel
    by_cases hkn : k < nb
    · have hki : (k : Int) < (nb : Int) := by omega
      obtain ⟨b2, o2, rfl, hl2, hc2⟩ := HB.out.2 (by omega)
      obtain ⟨e0, e1, e2⟩ := hc2 k hkn
      have HY : Hid (∀ V, Below w.heap.size w V → V.cell? ⟨b2, o2 + k * 3, none⟩ = some (.int .i64 (B.getD k rec0).p) ∧ V.cell? ⟨b2, o2 + k * 3 + 1, none⟩ = some (.string (B.getD k rec0).k) ∧ V.cell? ⟨b2, o2 + k * 3 + 2, none⟩ = some (.string (B.getD k rec0).v)) := fun V hV => ⟨(hV.cell (p := ⟨b2, o2 + k * 3, none⟩) hl2).trans e0, (hV.cell (p := ⟨b2, o2 + k * 3 + 1, none⟩) hl2).trans e1, (hV.cell (p := ⟨b2, o2 + k * 3 + 2, none⟩) hl2).trans e2⟩
      clear e0 e1 e2 hc2
      go_wp2_with fail
      go_loopw [5, 6] (fun s5 s6 wq => ∃ (v : Value) (T : List Rec) (i : Nat), v = s5 ∧ .int .i64 (i : Int) = s6 ∧ i ≤ na ∧ Hid (T ++ mrg (A.drop i) (B.drop k) = M) ∧ Hid (OwnR wq w.heap.size v T) ∧ Hid (Below w.heap.size w wq)) (fun _ s6 _ => na - (intOf s6).toNat)
      case atStart => exact ⟨_, T, i, rfl, rfl, hi, HT, HO, HW⟩
      case round =>
        clear HT HO HW hi
        obtain ⟨v, T, i, rfl, rfl, hi, HT, HO, HW⟩ := hrel
        go_upto_region 6 with fail
        go_cut [29] from 14 to 38 (fun s29 wx => ∃ tk : Bool, .bool tk = s29 ∧ Hid (tk = true → i < na ∧ le (A.getD i rec0) (B.getD k rec0) = true) ∧ Hid (tk = false → na ≤ i ∨ le (A.getD i rec0) (B.getD k rec0) = false) ∧ Hid (Below wr.heap.size wr wx))
        case first =>
          by_cases hin : i < na
          · have hii : (i : Int) < (na : Int) := by omega
            have hid : decide ((i : Int) < (na : Int)) = true := by simpa using hii
            obtain ⟨b1, o1, rfl, hl1, hc1⟩ := HA.out.2 (by omega)
            obtain ⟨d0, d1, d2⟩ := hc1 i hin
            have p0 := (HW.out.cell (p := ⟨b1, o1 + i * 3, none⟩) hl1).trans d0
            have p1 := (HW.out.cell (p := ⟨b1, o1 + i * 3 + 1, none⟩) hl1).trans d1
            have p2 := (HW.out.cell (p := ⟨b1, o1 + i * 3 + 2, none⟩) hl1).trans d2
            obtain ⟨q0, q1, q2⟩ := HY.out _ HW.out
            have HC := hide (fun W => cmp_any (A.getD i rec0) (B.getD k rec0) W (by have := (HFA.out.getD i).1; omega) (by have := (HFB.out.getD k).1; omega))
            have HLT : Hid (b1 < wr.heap.size ∧ b2 < wr.heap.size) := ⟨Nat.lt_of_lt_of_le hl1 HW.out.size, Nat.lt_of_lt_of_le hl2 HW.out.size⟩
            obtain ⟨z, hz⟩ : ∃ z, cmpR (A.getD i rec0) (B.getD k rec0) = z := ⟨_, rfl⟩
            rw [hz] at HC
            have HZ := hide hz
            clear hz d0 d1 d2 hc1
            unfold Rec.val at HC
            generalize A.getD i rec0 = x at p0 p1 p2 HC
            generalize B.getD k rec0 = y at q0 q1 q2 HC
            have HS : Hid ((wr.cell? ⟨b1, o1 + i * 3, none⟩ = some (.int .i64 x.p) ∧ wr.cell? ⟨b1, o1 + i * 3 + 1, none⟩ = some (.string x.k) ∧ wr.cell? ⟨b1, o1 + i * 3 + 2, none⟩ = some (.string x.v)) ∧ wr.cell? ⟨b2, o2 + k * 3, none⟩ = some (.int .i64 y.p) ∧ wr.cell? ⟨b2, o2 + k * 3 + 1, none⟩ = some (.string y.k) ∧ wr.cell? ⟨b2, o2 + k * 3 + 2, none⟩ = some (.string y.v)) := ⟨⟨p0, p1, p2⟩, q0, q1, q2⟩
            obtain ⟨tk, htk⟩ : ∃ tk, decide (z ≤ 0) = tk := ⟨_, rfl⟩
            have HTK := hide htk
            cases tk with
            | true =>
              have hzz : z ≤ 0 := by simpa using htk
              first | (go_region_held_law (fun V => (V.cell? ⟨b1, o1 + i * 3, none⟩ = some (.int .i64 x.p) ∧ V.cell? ⟨b1, o1 + i * 3 + 1, none⟩ = some (.string x.k) ∧ V.cell? ⟨b1, o1 + i * 3 + 2, none⟩ = some (.string x.v)) ∧ V.cell? ⟨b2, o2 + k * 3, none⟩ = some (.int .i64 y.p) ∧ V.cell? ⟨b2, o2 + k * 3 + 1, none⟩ = some (.string y.k) ∧ V.cell? ⟨b2, o2 + k * 3 + 2, none⟩ = some (.string y.v)) (first | exact E6.out | go_keep) (first
                | (go_at_call 8; refine (HC.out _).mono ?_; rintro e w6 ⟨rfl, hb6⟩; have hbw : Below wr.heap.size wr w6 := below_trans ((Below.refl _ _).drew) hb6; have HB6 := hide hbw; have E6 := hide (six_cells2 HLT.out.1 HLT.out.2 hbw HS.out); clear hb6 hbw))) | fail
              all_goals
                go_wp2_with fail
                go_meet
                case rel => exact ⟨true, rfl, (fun _ => ⟨hin, (le_iff _ _).2 (by have := HZ.out; omega)⟩), (fun h => nomatch h), HB6.out⟩
            | false =>
              have hzz : ¬ z ≤ 0 := by simpa using htk
              first | (go_region_held_law (fun V => (V.cell? ⟨b1, o1 + i * 3, none⟩ = some (.int .i64 x.p) ∧ V.cell? ⟨b1, o1 + i * 3 + 1, none⟩ = some (.string x.k) ∧ V.cell? ⟨b1, o1 + i * 3 + 2, none⟩ = some (.string x.v)) ∧ V.cell? ⟨b2, o2 + k * 3, none⟩ = some (.int .i64 y.p) ∧ V.cell? ⟨b2, o2 + k * 3 + 1, none⟩ = some (.string y.k) ∧ V.cell? ⟨b2, o2 + k * 3 + 2, none⟩ = some (.string y.v)) (first | exact E6.out | go_keep) (first
                | (go_at_call 8; refine (HC.out _).mono ?_; rintro e w6 ⟨rfl, hb6⟩; have hbw : Below wr.heap.size wr w6 := below_trans ((Below.refl _ _).drew) hb6; have HB6 := hide hbw; have E6 := hide (six_cells2 HLT.out.1 HLT.out.2 hbw HS.out); clear hb6 hbw))) | fail
              all_goals
                go_wp2_with fail
                go_meet
                case rel => exact ⟨false, rfl, (fun h => nomatch h), (fun _ => .inr ((le_not _ _).2 (by have := HZ.out; omega))), HB6.out⟩
          · have hii : ¬ (i : Int) < (na : Int) := by omega
            have hid : decide ((i : Int) < (na : Int)) = false := by simpa using hii
            go_quiet (fail)
            go_wp2_with fail
            go_meet
            case rel => exact ⟨false, rfl, (fun h => nomatch h), (fun _ => .inl (by omega)), below_drewN' _ _ _⟩
        case rest =>
          obtain ⟨tk, rfl, HT1, HT2, HBX⟩ := hcut
          have HO2 := hide (HO.out.below HBX.out)
          have HW2 := hide (below_trans HW.out HBX.out)
          have HTL : Hid (T.length + (na - i) + (nb - k) = na + nb) := by
            have h1 := congrArg List.length HT.out
            rw [List.length_append, length_mrg, List.length_drop, List.length_drop, HAL.out, HBL.out, HLM.out] at h1
            show _ = _
            omega
          clear HO HW
          cases tk with
          | true =>
            obtain ⟨hin, hle⟩ := HT1.out rfl
            have HLE := hide hle
            clear hle
            have hii : (i : Int) < (na : Int) := by omega
            obtain ⟨b1, o1, rfl, hl1, hc1⟩ := HA.out.2 (by omega)
            obtain ⟨d0, d1, d2⟩ := hc1 i hin
            have p0 := (HW2.out.cell (p := ⟨b1, o1 + i * 3, none⟩) hl1).trans d0
            have p1 := (HW2.out.cell (p := ⟨b1, o1 + i * 3 + 1, none⟩) hl1).trans d1
            have p2 := (HW2.out.cell (p := ⟨b1, o1 + i * 3 + 2, none⟩) hl1).trans d2
            have HST := hide (mrg_step_left A B i k (by rw [HAL.out]; exact hin) (by rw [HBL.out]; exact hkn) HLE.out)
            clear d0 d1 d2 hc1
            generalize A.getD i rec0 = x at p0 p1 p2 HST
            obtain ⟨gr, hgr⟩ : ∃ gr, wc.heap.size = gr := ⟨_, rfl⟩
            obtain ⟨w3, hw3⟩ : ∃ w3, wc.alloc (.cells #[.int .i64 x.p, .string x.k, .string x.v] 23) = w3 := ⟨_, rfl⟩
            have HB3 : Hid (Below wc.heap.size wc w3) := by rw [← hw3]; exact (Below.refl _ _).alloc (Nat.le_refl _) _
            have HR3 : Hid (RB w3 gr x) := by rw [← hw3, ← hgr]; exact heap_alloc_new _ _
            have HO3 := hide (HO2.out.below HB3.out)
            have HW3 := hide (below_trans HW2.out HB3.out)
            go_wp2_with (at_builtin; refine joinR _ rfl _ _ rfl w.heap.size v T rfl HO3.out (some ⟨gr, 0, none⟩) 1 1 [x] rfl (rdr_one HR3.out) (fun e => nomatch e) (by have := HTL.out; omega) HW3.out.size ?_; intro v4 w4 ho4 hg4; have HO4 := hide ho4; have HW4 := hide (HW3.out.grown hg4 HW3.out.size (fun j e => (HO3.out.blk j e).1)); clear ho4 hg4)
            go_roundw
            case rel => exact ⟨_, T ++ [x], i + 1, rfl, by go_num, by omega, (by have h1 := HT.out; rw [HST.out] at h1; rw [List.append_assoc]; exact h1), HO4, HW4⟩
            case measure => simp [intOf]; omega
          | false =>
            have HLE := hide (HT2.out rfl)
            obtain ⟨p0, p1, p2⟩ := HY.out _ HW2.out
            have HST := hide (mrg_step_right A B i k (by rw [HBL.out]; exact hkn) (HLE.out.elim (fun h => .inl (by rw [HAL.out]; exact h)) .inr))
            generalize B.getD k rec0 = x at p0 p1 p2 HST
            obtain ⟨gr, hgr⟩ : ∃ gr, wc.heap.size = gr := ⟨_, rfl⟩
            obtain ⟨w3, hw3⟩ : ∃ w3, wc.alloc (.cells #[.int .i64 x.p, .string x.k, .string x.v] 23) = w3 := ⟨_, rfl⟩
            have HB3 : Hid (Below wc.heap.size wc w3) := by rw [← hw3]; exact (Below.refl _ _).alloc (Nat.le_refl _) _
            have HR3 : Hid (RB w3 gr x) := by rw [← hw3, ← hgr]; exact heap_alloc_new _ _
            have HO3 := hide (HO2.out.below HB3.out)
            have HW3 := hide (below_trans HW2.out HB3.out)
            go_wp2_with (at_builtin; refine joinR _ rfl _ _ rfl w.heap.size v T rfl HO3.out (some ⟨gr, 0, none⟩) 1 1 [x] rfl (rdr_one HR3.out) (fun e => nomatch e) (by have := HTL.out; omega) HW3.out.size ?_; intro v4 w4 ho4 hg4; have HO4 := hide ho4; have HW4 := hide (HW3.out.grown hg4 HW3.out.size (fun j e => (HO3.out.blk j e).1)); clear ho4 hg4)
            go_roundw
            case rel => exact ⟨_, T ++ [x], i, k + 1, rfl, rfl, by go_num, hi, by omega, (by have h1 := HT.out; rw [HST.out] at h1; rw [List.append_assoc]; exact h1), HO4, HW4⟩
            case measure => simp [intOf]; omega
    · obtain rfl : k = nb := by omega
      obtain ⟨a', hsl, hn', ha'⟩ := cutR_any a na ca i hi hca hnil
      have HRD := hide ((HA.out.below HW.out).drop hi ha')
      have HTL : Hid (T.length + (na - i) = na + k) := by
        have h1 := congrArg List.length HT.out
        rw [List.length_append, length_mrg, List.length_drop, List.length_drop, HAL.out, HBL.out, HLM.out] at h1
        show _ = _
        omega
      have HEN : Hid (T ++ A.drop i = M) := by
        have h1 := HT.out
        have h2 : B.drop k = [] := List.drop_eq_nil_of_le (by rw [HBL.out]; exact Nat.le_refl _)
        rw [h2, mrg_nil] at h1
        exact h1
      clear ha'
      go_wp2_with (at_builtin; refine joinR _ rfl _ _ rfl w.heap.size v T rfl HO.out a' (na - i) (ca - i) (A.drop i) rfl HRD.out hn' (by have := HTL.out; omega) HW.out.size ?_; intro v4 w4 ho4 hg4; have HO4 := hide ho4; have HW4 := hide (HW.out.grown hg4 HW.out.size (fun j e => (HO.out.blk j e).1)); clear ho4 hg4)
      go_ret
      exact ⟨_, rfl, by rw [← HEN.out]; exact HO4.out, HW4.out⟩
end Go.Proofs.Ytjhmnimbncfhoaa.So
