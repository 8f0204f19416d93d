/-
  The document's own Sort: each record goes behind all that are not greater.
-/
import Derived.Test.YtlbplicafcoifaaSoMerged
namespace Go.Proofs.Ytlbplicafcoifaa.So
open Go.ChangeShapes Go.WideShapes Go.ChangeAt Go.RowKit
open Go.Proofs.Ytlbplicafcoifaa.Base
set_option linter.unusedVariables false
theorem own_slice' {w : World} {base n : Nat} {v : Value} {rs : List Rec} (h : OwnR w base v rs) (hl : rs.length = n) : ∃ a c, v = .slice a n c ∧ n ≤ c ∧ c ≤ 9223372036854775807 ∧ (a = none → n = 0 ∧ c = 0) := by
  subst hl
  rcases h.2 with ⟨h1, h2⟩ | ⟨g, cap, cur, h1, _, _, h2, h3, _⟩
  · exact ⟨none, 0, by rw [h1, h2], by omega, by omega, fun _ => ⟨h2, rfl⟩⟩
  · exact ⟨_, _, h1, h2, by unfold maxLen at h3; omega, fun e => nomatch e⟩
theorem cutR_h (a : Option Addr) (len cap k : Nat) (h : k ≤ cap) : ∀ W, (Instr.sliceAt 38 (.slice a len cap) none (some (.int .i64 (k : Int))) none).run Try.prog W = .ok (.slice a k cap) W := by
  intro W
  rw [run_sliceAt_slice (h := elR), run_slice_h (ht := elR) (h0 := by omega) (h2 := by omega), szR]
  simp only [Result.andThen, sliced, Int.toNat_natCast, Nat.zero_mul, Nat.sub_zero]
  have e : a.map (fun x : Addr => x.add 0) = a := by
    cases a with
    | none => rfl
    | some ad =>
      show some _ = some _
      congr 1
  split
  · rfl
  · rw [e]
theorem getD_take (rs : List Rec) (k j : Nat) (h : j < k) : (rs.take k).getD j rec0 = rs.getD j rec0 := by
  rw [List.getD_eq_getElem?_getD, List.getD_eq_getElem?_getD, List.getElem?_take_of_lt h]
theorem RdR.take {w : World} {a : Option Addr} {len k : Nat} {rs : List Rec} (h : RdR w a len rs) (hk : k ≤ len) : RdR w a k (rs.take k) := by
  refine ⟨by rw [List.length_take, h.1]; omega, fun hp => ?_⟩
  obtain ⟨b, off, e, hl, hc⟩ := h.2 (by omega)
  refine ⟨b, off, e, hl, fun j hj => ?_⟩
  rw [getD_take _ _ _ hj]
  exact hc j (by omega)
theorem take_snoc (rs : List Rec) (i : Nat) (h : i < rs.length) : rs.take (i + 1) = rs.take i ++ [rs.getD i rec0] := by
  rw [List.take_succ_eq_append_getElem h, List.getD_eq_getElem?_getD, List.getElem?_eq_getElem h]; rfl
/-- Where the search from the right has come to its end. -/
theorem ins_here (x : Rec) (O : List Rec) (k : Nat) (hs : Srt O) (hk : k ≤ O.length) (hb : ∀ j, k ≤ j → j < O.length → le (O.getD j rec0) x = false) (he : k = 0 ∨ le (O.getD (k - 1) rec0) x = true) : ins x O = O.take k ++ x :: O.drop k := by
  have h1 := ins_at x (O.take k) (O.drop k) (fun y hy => ?_) (fun y hy => ?_)
  · rw [List.take_append_drop] at h1; exact h1
  · obtain ⟨j, hj⟩ := List.mem_iff_getElem?.1 hy
    have hjk : j < k := by
      by_cases q : j < k
      · exact q
      · rw [List.getElem?_eq_none (by rw [List.length_take]; omega)] at hj; cases hj
    rw [List.getElem?_take_of_lt hjk] at hj
    rcases he with he | he
    · omega
    · by_cases e : j = k - 1
      · subst e
        rw [List.getD_eq_getElem?_getD, hj] at he
        exact he
      · have hlt : k - 1 < O.length := by omega
        have hjl : j < O.length := by omega
        have hp := List.pairwise_iff_getElem.1 hs j (k - 1) hjl hlt (by omega)
        rw [List.getD_eq_getElem?_getD, List.getElem?_eq_getElem hlt] at he
        rw [List.getElem?_eq_getElem hjl] at hj
        have := Option.some.inj hj
        subst this
        exact le_trans hp he
  · cases hd : O.drop k with
    | nil => rw [hd] at hy; cases hy
    | cons z r =>
      rw [hd] at hy
      have hz : z = y := by simpa using hy
      have hkl : k < O.length := by
        by_cases q : k < O.length
        · exact q
        · rw [List.drop_eq_nil_of_le (by omega)] at hd; cases hd
      have h2 := hb k (Nat.le_refl _) hkl
      rw [getD_cons hkl] at hd
      have h3 := (List.cons.inj hd).1
      rw [h3, hz] at h2
      exact h2
set_option maxHeartbeats 8000000 in
set_option maxRecDepth 100000 in
theorem refSort_any (a : Option Addr) (n cap : Nat) (rs : List Rec) (w : World) (hr : RdR w a n rs) (hl : n * 40 ≤ 140737488355328) :
    Calls Try.prog 23 #[.slice a n cap] w fun e w' => ∃ v, e = .returned v ∧ OwnR w' w.heap.size v (isort rs) ∧ Below w.heap.size w w' := by
  have HR := hide hr
  have HL := hide hr.1
  clear hr
  go_enter Try.func23, Try.ntmps23
  go_wp2_with fail
  go_loopw [3, 4] (fun s3 s4 wr => ∃ (oa : Option Addr) (oc i : Nat), .slice oa i oc = s3 ∧ .int .i64 (i : Int) = s4 ∧ i ≤ n ∧ i ≤ oc ∧ oc ≤ 9223372036854775807 ∧ Hid (oa = none → i = 0 ∧ oc = 0) ∧ Hid (OwnR wr w.heap.size (.slice oa i oc) (isort (rs.take i))) ∧ Hid (Below w.heap.size w wr)) (fun _ s4 _ => n - (intOf s4).toNat)
  case atStart => exact ⟨none, 0, 0, rfl, rfl, by omega, by omega, by omega, (fun _ => ⟨rfl, rfl⟩), own_nil _ _, Below.refl _ _⟩
  case round =>
    obtain ⟨oa, oc, i, rfl, rfl, hi, hio, hoc, HN, HO, HW⟩ := hrel
    by_cases hin : i < n
    · have hii : (i : Int) < (n : Int) := by omega
      obtain ⟨b2, o2, rfl, hl2, hc2⟩ := HR.out.2 (by omega)
      obtain ⟨e0, e1, e2⟩ := hc2 i hin
      have HY : Hid (∀ V, Below w.heap.size w V → V.cell? ⟨b2, o2 + i * 3, none⟩ = some (.int .i64 (rs.getD i rec0).p) ∧ V.cell? ⟨b2, o2 + i * 3 + 1, none⟩ = some (.string (rs.getD i rec0).k) ∧ V.cell? ⟨b2, o2 + i * 3 + 2, none⟩ = some (.string (rs.getD i rec0).v)) := fun V hV => ⟨(hV.cell (p := ⟨b2, o2 + i * 3, none⟩) hl2).trans e0, (hV.cell (p := ⟨b2, o2 + i * 3 + 1, none⟩) hl2).trans e1, (hV.cell (p := ⟨b2, o2 + i * 3 + 2, none⟩) hl2).trans e2⟩
      clear e0 e1 e2 hc2
      obtain ⟨O, hO⟩ : ∃ O, isort (rs.take i) = O := ⟨_, rfl⟩
      have HOE := hide hO
      have HOS : Hid (Srt O) := by rw [← hO]; exact srt_isort _
      have HOL : Hid (O.length = i) := by rw [← hO]; show _ = _; rw [length_isort, List.length_take, HL.out]; omega
      rw [hO] at HO
      clear hO
      obtain ⟨x, hx⟩ : ∃ x, rs.getD i rec0 = x := ⟨_, rfl⟩
      have HX := hide hx
      rw [hx] at HY
      clear hx
      have HLT2 : Hid (b2 < w.heap.size) := hl2
      obtain ⟨W0, rfl⟩ : ∃ W0, W0 = wr := ⟨_, rfl⟩
      go_wp2_with fail
      go_loopw [5] (fun s5 wq => ∃ k : Nat, .int .i64 (k : Int) = s5 ∧ k ≤ i ∧ Hid (∀ j, k ≤ j → j < i → le (O.getD j rec0) x = false) ∧ Hid (Below W0.heap.size W0 wq)) (fun s5 _ => (intOf s5).toNat)
      case atStart => exact ⟨i, rfl, Nat.le_refl _, (fun j h1 h2 => by omega), Below.refl _ _⟩
      case round =>
        obtain ⟨k, rfl, hki, HK, HQ⟩ := hrel
        have HWQ := hide (below_trans HW.out HQ.out)
        have HOQ := hide (HO.out.below HQ.out)
        go_upto_region 6 with fail
        go_cut [29] from 15 to 31 (fun s29 wx => ∃ tk : Bool, .bool tk = s29 ∧ Hid (tk = true → 0 < k ∧ le (O.getD (k - 1) rec0) x = false) ∧ Hid (tk = false → k = 0 ∨ le (O.getD (k - 1) rec0) x = true) ∧ Hid (Below wr.heap.size wr wx))
        case first =>
          by_cases hk0 : 0 < k
          · obtain ⟨k', hkk⟩ : ∃ k', k - 1 = k' := ⟨_, rfl⟩
            have HKK := hide hkk
            have hk1 : (k : Int) - 1 = (k' : Int) := by omega
            have hk2 : (0 : Int) < (k : Int) := by omega
            have hk2d : decide ((0 : Int) < (k : Int)) = true := by simpa using hk0
            have hk3 : (k' : Int) < (i : Int) := by omega
            have hk4 : k' < i := by omega
            have hk5 : IntKind.i64.wrap ((k : Int) - 1) = (k' : Int) := by rw [IntKind.wrap_i64]; omega
            have hk6 : IntKind.i64.wrap (k' : Int) = (k' : Int) := by rw [IntKind.wrap_i64]; omega
            have hk7 : k' < i := by omega
            clear hkk
            obtain ⟨b1, o1, rfl, hl1, hc1⟩ := (own_rdr HOQ.out).2 (by omega)
            obtain ⟨p0, p1, p2⟩ := hc1 k' hk4
            obtain ⟨q0, q1, q2⟩ := HY.out _ HWQ.out
            have HC := hide (fun W => refCmp_any (O.getD k' rec0) x W)
            have HLT : Hid (b1 < wr.heap.size ∧ b2 < wr.heap.size) := ⟨hl1, Nat.lt_of_lt_of_le HLT2.out HWQ.out.size⟩
            obtain ⟨z, hz⟩ : ∃ z, cmpR (O.getD k' rec0) x = z := ⟨_, rfl⟩
            rw [hz] at HC
            have HZ := hide hz
            clear hz hc1
            unfold Rec.val at HC
            generalize O.getD k' rec0 = y at p0 p1 p2 HC
            have HS : Hid ((wr.cell? ⟨b1, o1 + k' * 3, none⟩ = some (.int .i64 y.p) ∧ wr.cell? ⟨b1, o1 + k' * 3 + 1, none⟩ = some (.string y.k) ∧ wr.cell? ⟨b1, o1 + k' * 3 + 2, none⟩ = some (.string y.v)) ∧ wr.cell? ⟨b2, o2 + i * 3, none⟩ = some (.int .i64 x.p) ∧ wr.cell? ⟨b2, o2 + i * 3 + 1, none⟩ = some (.string x.k) ∧ wr.cell? ⟨b2, o2 + i * 3 + 2, none⟩ = some (.string x.v)) := ⟨⟨p0, p1, p2⟩, q0, q1, q2⟩
            by_cases hzz : 0 < z
            · first | (go_region_held_law (fun V => (V.cell? ⟨b1, o1 + k' * 3, none⟩ = some (.int .i64 y.p) ∧ V.cell? ⟨b1, o1 + k' * 3 + 1, none⟩ = some (.string y.k) ∧ V.cell? ⟨b1, o1 + k' * 3 + 2, none⟩ = some (.string y.v)) ∧ V.cell? ⟨b2, o2 + i * 3, none⟩ = some (.int .i64 x.p) ∧ V.cell? ⟨b2, o2 + i * 3 + 1, none⟩ = some (.string x.k) ∧ V.cell? ⟨b2, o2 + i * 3 + 2, none⟩ = some (.string x.v)) (first | exact E6.out | go_keep) (first
                | (go_at_call 28; refine (HC.out _).mono ?_; rintro e w6 ⟨rfl, hb6⟩; have hbw : Below wr.heap.size wr w6 := below_trans ((Below.refl _ _).drew) hb6; have HB6 := hide hbw; have E6 := hide (six_cells2 HLT.out.1 HLT.out.2 hbw HS.out); clear hb6 hbw))) | fail
              all_goals
                go_wp2_with fail
                go_meet
                case rel => exact ⟨true, rfl, (fun _ => ⟨hk0, (le_not _ _).2 (by have := HZ.out; rw [HKK.out]; omega)⟩), (fun h => nomatch h), HB6.out⟩
            · have HZN := hide hzz
              first | (go_region_held_law (fun V => (V.cell? ⟨b1, o1 + k' * 3, none⟩ = some (.int .i64 y.p) ∧ V.cell? ⟨b1, o1 + k' * 3 + 1, none⟩ = some (.string y.k) ∧ V.cell? ⟨b1, o1 + k' * 3 + 2, none⟩ = some (.string y.v)) ∧ V.cell? ⟨b2, o2 + i * 3, none⟩ = some (.int .i64 x.p) ∧ V.cell? ⟨b2, o2 + i * 3 + 1, none⟩ = some (.string x.k) ∧ V.cell? ⟨b2, o2 + i * 3 + 2, none⟩ = some (.string x.v)) (first | exact E6.out | go_keep) (first
                | (go_at_call 28; refine (HC.out _).mono ?_; rintro e w6 ⟨rfl, hb6⟩; have hbw : Below wr.heap.size wr w6 := below_trans ((Below.refl _ _).drew) hb6; have HB6 := hide hbw; have E6 := hide (six_cells2 HLT.out.1 HLT.out.2 hbw HS.out); clear hb6 hbw))) | fail
              all_goals
                go_wp2_with fail
                go_meet
                case rel => exact ⟨false, (by rw [show decide (0 < z) = false by rw [decide_eq_false_iff_not]; have := HZN.out; omega]), (fun h => nomatch h), (fun _ => .inr ((le_iff _ _).2 (by have h1 := HZ.out; have h2 := HZN.out; rw [HKK.out]; omega))), HB6.out⟩
          · obtain rfl : k = 0 := by omega
            go_quiet (fail)
            go_wp2_with fail
            go_meet
            case rel => exact ⟨false, rfl, (fun h => nomatch h), (fun _ => .inl (by trivial)), below_drewN' _ _ _⟩
        case rest =>
          obtain ⟨tk, rfl, HT1, HT2, HBX⟩ := hcut
          cases tk with
          | true =>
            obtain ⟨hk0, hle⟩ := HT1.out rfl
            have HLE := hide hle
            clear hle
            go_wp2_with fail
            go_roundw
            case rel => exact ⟨k - 1, (by rw [show ((k - 1 : Nat) : Int) = (k : Int) - 1 by omega]), by omega, (fun j h1 h2 => by
              by_cases e : j = k - 1
              · subst e; exact HLE.out
              · exact HK.out j (by omega) h2), below_trans HQ.out HBX.out⟩
            case measure => simp [intOf]; omega
          | false =>
            have HINS := hide (ins_here x O k HOS.out (by rw [HOL.out]; exact hki) (fun j h1 h2 => HK.out j h1 (by rw [HOL.out] at h2; exact h2)) (HT2.out rfl))
            have HOC := hide (HOQ.out.below HBX.out)
            have HWC := hide (below_trans HWQ.out HBX.out)
            have hcut1 := cutR_h oa i oc k (by omega)
            obtain ⟨oa2, hsl, hn2, ha2⟩ := cutR_any oa i oc k hki hio HN.out
            have HN2 := hide hn2
            have HA2 := hide ha2
            clear hn2 ha2 HT1 HT2 HK HQ HOQ HO
            obtain ⟨gc, hgc⟩ : ∃ gc, wc.heap.size = gc := ⟨_, rfl⟩
            have HOB : Hid (∀ j, (Value.slice oa i oc).ownBlock = some j → j < gc) := fun j e => by have := (HOC.out.blk j e).2; omega
            have HE := hide (own_nil wc gc)
            go_wp2_with (first
              | (at_builtin; refine joinR _ rfl _ _ rfl gc (.slice none 0 0) [] rfl HE.out oa k oc (O.take k) rfl ((own_rdr HOC.out).take hki) (fun e => ⟨by have := HN.out e; omega, (HN.out e).2⟩) (by simp; omega) (by omega) ?_
                 intro v4 w4 ho4 hg4
                 have HO4 := hide ho4
                 have HB4 : Hid (Below wc.heap.size wc w4) := ⟨hg4.os, hg4.tape, hg4.output, hg4.size, fun j hj => hg4.block j hj (by simp [Value.ownBlock])⟩
                 have HW4 := hide (below_trans HWC.out HB4.out)
                 obtain ⟨p0, p1, p2⟩ := HY.out _ HW4.out
                 obtain ⟨g5, hg5⟩ : ∃ g, w4.heap.size = g := ⟨_, rfl⟩
                 obtain ⟨w5, hw5⟩ : ∃ w5, w4.alloc (.cells #[.int .i64 x.p, .string x.k, .string x.v] 34) = w5 := ⟨_, rfl⟩
                 have HB5 : Hid (Below w4.heap.size w4 w5) := by rw [← hw5]; exact (Below.refl _ _).alloc (Nat.le_refl _) _
                 have HR5 : Hid (RB w5 g5 x) := by rw [← hw5, ← hg5]; exact heap_alloc_new _ _
                 have HO5 := hide (HO4.out.below HB5.out)
                 have HC5 := hide (below_trans HB4.out HB5.out)
                 clear ho4 hg4 HE)
              | (at_builtin; refine joinR _ rfl _ _ rfl gc v4 ([] ++ O.take k) rfl HO5.out (some ⟨g5, 0, none⟩) 1 1 [x] rfl (rdr_one HR5.out) (fun e => nomatch e) (by rw [List.nil_append, List.length_take, HOL.out]; omega) (by have := HC5.out.size; omega) ?_
                 intro v6 w6 ho6 hg6
                 have HO6 := hide ho6
                 have HC6 : Hid (Below wc.heap.size wc w6) := HC5.out.grown hg6 HC5.out.size (fun j e => by have := (HO5.out.blk j e).1; omega)
                 have HW6 := hide (below_trans HWC.out HC6.out)
                 have HD6 := hide (((own_rdr HOC.out).below HC6.out).drop hki HA2.out)
                 clear ho6 hg6 HO5 HR5)
              | (at_builtin; refine joinR _ rfl _ _ rfl gc v6 (([] ++ O.take k) ++ [x]) rfl HO6.out oa2 (i - k) (oc - k) (O.drop k) rfl HD6.out HN2.out (by rw [List.nil_append, List.length_append, List.length_take, HOL.out]; simp; omega) (by have := HC6.out.size; omega) ?_
                 intro v7 w7 ho7 hg7
                 have HC7 : Hid (Below wc.heap.size wc w7) := HC6.out.grown hg7 HC6.out.size (fun j e => by have := (HO6.out.blk j e).1; omega)
                 have HW7 := hide (below_trans HWC.out HC7.out)
                 rw [show ([] ++ O.take k ++ [x] ++ O.drop k) = isort (rs.take (i + 1)) by
                   rw [take_snoc rs i (by rw [HL.out]; exact hin), isort_snoc, HX.out, HOE.out, HINS.out]; simp] at ho7
                 have HO7 := hide (ho7.base (b' := w.heap.size) (by have := HWC.out.size; omega))
                 obtain ⟨na7, nc7, hv7, h71, h72, h73⟩ := own_slice' (n := i + 1) ho7 (by rw [length_isort, List.length_take, HL.out]; omega)
                 subst hv7
                 have HN7 := hide h73
                 clear ho7 hg7 h73 HO6))
            go_roundw
            case rel => exact ⟨na7, nc7, i + 1, rfl, by go_num, by omega, h71, h72, HN7, HO7, HW7⟩
            case measure => simp [intOf]; omega
    · obtain rfl : i = n := by omega
      go_wp2_with fail
      go_ret
      exact ⟨_, rfl, by have h := HO.out; rw [List.take_of_length_le (by rw [HL.out]; exact Nat.le_refl _)] at h; exact h, HW.out⟩
end Go.Proofs.Ytlbplicafcoifaa.So
