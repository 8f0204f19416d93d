/-
  The document's Damage.
-/
import Derived.Test.YtbmbhcjocgbbpaaFaDamage
import Derived.Test.YtbmbhcjocgbbpaaFaGood2
namespace Go.Proofs.Ytbmbhcjocgbbpaa.Fa
open Go.ChangeShapes Go.WideShapes Go.ChangeAt Go.RowKit
open Go.Proofs.Ytbmbhcjocgbbpaa.Base Go.Proofs.Ytbmbhcjocgbbpaa.St
set_option linter.unusedVariables false
theorem res_pos (bs : List (BitVec 8)) (P : Nat) : resL bs (P : Int) = bs ++ List.replicate P 0#8 := by
  unfold resL
  rw [show ((bs.length : Int) + (P : Int)).toNat = bs.length + P by omega, List.take_of_length_le (by omega), show bs.length + P - bs.length = P by omega]
theorem res_none (bs : List (BitVec 8)) (p : Int) (h : (bs.length : Int) ≤ -p) : resL bs p = [] := by
  unfold resL
  rw [show ((bs.length : Int) + p).toNat = 0 by omega]
  simp
theorem res_neg (bs : List (BitVec 8)) (p : Int) (m : Nat) (h : p ≤ 0) (hm : (bs.length : Int) + p = (m : Int)) : resL bs p = bs.take m := by
  unfold resL
  rw [hm, Int.toNat_natCast, show m - bs.length = 0 by omega]
  simp
theorem shl8' (t : Nat) (h : t < 8) : (2 : Int) ^ t % 256 = ((1#8 <<< t).toNat : Int) := fshl8 ⟨t, h⟩
set_option maxHeartbeats 2000000 in
set_option maxRecDepth 100000 in
theorem refDam_any (a : Option Addr) (len cap : Nat) (f : Flt) (bs : List (BitVec 8)) (w : World) (hr : Rd w a len bs) (hnil : a = none → len = 0 ∧ cap = 0) (hl : len ≤ 140737488351232) (hp : f.p ≤ 9223372036854775807) :
    Calls Try.prog 12 #[.slice a len cap, f.val] w fun e w' => ∃ v, e = .returned v ∧ Own w' w.heap.size v (damL bs f) ∧ Below w.heap.size w w' := by
  have HM := hide (good_any f)
  have HD : Hid (damL bs f = if may f = true then (if f.k = 1 then flipL bs f.p.toNat f.q else if f.k = 2 then resL bs f.p else bs) else bs) := rfl
  have HS : Hid (may f = true → (f.k = 0 ∨ f.k = 1 ∨ f.k = 2) ∧ (f.k = 1 → 0 ≤ f.p) ∧ (f.k = 2 → -268435456 ≤ f.p ∧ f.p ≤ 4096 ∧ f.p ≠ 0)) := fun h => by
    simp [may, isPl, isCh] at h
    omega
  generalize damL bs f = D at HD ⊢
  generalize may f = M at HM HD HS
  obtain ⟨k, j, t, at_, m, r, p, q⟩ := f
  unfold Flt.val at HM ⊢
  simp only at HM HD HS hp ⊢
  have HL := hide hr.1
  have HR1 := hide (hr.below (ba (ba (b0 w) (.cells #[.int .i64 k, .int .i64 j, .int .i64 t, .int .i64 at_, .int .i64 m, .int .i64 r, .int .i64 p, .int .u32 (q.toNat : Int)] 25)) (.cells #[] 5)))
  have HNIL := hide hnil
  obtain ⟨w1, hw1⟩ : ∃ w1, w.alloc (.cells #[.int .i64 k, .int .i64 j, .int .i64 t, .int .i64 at_, .int .i64 m, .int .i64 r, .int .i64 p, .int .u32 (q.toNat : Int)] 25) = w1 := ⟨_, rfl⟩
  have hs1 : w1.heap.size = w.heap.size + 1 := by rw [← hw1]; simp
  have HB0 : Hid (Below w.heap.size w w1) := by show Below _ _ _; rw [← hw1]; exact ba (b0 _) _
  have HO1 : Hid (Own (w1.alloc (.cells #[] 5)) w1.heap.size (.slice (some ⟨w1.heap.size, 0, none⟩) 0 0) []) := own_empty w1 _ (Nat.le_refl _)
  have HC1 : Hid (w1.heap[w.heap.size]? = some (.cells #[.int .i64 k, .int .i64 j, .int .i64 t, .int .i64 at_, .int .i64 m, .int .i64 r, .int .i64 p, .int .u32 (q.toNat : Int)] 25)) := by show _ = _; rw [← hw1]; exact heap_alloc_new _ _
  rw [hw1] at HR1
  have HS1 := hide hs1
  clear hr hnil hs1
  go_enter Try.func12, Try.ntmps12
  go_wp2_with (at_builtin; refine join _ rfl _ _ rfl w1.heap.size (.slice (some ⟨w1.heap.size, 0, none⟩) 0 0) [] rfl HO1.out a len cap bs rfl HR1.out HNIL.out (by simp; omega) (by simp) ?_
               intro v3 w3 ho3 hg3
               rw [List.nil_append] at ho3
               have HO3 := hide ho3
               have HB3 : Hid (Below w1.heap.size w1 w3) := ((Below.refl w1.heap.size w1).alloc (Nat.le_refl _) _).grown hg3 (by simp) (fun i e => by cases e; exact Nat.le_refl _)
               have HC3 := hide ((HB3.out.block w.heap.size (by have := HS1.out; omega)).trans HC1.out)
               have c0 : w3.cell? ⟨w.heap.size, 0, none⟩ = some (.int .i64 k) := by rw [cell_of_row _ _ _ _ _ _ HC3.out]; rfl
               have c1 : w3.cell? ⟨w.heap.size, 1, none⟩ = some (.int .i64 j) := by rw [cell_of_row _ _ _ _ _ _ HC3.out]; rfl
               have c2 : w3.cell? ⟨w.heap.size, 2, none⟩ = some (.int .i64 t) := by rw [cell_of_row _ _ _ _ _ _ HC3.out]; rfl
               have c3 : w3.cell? ⟨w.heap.size, 3, none⟩ = some (.int .i64 at_) := by rw [cell_of_row _ _ _ _ _ _ HC3.out]; rfl
               have c4 : w3.cell? ⟨w.heap.size, 4, none⟩ = some (.int .i64 m) := by rw [cell_of_row _ _ _ _ _ _ HC3.out]; rfl
               have c5 : w3.cell? ⟨w.heap.size, 5, none⟩ = some (.int .i64 r) := by rw [cell_of_row _ _ _ _ _ _ HC3.out]; rfl
               have c6 : w3.cell? ⟨w.heap.size, 6, none⟩ = some (.int .i64 p) := by rw [cell_of_row _ _ _ _ _ _ HC3.out]; rfl
               have c7 : w3.cell? ⟨w.heap.size, 7, none⟩ = some (.int .u32 (q.toNat : Int)) := by rw [cell_of_row _ _ _ _ _ _ HC3.out]; rfl
               clear ho3 hg3)
  refine (HM.out _).mono ?_
  rintro e w4 ⟨rfl, hb4⟩
  have hsz : w.heap.size < w3.heap.size := by have h1 := HS1.out; have h2 := HB3.out.size; omega
  obtain ⟨hc, hz⟩ := bcell hb4
  have HB4 := hide (below_trans (below_trans HB0.out HB3.out) hb4)
  have HO4 := hide ((HO3.out.below hb4).mono HB0.out.size)
  have hw4 : w.heap.size ≤ w4.heap.size := HB4.out.size
  have HW4 := hide hw4
  clear hb4 hw4
  cases M
  · have HQ : Hid (D = bs) := by show _ = _; rw [HD.out, if_neg (by simp)]
    clear HD HS
    go_wp2_with fail
    go_ret
    exact ⟨_, rfl, by rw [HQ.out]; exact HO4.out, HB4.out⟩
  · obtain ⟨s0, s1, s2⟩ := HS.out rfl
    rcases s0 with rfl | rfl | rfl
    · have HQ : Hid (D = bs) := by show _ = _; rw [HD.out, if_pos rfl, if_neg (by omega), if_neg (by omega)]
      clear HD HS s1 s2
      go_wp2_with fail
      go_ret
      exact ⟨_, rfl, by rw [HQ.out]; exact HO4.out, HB4.out⟩
    · have HQ : Hid (D = flipL bs p.toNat q) := by show _ = _; rw [HD.out, if_pos rfl, if_pos rfl]
      have hp0 := s1 rfl
      clear HD HS s1 s2
      obtain ⟨P, rfl⟩ := Int.eq_ofNat_of_zero_le hp0
      rw [Int.toNat_natCast] at HQ
      by_cases h0 : len = 0
      · subst h0
        have hb0 : bs = [] := List.length_eq_zero_iff.1 HL.out
        subst hb0
        obtain ⟨va, vc, rfl⟩ := HO4.out.shape
        go_wp2_with fail
        go_ret
        refine ⟨_, rfl, ?_, HB4.out⟩
        have e : flipL [] P q = [] := List.length_eq_zero_iff.1 (by unfold flipL; rw [flipTo_len]; rfl)
        rw [HQ.out, e]
        exact HO4.out
      · obtain ⟨g, vc, rfl⟩ := own_some HO4.out HL.out (by omega)
        have HG := hide HO4.out.lt'.1
        have hne0 : (w.heap.size == g) = false := by
          have h1 := (HO3.out.lt').1
          have h2 := HS1.out
          simp; omega
        have hneg : ¬ g = w.heap.size := by
          have h1 := (HO3.out.lt').1
          have h2 := HS1.out
          omega
        have HNG := hide hneg
        clear hneg hne0
        have hlen0 : 0 < len := by omega
        have hm1 : P % (8 * len) < 8 * len := Nat.mod_lt _ (by omega)
        obtain ⟨F, hF⟩ : ∃ F, P % (8 * len) = F := ⟨_, rfl⟩
        rw [hF] at hm1
        have hF1 : (P : Int) % (8 * (len : Int)) = (F : Int) := by rw [← hF, Int.natCast_emod]; rfl
        have hF2 : Int.tmod (P : Int) (8 * (len : Int)) = (F : Int) := by rw [Int.tmod_eq_emod_of_nonneg (by omega), hF1]
        have HF : Hid (flipL bs P q = flipTo bs F q 32) := by show _ = _; unfold flipL; rw [HL.out, hF]
        have hlb : (len : Int) ≤ 140737488351232 := by omega
        have hFi : (F : Int) < 8 * (len : Int) := by omega
        have hne : ((len : Int) == 0) = false := by simp; omega
        have HC4 : Hid (w4.cell? ⟨w.heap.size, 7, none⟩ = some (.int .u32 (q.toNat : Int))) := (hc _ _ hsz).trans c7
        clear hF h0 hm1
        go_wp2_with fail
        go_loopw [7] (fun i wr => ∃ k : Nat, k ≤ 32 ∧ i = .int .i64 (k : Int) ∧ Hid (Own wr w.heap.size (.slice (some ⟨g, 0, none⟩) len vc) (flipTo bs F q k)) ∧ Hid (Below w.heap.size w wr) ∧ Hid (wr.cell? ⟨w.heap.size, 7, none⟩ = some (.int .u32 (q.toNat : Int)))) (fun i _ => 32 - (intOf i).toNat)
        case atStart => exact ⟨0, Nat.zero_le _, rfl, HO4.out, HB4.out, HC4.out⟩
        case round =>
          obtain ⟨k, hk, rfl, HO5, HB5, HC5⟩ := hrel
          have c7' := HC5.out
          clear hc hz c0 c1 c2 c3 c4 c5 c6 c7
          by_cases hlt : k < 32
          · have hki : (k : Int) < 32 := by omega
            obtain ⟨t, ht⟩ : ∃ t : Nat, (F : Int) + (k : Int) = (t : Int) := ⟨F + k, by omega⟩
            have hti : (t : Int) ≤ 1125899906842656 := by omega
            obtain ⟨X, hX⟩ : ∃ X, q >>> k = X := ⟨_, rfl⟩
            have m1 : (q.toNat : Int) / (2 : Int) ^ k = (X.toNat : Int) := by rw [fbshr32, hX]
            by_cases hm : q.getLsbD k = true
            · have m2 : (X.toNat : Int) % 2 = 1 := by rw [fmask_mod q X k hX, if_pos hm]
              clear hX
              by_cases hin : t < 8 * len
              · have hini : (t : Int) < 8 * (len : Int) := by omega
                have h8 : (t : Int) / 8 < (len : Int) := by omega
                have g1 := HO5.out.cell (t / 8) (by omega)
                have f1 := HO5.out.frozen (t / 8)
                obtain ⟨c, hcc⟩ : ∃ c, (flipTo bs F q k).getD (t / 8) 0 = c := ⟨_, rfl⟩
                rw [hcc] at g1
                obtain ⟨Y, hY⟩ : ∃ Y, 1#8 <<< (t % 8) = Y := ⟨_, rfl⟩
                have y1 : (2 : Int) ^ (t % 8) % 256 = (Y.toNat : Int) := by rw [fshl_at, hY]
                have y2 := bxor_u8 c Y
                obtain ⟨Z, hZ⟩ : ∃ Z, c ^^^ Y = Z := ⟨_, rfl⟩
                rw [hZ] at y2
                have HZ : Hid ((flipTo bs F q k).set (t / 8) Z = flipTo bs F q (k + 1)) := by
                  show _ = _
                  obtain rfl : t = F + k := by omega
                  rw [flip_in bs F k q hm (by rw [HL.out]; exact hin), ← hZ, ← hcc, ← hY]; rfl
                clear hZ hY hcc
                go_wp2_with fail
                go_region
                go_wp2_with fail
                go_roundw
                case rel =>
                  have h9 := HO5.out.store (t / 8) Z
                  rw [HZ.out] at h9
                  exact ⟨k + 1, by omega, by go_num, h9.1.below ((Below.refl _ _).drew), below_trans (grown_below HB5.out h9.2 HG.out) ((Below.refl _ _).drew), (h9.2.cell HC5.out (fun e => HNG.out (Option.some.inj e).symm))⟩
                case measure => simp [intOf]; omega
              · have hini : ¬ (t : Int) < 8 * (len : Int) := by omega
                go_wp2_with fail
                go_roundw
                case rel => exact ⟨k + 1, by omega, by go_num, by rw [flip_out bs F k q (fun h => by have h1 := h.2; rw [HL.out] at h1; omega)]; exact HO5.out, HB5.out, HC5.out⟩
                case measure => simp [intOf]; omega
            · have m2 : (X.toNat : Int) % 2 = 0 := by rw [fmask_mod q X k hX, if_neg hm]
              clear hX
              go_wp2_with fail
              go_roundw
              case rel => exact ⟨k + 1, by omega, by go_num, by rw [flip_out bs F k q (fun h => hm h.1)]; exact HO5.out, HB5.out, HC5.out⟩
              case measure => simp [intOf]; omega
          · have hki : ¬ (k : Int) < 32 := by omega
            obtain rfl : k = 32 := by omega
            go_wp2_with fail
            go_ret
            exact ⟨_, rfl, by rw [HQ.out, HF.out]; exact HO5.out, HB5.out⟩
    · have HQ : Hid (D = resL bs p) := by show _ = _; rw [HD.out, if_pos rfl, if_neg (by omega), if_pos rfl]
      obtain ⟨g1, g2, g3⟩ := s2 rfl
      clear HD HS s1 s2
      by_cases hp0 : 0 ≤ p
      · obtain ⟨P, rfl⟩ := Int.eq_ofNat_of_zero_le hp0
        have hP : 0 < P := by omega
        have hPi : (0 : Int) ≤ (P : Int) := by omega
        have e0 : resL bs (P : Int) = bs ++ List.replicate P 0#8 := res_pos bs P
        rw [e0] at HQ
        clear e0 hp0
        go_wp2_with (at_builtin
                     obtain ⟨v5, w5, hrun, ho5, hg5⟩ := append_zeros_any 22 w.heap.size P v3 bs w4 HO4.out hP (by rw [HL.out]; omega) HW4.out
                     refine Lib.wpList_append_run _ rfl _ _ _ _ rfl _ _ rfl rfl _ _ hrun ?_
                     have HO5 := hide ho5
                     have HB5 : Hid (Below w.heap.size w w5) := HB4.out.grown hg5 HW4.out (fun i e => (World.ownsRow.lt HO4.out i e).1)
                     clear ho5 hg5 hrun)
        go_ret
        exact ⟨_, rfl, by rw [HQ.out]; exact HO5.out, HB5.out⟩
      · by_cases hpl : (len : Int) ≤ -p
        · have e0 : resL bs p = [] := res_none bs p (by rw [HL.out]; exact hpl)
          rw [e0] at HQ
          clear e0
          obtain ⟨va, vc, rfl⟩ := HO4.out.shape
          rw [HL.out] at HO4 ⊢
          have hpb : -p ≤ 268435456 := by omega
          go_wp2_with fail
          go_ret
          exact ⟨_, rfl, by rw [HQ.out]; exact own_none _ _, HB4.out⟩
        · obtain ⟨N, hN⟩ : ∃ N : Nat, (len : Int) + p = (N : Int) := ⟨((len : Int) + p).toNat, by omega⟩
          have e0 : resL bs p = bs.take N := res_neg bs p N (by omega) (by rw [HL.out]; exact hN)
          rw [e0] at HQ
          clear e0
          have hNl : N < len := by omega
          have hN0 : 0 < N := by omega
          obtain ⟨g, vc, rfl⟩ := own_some HO4.out HL.out (by omega)
          have hcap := HO4.out.cap
          have hNc : N ≤ vc := by omega
          have hNi : (N : Int) ≤ (vc : Int) := by omega
          have hpb : -p ≤ 268435456 := by omega
          go_wp2_with fail
          go_ret
          exact ⟨_, rfl, by rw [HQ.out]; exact HO4.out.cut N (by omega), HB4.out⟩
end Go.Proofs.Ytbmbhcjocgbbpaa.Fa
