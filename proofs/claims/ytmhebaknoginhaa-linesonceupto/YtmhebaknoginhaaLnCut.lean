/-
  Cut: the pieces of so many bytes.
-/
import Derived.Test.YtmhebaknoginhaaLnCutM
import Derived.Test.YtmhebaknoginhaaLnShelf
import Derived.Test.YtmhebaknoginhaaRowF
import Derived.Deep.Cut
namespace Go.Proofs.Ytmhebaknoginhaa.Ln
open Go.ChangeShapes Go.WideShapes Go.ChangeAt Go.RowKit
open Go.Proofs.Ytmhebaknoginhaa.Base Go.Proofs.Ytmhebaknoginhaa.Rf
set_option linter.unusedVariables false
theorem getD_set_eq (ys : List Int) (k : Nat) (v : Int) (h : k < ys.length) : (ys.set k v).getD k 0 = v := by
  rw [List.getD_eq_getElem?_getD, List.getElem?_set, if_pos rfl, if_pos h]; rfl
theorem getD_set_ne (ys : List Int) (k j : Nat) (v : Int) (h : k ≠ j) : (ys.set k v).getD j 0 = ys.getD j 0 := by
  rw [List.getD_eq_getElem?_getD, List.getElem?_set, if_neg h, List.getD_eq_getElem?_getD]
set_option maxHeartbeats 2000000 in
set_option maxRecDepth 100000 in
theorem brought_any (n : Nat) (a : Option Addr) (len cap : Nat) (xs : List Int) (w : World) (hn : n ≤ 4194304) (hr : RdI w a len xs) (hl : len ≤ 255) :
    Calls Try.prog 30 #[.int .i64 (n : Int), .slice a len cap] w fun e w' => ∃ g, e = .returned (.slice (some ⟨g, 0, none⟩) len len) ∧ RowI 3 w' g (cutS n xs) ∧ w.heap.size ≤ g ∧ Below w.heap.size w w' := by
  have HR := hide hr
  have HL := hide hr.1
  clear hr
  have hmk := make_row_int len (len : Int) rfl (by omega)
  obtain ⟨w1, hw1⟩ : ∃ w1, w.alloc (.cells (ivals (List.replicate len 0)).toArray 3) = w1 := ⟨_, rfl⟩
  have HB1 : Hid (Below w.heap.size w w1) := by rw [← hw1]; exact (Below.refl _ _).alloc (Nat.le_refl _) _
  have HR1 : Hid (RowI 3 w1 w.heap.size (List.replicate len 0)) := by rw [← hw1]; exact World.alloc_heap_new _ _
  obtain ⟨g, hg⟩ : ∃ g, w.heap.size = g := ⟨_, rfl⟩
  rw [hg] at HR1
  have HG := hide hg
  have hni : (n : Int) ≤ 4194304 := by omega
  have hnn : (n : Int) + 1 ≠ 0 := by omega
  go_enter Try.func30, Try.ntmps30
  go_wp2_with fail
  clear hmk hw1
  go_loopw [12] (fun i wr => ∃ (k : Nat) (ys : List Int), k ≤ len ∧ i = .int .i64 (k : Int) ∧ Hid (ys.length = len) ∧ Hid (∀ j, j < k → ys.getD j 0 = md n (xs.getD j 0)) ∧ Hid (RowI 3 wr g ys) ∧ Hid (Below g w wr)) (fun i _ => len - (intOf i).toNat)
  case atStart => exact ⟨0, List.replicate len 0, Nat.zero_le _, rfl, List.length_replicate, (fun j h => absurd h (Nat.not_lt_zero _)), HR1.out, by rw [← HG.out]; exact HB1.out⟩
  case round =>
    obtain ⟨k, ys, hk, rfl, HY, HE, HW, HB⟩ := hrel
    by_cases hlt : k < len
    · have hki : (k : Int) < (len : Int) := by omega
      have HRW : Hid (RdI wr a len xs) := HR.out.below (by rw [HG.out]; exact HB.out)
      obtain ⟨b, off, rfl, hbl, hc⟩ := HRW.out.2.2 (by omega)
      have c1 := hc k hlt
      have HMD := hide (md_tmod n (xs.getD k 0) _ rfl)
      generalize hx : xs.getD k 0 = x at c1 HMD
      have HX := hide hx
      obtain ⟨r, hr⟩ : ∃ r, Int.tmod x ((n : Int) + 1) = r := ⟨_, rfl⟩
      rw [hr] at HMD
      obtain ⟨r1, r2, HM3, HM4⟩ := HMD.out
      have HM3' := hide HM3
      have HM4' := hide HM4
      have hwr : wrap64 r = r := by unfold wrap64; omega
      have hwr2 : IntKind.i64.wrap r = r := by rw [IntKind.wrap_i64]; omega
      have c2 := HW.out.cell k (by rw [HY.out]; exact hlt)
      have f2 := HW.out.frozen k
      clear hc hx HM3 HM4
      have HW2 := hide (HW.out.store k r)
      have c3 := HW2.out.cell k (by rw [List.length_set, HY.out]; exact hlt)
      have f3 := HW2.out.frozen k
      rw [getD_set_eq ys k r (by rw [HY.out]; exact hlt)] at c3
      by_cases hneg : r < 0
      · have hs : r + ((n : Int) + 1) = md n x := HM3'.out hneg
        obtain ⟨m, hm⟩ : ∃ m, md n x = m := ⟨_, rfl⟩
        have HMM := hide hm
        rw [hm] at hs
        have hb := md_bd n x
        rw [hm] at hb
        have hs2 : IntKind.i64.wrap (r + ((n : Int) + 1)) = m := by rw [hs, IntKind.wrap_i64]; omega
        have HW3 := hide (HW2.out.store k m)
        have HGW := hide (grown_set wr g k (.int .i64 r))
        have HGW2 := hide (grown_set (wr.setCell ⟨g, k, none⟩ (.int .i64 r)) g k (.int .i64 m))
        clear hm
        go_wp2_with fail
        go_roundw
        case rel =>
          refine ⟨k + 1, _, hlt, by go_num, ?_, fun j hj => ?_, HW3.out, ?_⟩
          · show (List.set _ _ _).length = _; rw [List.length_set, List.length_set, HY.out]
          · by_cases e : j = k
            · subst e; rw [getD_set_eq _ _ _ (by rw [List.length_set, HY.out]; exact hlt), HX.out, HMM.out]
            · rw [getD_set_ne _ _ _ _ (fun h => e h.symm), getD_set_ne _ _ _ _ (fun h => e h.symm)]; exact HE.out j (by omega)
          · exact (HB.out.grown HGW.out (by have := HB.out.size; have := HW.out.lt; omega) (fun i e => by cases e; exact Nat.le_refl _)).grown HGW2.out (by have := HW2.out.lt; omega) (fun i e => by cases e; exact Nat.le_refl _)
        case measure => simp [intOf]; omega
      · have hs : r = md n x := HM4'.out hneg
        have HGW := hide (grown_set wr g k (.int .i64 r))
        have HS := hide hs
        clear hs
        go_wp2_with fail
        go_roundw
        case rel =>
          refine ⟨k + 1, _, hlt, by go_num, ?_, fun j hj => ?_, HW2.out, ?_⟩
          · show (List.set _ _ _).length = _; rw [List.length_set, HY.out]
          · by_cases e : j = k
            · subst e; rw [getD_set_eq _ _ _ (by rw [HY.out]; exact hlt), HX.out, HS.out]
            · rw [getD_set_ne _ _ _ _ (fun h => e h.symm)]; exact HE.out j (by omega)
          · exact HB.out.grown HGW.out (by have := HB.out.size; have := HW.out.lt; omega) (fun i e => by cases e; exact Nat.le_refl _)
        case measure => simp [intOf]; omega
    · obtain rfl : len = k := by omega
      have HXS : Hid (ys = xs.map (md n)) := by
        show ys = _
        apply List.ext_getElem
        · rw [List.length_map, HL.out, HY.out]
        · intro i h1 h2
          have h3 := HE.out i (by rw [← HY.out]; exact h1)
          rw [List.getD_eq_getElem?_getD, List.getElem?_eq_getElem h1, List.getD_eq_getElem?_getD, List.getElem?_eq_getElem (by rw [List.length_map] at h2; exact h2)] at h3
          simpa using h3
      have HSO : Hid (Calls Try.prog 33 #[.slice (some ⟨g, 0, none⟩) len len] wr fun e w' => e = .returned (.tuple #[]) ∧ RowI 3 w' g (cutS n xs) ∧ wr.grownBy w' (some g)) := by
        have h := sort_any ys g len wr HW.out (by rw [HY.out]; omega)
        rw [HY.out, HXS.out] at h
        exact h
      have HGL := hide HW.out.lt
      go_wp2_with (go_at_call 33; refine HSO.out.mono ?_; rintro e w2 ⟨rfl, h2, h3⟩; have HR2 := hide h2; have HB2 := hide (HB.out.grown h3 (by have := HB.out.size; have := HGL.out; omega) (fun i e => by cases e; exact Nat.le_refl _)); clear h2 h3)
      go_ret
      exact ⟨g, rfl, HR2.out, by have := HG.out; omega, by first | exact HB2.out | (rw [HG.out]; exact HB2.out)⟩
end Go.Proofs.Ytmhebaknoginhaa.Ln
