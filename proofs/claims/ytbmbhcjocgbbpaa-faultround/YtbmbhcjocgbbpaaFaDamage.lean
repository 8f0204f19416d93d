/-
  Damage: what an entry makes of a file.
-/
import Derived.Test.YtbmbhcjocgbbpaaFaFlip
namespace Go.Proofs.Ytbmbhcjocgbbpaa.Fa
open Go.ChangeShapes Go.WideShapes Go.ChangeAt Go.RowKit
open Go.Proofs.Ytbmbhcjocgbbpaa.Base Go.Proofs.Ytbmbhcjocgbbpaa.St
set_option linter.unusedVariables false
/-- A file of another length. -/
def resL (bs : List (BitVec 8)) (p : Int) : List (BitVec 8) := bs.take ((bs.length : Int) + p).toNat ++ List.replicate (((bs.length : Int) + p).toNat - bs.length) 0#8
/-- What Damage tells. -/
def damL (bs : List (BitVec 8)) (f : Flt) : List (BitVec 8) :=
  if may f = true then (if f.k = 1 then flipL bs f.p.toNat f.q else if f.k = 2 then resL bs f.p else bs) else bs
theorem vals_app (a b : List (BitVec 8)) : vals (a ++ b) = vals a ++ vals b := by simp [vals]
theorem splice_res (bs : List (BitVec 8)) (N m : Nat) (hm : m = min bs.length N) : splice (vals (List.replicate N 0#8)) 0 (vals (bs.take m)) = vals (bs.take N ++ List.replicate (N - bs.length) 0#8) := by
  have e : bs.take m = bs.take N := by
    subst hm
    by_cases h : bs.length ≤ N
    · rw [List.take_of_length_le (by omega), List.take_of_length_le h]
    · rw [show min bs.length N = N by omega]
  unfold splice
  rw [List.take_zero, List.nil_append, vals_app, e]
  congr 1
  simp only [vals, List.map_replicate, List.length_map, List.length_take, List.drop_replicate]
  congr 1
  omega
theorem copy_res {w0 w1 : World} {base g N len cap m : Nat} {a : Option Addr} {bs : List (BitVec 8)} (ho : Own w1 base (.slice (some ⟨g, 0, none⟩) N N) (List.replicate N 0#8)) (hr : Rd w1 a m (bs.take m)) (hm : m = Nat.min len N) (hl : bs.length = len)
    (hb : Below base w0 w1) (hN : N ≤ 140737488355328) : ∃ w2, (∀ ty, (Builtin.copy_ #[22, 22] ty #[.slice (some ⟨g, 0, none⟩) N N, .slice a len cap]).run Try.prog w1 = .ok (.int .i64 m) w2) ∧
      Hid (Own w2 base (.slice (some ⟨g, 0, none⟩) N N) (bs.take N ++ List.replicate (N - bs.length) 0#8)) ∧ Hid (Below base w0 w2) := by
  have hg := ho.heap
  have hgb := ho.lt'
  have hmm : m = min bs.length N := by rw [hl]; exact hm
  have hlen : (bs.take N ++ List.replicate (N - bs.length) 0#8).length = N := by rw [List.length_append, List.length_take, List.length_replicate]; omega
  have hsp := splice_res bs N m hmm
  by_cases h0 : m = 0
  · refine ⟨w1, fun ty => ?_, ?_, hb⟩
    · have h := run_copy_none (P := Try.prog) w1 22 22 ty 5 (some ⟨g, 0, none⟩) a N N len cap Try.underlying22 info1 (by rw [← hm]; exact h0)
      rw [h, h0]
      rfl
    · show Own _ _ _ _
      have e : bs.take N ++ List.replicate (N - bs.length) 0#8 = List.replicate N 0#8 := by
        by_cases h1 : bs.length = 0
        · rw [List.length_eq_zero_iff.1 h1]; simp
        · rw [show N = 0 by omega]; simp
      rw [e]
      exact ho
  · obtain ⟨b, off, he, hlt, hc⟩ := hr.2.2 (by omega)
    subst he
    have hlm : (vals (bs.take m)).length = m := by rw [length_vals, List.length_take]; omega
    refine ⟨w1.setRow g (vals (bs.take N ++ List.replicate (N - bs.length) 0#8)).toArray, fun ty => ?_, ?_, below_setRow hb hgb.1 _⟩
    · have h := run_copy_row Try.prog w1 22 22 ty 5 g 0 N N ⟨b, off, none⟩ len cap (vals (List.replicate N 0#8)).toArray 5 (vals (bs.take m)) Try.underlying22 info1 hg
        (by rw [hlm]; exact hm) (fun j v hv => hr.cells j v hv) (by rw [hlm, List.size_toArray, length_vals, List.length_replicate]; omega) (vals_one _)
      unfold splice at hsp
      rw [h, ← hsp, hlm]
      simp
      rfl
    · have h := own_heap (base := base) (bs := bs.take N ++ List.replicate (N - bs.length) 0#8) (setRow_heap w1 g _ (vals (bs.take N ++ List.replicate (N - bs.length) 0#8)).toArray _ _ hg) hgb.1 (by rw [hlen]; unfold maxLen; omega)
      rw [hlen] at h
      exact h
set_option maxHeartbeats 2000000 in
set_option maxRecDepth 100000 in
theorem resized_any (a : Option Addr) (len cap : Nat) (p : Int) (bs : List (BitVec 8)) (w : World) (hr : Rd w a len bs) (h1 : -268435456 ≤ p) (h2 : p ≤ 4096) (hl : len ≤ 140737488351232) :
    Calls Try.prog 35 #[.slice a len cap, .int .i64 p] w fun e w' => ∃ v, e = .returned v ∧ Own w' w.heap.size v (resL bs p) ∧ Below w.heap.size w w' := by
  have HL := hide hr.1
  have HR := hide hr
  have hli : (len : Int) ≤ 140737488351232 := by omega
  clear hr
  obtain ⟨N, hN⟩ : ∃ N : Nat, ((len : Int) + p).toNat = N := ⟨_, rfl⟩
  have hNm : max (0 : Int) ((len : Int) + p) = (N : Int) := by omega
  have hNb : N ≤ 140737488355328 := by omega
  have HN : Hid (resL bs p = bs.take N ++ List.replicate (N - bs.length) 0#8) := by show _ = _; unfold resL; rw [HL.out, hN]
  obtain ⟨m, hm⟩ : ∃ m, Nat.min len N = m := ⟨_, rfl⟩
  have HM := hide hm
  have hmin : m = min bs.length N := by rw [HL.out]; exact hm.symm
  have HMin := hide hmin
  have hmN : m ≤ N := by rw [← hm]; exact Nat.min_le_right _ _
  have hml : m ≤ len := by rw [← hm]; exact Nat.min_le_left _ _
  clear hN hm hmin
  obtain ⟨i0, hi, hz0, hz1, hz2⟩ := info_parts info8
  go_enter Try.func35, Try.ntmps35
  go_wp2_with
    (at_make; refine wpList_make_full _ rfl _ _ 22 rfl w.heap.size 5 i0 (.int .u8 0) 1 Try.underlying22 hi hz0 hz1 .i64 .i64 _ _ N rfl rfl rfl rfl (by rw [hz2]; omega) (by unfold maxLen; omega) (Nat.le_refl _) ?_
     intro w1 hown hgrow
     have HO1 : Hid (Own w1 w.heap.size (.slice (some ⟨w.heap.size, 0, none⟩) N N) (List.replicate N 0#8)) := by
       show Own _ _ _ _
       unfold Own
       rw [List.length_replicate, ← vals_replicate]
       exact hown
     have HB1 : Hid (Below w.heap.size w w1) := (Below.refl _ _).grown hgrow (Nat.le_refl _) (by intro k h; cases h)
     obtain ⟨w2, hrun, HO2, HB2⟩ := copy_res (cap := cap) HO1.out ((HR.out.below HB1.out).cut m hml) HM.out.symm HL.out HB1.out hNb
     clear hown hgrow)
  go_ret
  exact ⟨_, rfl, by rw [HN.out]; exact HO2.out, HB2.out⟩
set_option maxHeartbeats 2000000 in
set_option maxRecDepth 100000 in
theorem dam_any (a : Option Addr) (len cap : Nat) (f : Flt) (bs : List (BitVec 8)) (w : World) (hr : Rd w a len bs) (hnil : a = none → len = 0 ∧ cap = 0) (hl : len ≤ 140737488351232) (hp : f.p ≤ 9223372036854775807) :
    Calls Try.prog 10 #[.slice a len cap, f.val] w fun e w' => ∃ v, e = .returned v ∧ Own w' w.heap.size v (damL bs f) ∧ Below w.heap.size w w' := by
  have HM := hide (mayBe_any f)
  have HD : Hid (damL bs f = if may f = true then (if f.k = 1 then flipL bs f.p.toNat f.q else if f.k = 2 then resL bs f.p else bs) else bs) := rfl
  have HS : Hid (may f = true → (f.k = 1 → 0 ≤ f.p) ∧ (f.k = 2 → -268435456 ≤ f.p ∧ f.p ≤ 4096)) := fun h => by
    simp [may, isPl, isCh] at h
    omega
  generalize damL bs f = D at HD ⊢
  generalize may f = M at HM HD HS
  obtain ⟨k, j, t, at_, m, r, p, q⟩ := f
  unfold Flt.val at HM ⊢
  simp only at HM HD HS hp ⊢
  have HR := hide hr
  have HNIL := hide hnil
  clear hr hnil
  go_enter Try.func10, Try.ntmps10
  go_wp2_with fail
  refine (HM.out _).mono ?_
  rintro e w1 ⟨rfl, hb1⟩
  have HB1 := hide (below_trans (ba (b0 _) _) hb1)
  obtain ⟨hc, hf⟩ := bcell hb1
  have HR1 := hide (HR.out.below HB1.out)
  have HSZ := hide HB1.out.size
  clear hb1
  cases M
  · have HQ : Hid (D = bs) := by show _ = _; rw [HD.out, if_neg (by simp)]
    clear HD
    go_wp2_with fail
    refine (cloneB_any a len cap bs _ HR1.out HNIL.out).mono ?_
    rintro e w2 ⟨v, rfl, ho, hb2⟩
    have HO := hide (ho.mono HSZ.out)
    have HB2 := hide (below_trans HB1.out hb2)
    clear ho hb2
    go_wp2_with fail
    go_ret
    exact ⟨_, rfl, by rw [HQ.out]; exact HO.out, HB2.out⟩
  · by_cases e1 : k = 1
    · subst e1
      have HQ : Hid (D = flipL bs p.toNat q) := by show _ = _; rw [HD.out, if_pos rfl, if_pos rfl]
      clear HD
      obtain ⟨P, rfl⟩ := Int.eq_ofNat_of_zero_le ((HS.out rfl).1 rfl)
      go_wp2_with fail
      refine (flipped_any a len cap P q bs _ HR1.out HNIL.out (by omega)).mono ?_
      rintro e w2 ⟨v, rfl, ho, hb2⟩
      have HO := hide (ho.mono HSZ.out)
      have HB2 := hide (below_trans HB1.out hb2)
      clear ho hb2
      go_wp2_with fail
      go_ret
      exact ⟨_, rfl, by rw [HQ.out]; exact HO.out, HB2.out⟩
    · have e1' : (k == 1) = false := by simpa using e1
      by_cases e2 : k = 2
      · subst e2
        have HQ : Hid (D = resL bs p) := by show _ = _; rw [HD.out, if_pos rfl, if_neg (by omega), if_pos rfl]
        clear HD
        obtain ⟨g1, g2⟩ := (HS.out rfl).2 rfl
        go_wp2_with fail
        refine (resized_any a len cap p bs _ HR1.out g1 g2 hl).mono ?_
        rintro e w2 ⟨v, rfl, ho, hb2⟩
        have HO := hide (ho.mono HSZ.out)
        have HB2 := hide (below_trans HB1.out hb2)
        clear ho hb2
        go_wp2_with fail
        go_ret
        exact ⟨_, rfl, by rw [HQ.out]; exact HO.out, HB2.out⟩
      · have e2' : (k == 2) = false := by simpa using e2
        have HQ : Hid (D = bs) := by show _ = _; rw [HD.out, if_pos rfl, if_neg e1, if_neg e2]
        clear HD
        go_wp2_with fail
        refine (cloneB_any a len cap bs _ HR1.out HNIL.out).mono ?_
        rintro e w2 ⟨v, rfl, ho, hb2⟩
        have HO := hide (ho.mono HSZ.out)
        have HB2 := hide (below_trans HB1.out hb2)
        clear ho hb2
        go_wp2_with fail
        go_ret
        exact ⟨_, rfl, by rw [HQ.out]; exact HO.out, HB2.out⟩
end Go.Proofs.Ytbmbhcjocgbbpaa.Fa
