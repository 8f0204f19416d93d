/-
  Rows of packages of the call's own, written one by one; paired.
-/
import Derived.Test.YthdblnfohbldcaaGreatPaStrsJ
import Derived.OwnWalk
import Derived.Deep.RegionHeldLaw
namespace Go.Proofs.YthdblnfohbldcaaGreat.Pm
open Go.ChangeShapes Go.WideShapes Go.ChangeAt Go.RowKit
open Go.Proofs.YthdblnfohbldcaaGreat.Base
set_option linter.unusedVariables false
/-- A block that is a row of packages. -/
def LBlk (t : TypeId) (K : IntKind) (w : World) (g : Nat) (ps : List Pk) : Prop := Wide 256 ps ∧ w.heap[g]? = some (.cells (lcells K ps).toArray t)
theorem LBlk.lt {t : TypeId} {K : IntKind} {w : World} {g : Nat} {ps : List Pk} (h : LBlk t K w g ps) : g < w.heap.size := (Array.getElem?_eq_some_iff.1 h.2).1
theorem LBlk.range {t : TypeId} {K : IntKind} {w : World} {g : Nat} {ps : List Pk} (h : LBlk t K w g ps) : w.rangeAt g 0 (lcells K ps) := fun j v hv => by
  rw [Nat.zero_add, cell_of_row _ _ _ _ _ _ h.2, List.getElem?_toArray]; exact hv
theorem LBlk.frozen {t : TypeId} {K : IntKind} {w : World} {g : Nat} {ps : List Pk} (h : LBlk t K w g ps) (k : Nat) : w.frozen? ⟨g, k, none⟩ = false := frozen_of_row _ _ _ _ _ h.2
theorem LBlk.there {t : TypeId} {K : IntKind} {w : World} {g : Nat} {ps : List Pk} (h : LBlk t K w g ps) (k : Nat) (hk : k < ps.length) : w.there g (k * 257) 257 := by
  intro j hj
  refine ⟨?_, h.frozen _⟩
  rw [cell_of_row _ _ _ _ _ _ h.2, List.getElem?_toArray, List.getElem?_eq_getElem (by rw [lcells_len K h.1]; omega)]; rfl
theorem LBlk.grown {t : TypeId} {K : IntKind} {w w' : World} {g : Nat} {ps : List Pk} {r : Option Nat} (h : LBlk t K w g ps) (hg : w.grownBy w' r) (hr : r ≠ some g) : LBlk t K w' g ps :=
  ⟨h.1, by rw [hg.block g h.lt (fun e => hr e.symm)]; exact h.2⟩
theorem LBlk.below {t : TypeId} {K : IntKind} {w w' : World} {g : Nat} {ps : List Pk} (h : LBlk t K w g ps) (hb : Below w.heap.size w w') : LBlk t K w' g ps := h.grown (below_grown hb) (by simp)
theorem LBlk.own {t : TypeId} {K : IntKind} {w : World} {g base : Nat} {ps : List Pk} (h : LBlk t K w g ps) (hb : base ≤ g) (hm : ps.length ≤ maxLen) : OwnP t K w base (.slice (some ⟨g, 0, none⟩) ps.length ps.length) ps := by
  refine ⟨h.1, lcells_len K h.1, .inr ⟨g, ps.length, _, rfl, hb, h.2, Nat.le_refl _, hm, by rw [List.size_toArray, lcells_len K h.1], ?_⟩⟩
  rw [List.toList_toArray, List.take_of_length_le (by rw [lcells_len K h.1]; exact Nat.le_refl _)]
theorem wide_set {n : Nat} {ps : List Pk} (h : Wide n ps) (k : Nat) {p : Pk} (hp : p.2.length = n) : Wide n (ps.set k p) := fun q hq => by
  rcases List.mem_or_eq_of_mem_set hq with h1 | rfl
  · exact h q h1
  · exact hp
theorem lcells_set1 (K : IntKind) : ∀ {ps : List Pk}, Wide 256 ps → ∀ k, k < ps.length → ∀ (j : Nat) (v : Value) (p : Pk), j < 257 → (pcells K (ps.getD k (0, []))).set j v = pcells K p → (lcells K ps).set (k * 257 + j) v = lcells K (ps.set k p)
  | [], _, k, h, _, _, _, _, _ => by simp at h
  | q :: ps, hw, 0, _, j, v, p, hj, he => by
    have hl := pcells_len K (hw q (by simp))
    rw [Nat.zero_mul, Nat.zero_add, lcells_cons, List.set_append_left _ _ (by omega), List.set_cons_zero, lcells_cons]
    congr 1
  | q :: ps, hw, k + 1, h, j, v, p, hj, he => by
    have hl := pcells_len K (hw q (by simp))
    rw [lcells_cons, List.set_append_right _ _ (by omega), hl, show (k + 1) * 257 + j - 257 = k * 257 + j by omega, lcells_set1 K (ps := ps) (fun x hx => hw x (by simp [hx])) k (by simpa using h) j v p hj he, List.set_cons_succ, lcells_cons]
theorem LBlk.set1 {t : TypeId} {K : IntKind} {w : World} {g : Nat} {ps : List Pk} (h : LBlk t K w g ps) (k : Nat) (hk : k < ps.length) (j : Nat) (v : Value) (p : Pk) (hj : j < 257) (he : (pcells K (ps.getD k (0, []))).set j v = pcells K p) (hp : p.2.length = 256) :
    LBlk t K (w.setCell ⟨g, k * 257 + j, none⟩ v) g (ps.set k p) := by
  refine ⟨wide_set h.1 k hp, ?_⟩
  rw [heap_setCell_same _ _ _ _ _ _ h.2, List.setIfInBounds_toArray, lcells_set1 K h.1 k hk j v p hj he]
theorem lcells_setAll (K : IntKind) {ps : List Pk} (hw : Wide 256 ps) (k : Nat) (hk : k < ps.length) (p : Pk) (hp : p.2.length = 256) : (lcells K ps).take (k * 257) ++ pcells K p ++ (lcells K ps).drop (k * 257 + (pcells K p).length) = lcells K (ps.set k p) := by
  rw [pcells_len K hp, show k * 257 + 257 = (k + 1) * 257 by omega, lcells_take K hw k (by omega), lcells_drop K hw (k + 1) (by omega), List.set_eq_take_append_cons_drop, if_pos hk, lcells_append, lcells_cons, List.append_assoc]
theorem LBlk.setAll {t : TypeId} {K : IntKind} {w : World} {g : Nat} {ps : List Pk} (h : LBlk t K w g ps) (k : Nat) (hk : k < ps.length) (p : Pk) (hp : p.2.length = 256) : LBlk t K (w.setCells g (k * 257) (pcells K p)) g (ps.set k p) := by
  refine ⟨wide_set h.1 k hp, ?_⟩
  rw [setCells_cells (pcells K p) (lcells K ps) (k * 257) w h.2 (by rw [pcells_len K hp, lcells_len K h.1]; omega), lcells_setAll K h.1 k hk p hp]
theorem lcells_replicate (K : IntKind) (p : Pk) (hp : p.2.length = 256) : ∀ n j, j < n * 257 → (lcells K (List.replicate n p))[j]? = (pcells K p)[j % 257]?
  | 0, j, h => by omega
  | n + 1, j, h => by
    have hl := pcells_len K hp
    rw [List.replicate_succ, lcells_cons]
    by_cases hj : j < 257
    · rw [List.getElem?_append_left (by omega), Nat.mod_eq_of_lt hj]
    · rw [List.getElem?_append_right (by omega), hl, lcells_replicate K p hp n (j - 257) (by omega)]
      rw [show (j - 257) % 257 = j % 257 by omega]
theorem wide_rep {p : Pk} (n : Nat) (hp : p.2.length = 256) : Wide 256 (List.replicate n p) := fun q hq => by rw [(List.mem_replicate.1 hq).2]; exact hp
/-- A new row. -/
theorem lblk_made {t : TypeId} {K : IntKind} {w : World} {base g n : Nat} {Z : List Value} {p : Pk} (hp : p.2.length = 256) (hZ : Z = pcells K p)
    (h : w.ownsRow base t 257 (.slice (some ⟨g, 0, none⟩) n n) n (madeCells Z.toArray (n * 257)).toList) : LBlk t K w g (List.replicate n p) := by
  refine ⟨wide_rep n hp, ?_⟩
  have hl : (lcells K (List.replicate n p)).length = n * 257 := by rw [lcells_len K (wide_rep n hp), List.length_replicate]
  have e : (madeCells Z.toArray (n * 257)).toList = lcells K (List.replicate n p) := by
    apply List.ext_getElem?
    intro j
    by_cases hj : j < n * 257
    · rw [lcells_replicate K p hp n j hj, Array.getElem?_toList]
      have hZl : Z.toArray.size = 257 := by rw [List.size_toArray, hZ, pcells_len K hp]
      have hs := size_madeCells Z.toArray (n * 257)
      rw [Array.getElem?_eq_getElem (by omega)]
      have hm : j % 257 < (pcells K p).length := by rw [pcells_len K hp]; omega
      rw [List.getElem?_eq_getElem hm]
      congr 1
      subst hZ
      simp [madeCells, pcells_len K hp]
      rw [List.getElem?_eq_getElem hm]
      rfl
    · rw [List.getElem?_eq_none (by rw [Array.length_toList, size_madeCells]; omega), List.getElem?_eq_none (by omega)]
  rw [e] at h
  rcases h.2 with ⟨h1, _⟩ | ⟨g', cap, cur, h1, h2, h3, h4, h5, h6, h7⟩
  · cases h1
  · simp only [Value.slice.injEq, Option.some.injEq, Addr.mk.injEq, and_true, true_and] at h1
    obtain ⟨rfl, rfl⟩ := h1
    rw [List.take_of_length_le (by rw [Array.length_toList, h6]; exact Nat.le_refl _)] at h7
    rw [h3, ← h7]
theorem paired_get : ∀ (ps : List Pk) (i : Nat), i < ps.length / 2 → (paired ps).getD i (0, []) = both (ps.getD (2 * i) (0, [])) (ps.getD (2 * i + 1) (0, []))
  | [], i, h => by simp at h
  | [_], i, h => by simp at h
  | a :: b :: r, 0, _ => by simp [paired]
  | a :: b :: r, i + 1, h => by
    have := paired_get r i (by simp at h; omega)
    rw [show 2 * (i + 1) = 2 * i + 1 + 1 by omega]
    simpa [paired] using this
/-- The first k of them are laid. -/
def packsTo (ps : List Pk) (k : Nat) : List Pk := (paired ps).take k ++ List.replicate (ps.length / 2 - k) zpack
theorem packsTo_zero (ps : List Pk) : packsTo ps 0 = List.replicate (ps.length / 2) zpack := by unfold packsTo; rw [List.take_zero, List.nil_append, Nat.sub_zero]
theorem packsTo_all (ps : List Pk) : packsTo ps (ps.length / 2) = paired ps := by
  unfold packsTo; rw [Nat.sub_self, List.replicate_zero, List.append_nil, List.take_of_length_le (by rw [paired_len]; exact Nat.le_refl _)]
theorem packsTo_len (ps : List Pk) (k : Nat) (hk : k ≤ ps.length / 2) : (packsTo ps k).length = ps.length / 2 := by
  unfold packsTo; rw [List.length_append, List.length_take, List.length_replicate, paired_len]; omega
theorem packsTo_set (ps : List Pk) (k : Nat) (hk : k < ps.length / 2) : (packsTo ps k).set k (both (ps.getD (2 * k) (0, [])) (ps.getD (2 * k + 1) (0, []))) = packsTo ps (k + 1) := by
  have hp := paired_len ps
  have hl : ((paired ps).take k).length = k := by rw [List.length_take]; omega
  have hg := paired_get ps k hk
  unfold packsTo
  rw [List.set_append_right _ _ (by omega), hl, Nat.sub_self, show ps.length / 2 - k = (ps.length / 2 - (k + 1)) + 1 by omega, List.replicate_succ, List.set_cons_zero,
    List.take_succ_eq_append_getElem (by omega), List.append_assoc]
  rw [List.getD_eq_getElem?_getD, List.getElem?_eq_getElem (by omega)] at hg
  simp only [Option.getD_some] at hg
  rw [hg]
  rfl
set_option maxHeartbeats 1000000 in
set_option maxRecDepth 100000 in
theorem paired_any (a : Option Addr) (len cap : Nat) (ps : List Pk) (w : World) (hr : RdP .u8 w a len ps) (hn : len ≤ 65536) (hw : ∀ p ∈ ps, p.1 ≤ 2305843009213693952) (ht : ∀ p ∈ ps, ∀ s, p.2.getD s 0 ≤ 127) :
    Calls Tryz.prog 138 #[.slice a len cap] w fun e w' => ∃ g, e = .returned (.slice (some ⟨g, 0, none⟩) (len / 2) (len / 2)) ∧ OwnP 161 .u8 w' w.heap.size (.slice (some ⟨g, 0, none⟩) (len / 2) (len / 2)) (paired ps) ∧ Below w.heap.size w w' := by
  obtain ⟨Z, HZ, HI, hz⟩ := zeroP
  obtain ⟨i0, hi, hz0, hz1, hz2⟩ := info_of HI
  have HL := hide hr.1
  have HWD := hide hr.2.1
  have HC := hide hr.2.2
  have HBW := hide hw
  have HBT := hide ht
  clear hr hw ht HI
  obtain ⟨m, hm⟩ : ∃ m, len / 2 = m := ⟨_, rfl⟩
  have hmi : (len : Int) / 2 = (m : Int) := by omega
  have HM := hide hm
  have hm2 : m ≤ 32768 := by omega
  clear hm
  have hzc : (Value.agg Z.toArray).cells = Z.toArray := rfl
  go_enter Tryz.func138, Tryz.ntmps138
  go_wp2_with (at_make; refine wpList_make_full _ rfl _ _ 156 rfl w.heap.size 161 i0 (.agg Z.toArray) 257 Tryz.underlying156 hi hz0 hz1 .i64 .i64 _ _ m rfl rfl rfl rfl (by rw [hz2]; omega) (by unfold maxLen; omega) (Nat.le_refl _) ?_
               intro w5 hown hgrow)
  rw [hzc] at hown
  have HP0 : Hid (LBlk 161 .u8 w5 w.heap.size (packsTo ps 0)) := by
    show LBlk _ _ _ _ _
    rw [packsTo_zero, HL.out, HM.out]
    exact lblk_made (List.length_replicate ..) HZ.out hown
  have HB0 : Hid (Below w.heap.size w w5) := (Below.refl _ _).grown hgrow (Nat.le_refl _) (fun i e => by cases e)
  obtain ⟨g, hg⟩ : ∃ g, w.heap.size = g := ⟨_, rfl⟩
  have HG : Hid (w.heap.size = g) := hg
  rw [hg] at HP0 ⊢
  clear hown hgrow hg hi hz0 hz1 hz2 hz hzc
  go_loopw [11] (fun i wr => ∃ k : Nat, k ≤ m ∧ i = .int .i64 (k : Int) ∧ Hid (LBlk 161 .u8 wr g (packsTo ps k)) ∧ Hid (Below g w wr)) (fun i _ => m - (intOf i).toNat)
  case atStart => exact ⟨0, Nat.zero_le _, rfl, HP0, by rw [← HG.out]; exact HB0.out⟩
  case round =>
    clear HP0 HB0
    obtain ⟨k, hk, rfl, HP, HB⟩ := hrel
    by_cases hlt : k < m
    · obtain ⟨b1, o1, rfl, hb1, hc1⟩ := HC.out (by have := HM.out; omega)
      have hkl : 2 * k + 1 < len := by have := HM.out; omega
      have HR := hide hc1
      have R1 : Hid (wr.rangeAt b1 (o1 + 2 * k * 257) (pcells .u8 (ps.getD (2 * k) (0, [])))) := range_below (range_one hc1 HWD.out (2 * k) (by rw [HL.out]; omega)) (by have := HB.out; rwa [← HG.out] at this) hb1
      have R2 : Hid (wr.rangeAt b1 (o1 + (2 * k + 1) * 257) (pcells .u8 (ps.getD (2 * k + 1) (0, [])))) := range_below (range_one hc1 HWD.out (2 * k + 1) (by rw [HL.out]; omega)) (by have := HB.out; rwa [← HG.out] at this) hb1
      have HX := hide (wide_get HWD.out (2 * k) (by rw [HL.out]; omega))
      have HY := hide (wide_get HWD.out (2 * k + 1) (by rw [HL.out]; omega))
      have mX : ps.getD (2 * k) (0, []) ∈ ps := by rw [List.getD_eq_getElem?_getD, List.getElem?_eq_getElem (by rw [HL.out]; omega)]; exact List.getElem_mem _
      have mY : ps.getD (2 * k + 1) (0, []) ∈ ps := by rw [List.getD_eq_getElem?_getD, List.getElem?_eq_getElem (by rw [HL.out]; omega)]; exact List.getElem_mem _
      have w1 := HBW.out _ mX
      have w2 := HBW.out _ mY
      have HTS : Hid (∀ s, (ps.getD (2 * k) (0, [])).2.getD s 0 + (ps.getD (2 * k + 1) (0, [])).2.getD s 0 ≤ 255) := fun s => by have t1 := HBT.out _ mX s; have t2 := HBT.out _ mY s; omega
      have HPN := hide (packsTo_set ps k (by rw [HL.out, HM.out]; exact hlt))
      have hbw : b1 < wr.heap.size := Nat.lt_of_lt_of_le hb1 HB.out.size
      have HCALL := hide (fun W h1 h2 h3 => both_any b1 (o1 + 2 * k * 257) b1 (o1 + (2 * k + 1) * 257) _ _ W h1 h2 h3 h3 HX.out HY.out (by omega) HTS.out)
      have HBO := hide (both_len _ _ HX.out HY.out)
      have e1 : IntKind.i64.wrap (2 * (k : Int)) = ((2 * k : Nat) : Int) := by rw [IntKind.wrap_i64]; omega
      have e2 : IntKind.i64.wrap (((2 * k : Nat) : Int) + 1) = ((2 * k + 1 : Nat) : Int) := by rw [IntKind.wrap_i64]; omega
      generalize both (ps.getD (2 * k) (0, [])) (ps.getD (2 * k + 1) (0, [])) = BO at HPN HCALL HBO
      obtain ⟨V, hV⟩ : ∃ V, pcells .u8 BO = V := ⟨_, rfl⟩
      have HV := hide hV
      rw [hV] at HCALL
      obtain ⟨k2, hk2⟩ : ∃ k2, 2 * k = k2 := ⟨_, rfl⟩
      rw [hk2] at e1 e2 HCALL R1 R2 hkl
      have i1 : (k2 : Int) < (len : Int) := by omega
      have i2 : ((k2 + 1 : Nat) : Int) < (len : Int) := by omega
      have hki : (k : Int) < (m : Int) := by omega
      have HVL : Hid (V.length = 257) := by show _ = _; rw [← hV]; exact pcells_len _ HBO.out
      have HV1 : Hid (∀ v ∈ V, v.oneCell' = true) := by rw [← hV]; exact pcells_one _ _
      have HPD : Hid (LBlk 161 .u8 wr.drew g (packsTo ps k)) := HP.out
      have HBD : Hid (Below g w wr.drew) := HB.out.drew
      have D1 : Hid (wr.drew.rangeAt b1 (o1 + k2 * 257) (pcells .u8 (ps.getD k2 (0, [])))) := (World.rangeAt_drew _ _ _ _).2 R1.out
      have D2 : Hid (wr.drew.rangeAt b1 (o1 + (k2 + 1) * 257) (pcells .u8 (ps.getD (k2 + 1) (0, [])))) := (World.rangeAt_drew _ _ _ _).2 R2.out
      have HKL := hide (packsTo_len ps k (by rw [HL.out, HM.out]; omega))
      clear hc1 mX mY w1 w2 hk2 R1 R2 hV HP HR HC
      go_wp2_with fail
      go_region_held (fun _ => True) (trivial) (first
        | (go_at_call 168
           refine (HCALL.out _ D1.out D2.out hbw).mono ?_
           rintro e w6 ⟨rfl, hb6⟩
           have HP6 := hide (HPD.out.below hb6)
           have HB6 : Hid (Below g w w6) := HBD.out.grown (below_grown hb6) (by have := HBD.out.size; rw [HG.out] at this; exact this) (fun i e => by cases e)
           have hst6 := storeC w6 g (k * 257) V 257 HVL.out (HP6.out.there k (by rw [HKL.out, HL.out, HM.out]; exact hlt)) HV1.out
           have HP7 := hide (HP6.out.setAll k (by rw [HKL.out, HL.out, HM.out]; exact hlt) BO HBO.out)
           have HB7 : Hid (Below g w (w6.setCells g (k * 257) V)) := below_setCells V HB6.out (by have := HB6.out.size; rw [HG.out] at this; exact this) (Nat.le_refl _)
           rw [HPN.out, HV.out] at HP7
           obtain ⟨w7, hw7⟩ : ∃ w7, w6.setCells g (k * 257) V = w7 := ⟨_, rfl⟩
           rw [hw7] at hst6 HP7 HB7
           clear hw7 hb6))
      go_wp2_with fail
      go_roundw
      case rel => exact ⟨k + 1, by omega, by go_num, HP7, HB7⟩
      case measure => simp [intOf]; omega
    · obtain rfl : k = m := by omega
      have HPF : Hid (LBlk 161 .u8 wr g (paired ps)) := by
        have := HP.out
        rw [← HM.out, ← HL.out, packsTo_all] at this
        exact this
      have HLP : Hid ((paired ps).length = k) := by show _ = _; rw [paired_len, HL.out, HM.out]
      have HO := hide (HPF.out.own (base := w.heap.size) (Nat.le_of_eq HG.out) (by rw [HLP.out]; unfold maxLen; omega))
      rw [HLP.out] at HO
      go_wp2_with fail
      go_ret
      rw [HM.out]
      exact ⟨_, rfl, HO.out, by rw [HG.out]; exact HB.out⟩
end Go.Proofs.YthdblnfohbldcaaGreat.Pm
