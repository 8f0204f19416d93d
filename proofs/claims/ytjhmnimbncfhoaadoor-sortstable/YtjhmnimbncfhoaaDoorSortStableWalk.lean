/-
  SortStable: each record is there once, they rise, alike ones stand as they stood.
-/
import Derived.Test.YtjhmnimbncfhoaaDoorSoNum
import Derived.Test.YtjhmnimbncfhoaaDoorSoWorks
import Derived.Deep.OwnRows
namespace Go.Proofs.YtjhmnimbncfhoaaDoor.So
open Go.ChangeShapes Go.WideShapes Go.ChangeAt Go.RowKit
open Go.Proofs.YtjhmnimbncfhoaaDoor.Base
set_option linter.unusedVariables false
/-- The block g is a row of n bools. -/
def SB (w : World) (g n : Nat) (S : Nat → Bool) : Prop := ∃ (cur : Array Value) (t : TypeId), w.heap[g]? = some (.cells cur t) ∧ ∀ j, j < n → cur[j]? = some (.bool (S j))
theorem SB.lt {w : World} {g n : Nat} {S : Nat → Bool} (h : SB w g n S) : g < w.heap.size := by obtain ⟨cur, t, h1, _⟩ := h; exact lt_row h1
theorem SB.cell {w : World} {g n : Nat} {S : Nat → Bool} (h : SB w g n S) (j : Nat) (hj : j < n) : w.cell? ⟨g, j, none⟩ = some (.bool (S j)) := by
  obtain ⟨cur, t, h1, h2⟩ := h; rw [cell_of_row _ _ _ _ _ _ h1]; exact h2 j hj
theorem SB.frozen {w : World} {g n : Nat} {S : Nat → Bool} (h : SB w g n S) (k : Nat) : w.frozen? ⟨g, k, none⟩ = false := by obtain ⟨cur, t, h1, _⟩ := h; exact frozen_of_row _ _ _ _ _ h1
theorem SB.below {w w' : World} {g n : Nat} {S : Nat → Bool} (h : SB w g n S) (hb : Below w.heap.size w w') : SB w' g n S := by
  have hl := h.lt
  obtain ⟨cur, t, h1, h2⟩ := h
  exact ⟨cur, t, by rw [hb.block g hl]; exact h1, h2⟩
theorem SB.set {w : World} {g n : Nat} {S S' : Nat → Bool} (h : SB w g n S) (k : Nat) (hk : k < n) (e : ∀ j, S' j = if j = k then true else S j) : SB (w.setCell ⟨g, k, none⟩ (.bool true)) g n S' := by
  obtain ⟨cur, t, h1, h2⟩ := h
  refine ⟨cur.setIfInBounds k (.bool true), t, by rw [heap_setCell_same _ _ _ _ _ _ h1], fun j hj => ?_⟩
  have hs : k < cur.size := by
    by_cases q : k < cur.size
    · exact q
    · have := h2 k hk; rw [Array.getElem?_eq_none (by omega)] at this; cases this
  rw [Array.getElem?_setIfInBounds, e j]
  by_cases q : k = j
  · rw [if_pos q, if_pos hs, if_pos q.symm]
  · rw [if_neg q, if_neg (fun x => q x.symm)]; exact h2 j hj
theorem cell_far {w : World} {g k b o : Nat} {v : Value} (h : b ≠ g) : (w.setCell ⟨g, k, none⟩ v).cell? ⟨b, o, none⟩ = w.cell? ⟨b, o, none⟩ := by
  unfold World.cell?
  simp only [Below.heap_setCell w ⟨g, k, none⟩ v b (by simpa using h)]
theorem infoB : (Tryd.prog.info? 4).map (fun i => (i.zero, i.size, i.bytes)) = some (some (.bool false), 1, 1) := by kernel_rfl
theorem make_bools (n : Nat) (h : n ≤ 140737488355328) : ∃ M : Array Value, (∀ j, j < n → M[j]? = some (.bool false)) ∧ ∀ W, (Instr.makeSlice 24 (.int .i64 (n : Int)) (.int .i64 (n : Int))).run Tryd.prog W = .ok (.slice (some ⟨W.heap.size, 0, none⟩) n n) (W.alloc (.cells M 4)) := by
  refine ⟨madeCells #[.bool false] n, fun j hj => ?_, fun W => run_make_row' 24 4 (.bool false) 1 Tryd.underlying24 infoB rfl .i64 .i64 n (by omega) (by omega) W⟩
  unfold madeCells
  rw [Array.getElem?_map, Array.getElem?_range, if_pos hj]
  show some ((#[Value.bool false] : Array Value)[j % 1]!) = _
  rw [Nat.mod_one]
  rfl
/-- Which places have come. -/
def come (f : Nat → Nat) (i : Nat) : Nat → Bool := fun j => (List.range i).any fun t => f t == j
theorem come_next (f : Nat → Nat) (i : Nat) (j : Nat) : come f (i + 1) j = if j = f i then true else come f i j := by
  unfold come
  rw [List.range_succ, List.any_append]
  by_cases h : j = f i
  · rw [if_pos h]; simp [h]
  · rw [if_neg h]
    have : (f i == j) = false := by rw [beq_eq_false_iff_ne]; exact fun e => h e.symm
    simp [this]
theorem come_not (f : Nat → Nat) (i : Nat) (h : ∀ t, t < i → f t ≠ f i) : come f i (f i) = false := by
  unfold come
  rw [List.any_eq_false]
  intro t ht
  have := h t (List.mem_range.1 ht)
  simpa using this
/-- What the sorted list is, by places. -/
theorem places_of (rs : List Rec) : ∃ f : Nat → Nat, ∀ t, t < rs.length → f t < rs.length ∧ (isort (numL 0 rs)).getD t rec0 = numR (rs.getD (f t) rec0) (f t) := by
  have h := (rz_isort rs).2
  have hex : ∀ t, ∃ i, t < rs.length → i < rs.length ∧ (isort (numL 0 rs)).getD t rec0 = numR (rs.getD i rec0) i := by
    intro t
    by_cases ht : t < rs.length
    · have hl : t < (isort (numL 0 rs)).length := by rw [length_isort, length_numL]; exact ht
      obtain ⟨i, h1, h2⟩ := h ((isort (numL 0 rs)).getD t rec0) (by rw [List.getD_eq_getElem?_getD, List.getElem?_eq_getElem hl]; exact List.getElem_mem hl)
      exact ⟨i, fun _ => ⟨h1, h2⟩⟩
    · exact ⟨0, fun q => absurd q ht⟩
  obtain ⟨f, hf⟩ := Classical.axiomOfChoice hex
  exact ⟨f, hf⟩
theorem rz_at (rs : List Rec) (s t : Nat) (hst : s < t) (ht : t < rs.length) : Rz ((isort (numL 0 rs)).getD s rec0) ((isort (numL 0 rs)).getD t rec0) := by
  have hl : (isort (numL 0 rs)).length = rs.length := by rw [length_isort, length_numL]
  have h := List.pairwise_iff_getElem.1 (rz_isort rs).1 s t (by omega) (by omega) hst
  rw [List.getD_eq_getElem?_getD, List.getD_eq_getElem?_getD, List.getElem?_eq_getElem (show s < (isort (numL 0 rs)).length by omega), List.getElem?_eq_getElem (show t < (isort (numL 0 rs)).length by omega)]
  exact h
theorem rz_irr (r : Rec) (h : Rz r r) : False := by
  have h1 := cmpR_swap r r
  rcases h with q | ⟨_, i, j, q1, q2, q3⟩
  · omega
  · have := plc_inj (q1.symm.trans q2); omega
set_option maxHeartbeats 8000000 in
set_option maxRecDepth 100000 in
theorem stwalk (a : Option Addr) (n cap : Nat) (rs : List Rec) (w : World) (hr : RdR w a n rs) (hl : n * 40 ≤ 140737488351232) (hF : Fine rs) (ht : Lib.TabIs Tryd.prog w "internal/strconv.uint64pow10" .u64 Lib.pow10Tab) :
    Calls Tryd.prog 3 #[.slice a n cap] w fun e w' => e = .returned (.bool true) ∧ Below w.heap.size w w' := by
  have HR := hide hr
  have HRL := hide hr.1
  have HT := hide ht
  have HFN : Hid (Fine (numL 0 rs)) := by
    intro r hr2
    obtain ⟨j, hj⟩ := List.mem_iff_getElem?.1 hr2
    have hjl : j < rs.length := by
      by_cases q : j < rs.length
      · exact q
      · rw [List.getElem?_eq_none (by rw [length_numL]; omega)] at hj; cases hj
    have e : r = numR (rs.getD j rec0) (0 + j) := by
      rw [← numL_get rs 0 j hjl, List.getD_eq_getElem?_getD, hj]; rfl
    rw [e]
    have h1 := hF.getD j
    have h2 := plc_size (0 + j) (by have := HRL.out; omega)
    exact ⟨h1.1, by show (plc (0 + j)).size ≤ _; omega⟩
  obtain ⟨f, hf⟩ := places_of rs
  have HPF := hide hf
  have HNL : Hid ((numL 0 rs).length = n) := by show _ = _; rw [length_numL]; exact HRL.out
  have HSL : Hid ((isort (numL 0 rs)).length = n) := by show _ = _; rw [length_isort]; exact HNL.out
  clear hr ht hF hf
  obtain ⟨M, hM0, hmk⟩ := make_bools n (by omega)
  have HM0 := hide hM0
  clear hM0
  go_enter Tryd.func3, Tryd.ntmps3
  go_wp2_with fail
  refine (numbered_any a n cap rs w HR.out (by omega) HT.out).mono ?_
  rintro e w1 ⟨v, rfl, ho1, hb1⟩
  obtain ⟨ia, ic, hv, hi1⟩ := own_shape ho1
  rw [HNL.out] at hv
  subst hv
  have HI1 := hide (own_rdr ho1)
  have HW1 := hide hb1
  clear ho1 hb1 hi1
  go_wp2_with fail
  refine (sort_any ia n ic (numL 0 rs) w1 HI1.out (by omega) HFN.out).mono ?_
  rintro e w2 ⟨v, rfl, ho2, hb2⟩
  obtain ⟨oa, oc, hv, hi2⟩ := own_shape ho2
  rw [HSL.out] at hv
  subst hv
  have HO2 := hide (own_rdr ho2)
  have HI2 := hide (HI1.out.below hb2)
  have HW2 := hide (below_trans HW1.out hb2)
  clear ho2 hb2 hi2 HI1
  obtain ⟨g3, hg3⟩ : ∃ g, w2.heap.size = g := ⟨_, rfl⟩
  obtain ⟨w3, hw3⟩ : ∃ w3, w2.alloc (.cells M 4) = w3 := ⟨_, rfl⟩
  have HB3 : Hid (Below w2.heap.size w2 w3) := by rw [← hw3]; exact (Below.refl _ _).alloc (Nat.le_refl _) _
  have HS3 : Hid (SB w3 g3 n (come f 0)) := by rw [← hw3, ← hg3]; exact ⟨M, _, heap_alloc_new _ _, fun j hj => HM0.out j hj⟩
  have HO3 := hide (HO2.out.below HB3.out)
  have HI3 := hide (HI2.out.below HB3.out)
  have HW3 := hide (below_trans HW2.out HB3.out)
  have HOL : Hid (0 < n → ∀ b off, oa = some ⟨b, off, none⟩ → b < g3) := fun h b off e => by obtain ⟨b', off', e', hl', _⟩ := HO2.out.2 h; rw [e] at e'; cases e'; omega
  have HIL : Hid (0 < n → ∀ b off, ia = some ⟨b, off, none⟩ → b < g3) := fun h b off e => by obtain ⟨b', off', e', hl', _⟩ := HI2.out.2 h; rw [e] at e'; cases e'; omega
  have HGW : Hid (w.heap.size ≤ g3) := by have := HW2.out.size; show _ ≤ _; omega
  clear HO2 HI2
  go_wp2_with fail
  go_loopw [6] (fun s6 wr => ∃ i : Nat, i ≤ n ∧ .int .i64 (i : Int) = s6 ∧ Hid (SB wr g3 n (come f i)) ∧ Hid (RdR wr oa n (isort (numL 0 rs))) ∧ Hid (RdR wr ia n (numL 0 rs)) ∧ Hid (Below w.heap.size w wr)) (fun s6 _ => n - (intOf s6).toNat)
  case atStart => exact ⟨0, by omega, rfl, HS3, HO3, HI3, HW3⟩
  case round =>
    clear HS3 HO3 HI3 HW3
    obtain ⟨i, hi, rfl, HS, HO, HI, HW⟩ := hrel
    by_cases hin : i < n
    · have hii : (i : Int) < (n : Int) := by omega
      obtain ⟨b1, o1, rfl, hl1, hc1⟩ := HO.out.2 (by omega)
      obtain ⟨b2, o2, rfl, hl2, hc2⟩ := HI.out.2 (by omega)
      obtain ⟨hk, hx⟩ := HPF.out i (by rw [HRL.out]; exact hin)
      rw [HRL.out] at hk
      have HPL := hide (fun W => place_any (rs.getD (f i) rec0).p (rs.getD (f i) rec0).k (f i) n hk (by omega) W)
      have HY : Hid ((numL 0 rs).getD (f i) rec0 = numR (rs.getD (f i) rec0) (f i)) := by have := numL_get rs 0 (f i) (by rw [HRL.out]; exact hk); rw [Nat.zero_add] at this; exact this
      have HXI := hide hx
      have HNS : Hid (come f i (f i) = false) := by
        apply come_not
        intro t htt e
        obtain ⟨_, h2⟩ := HPF.out t (by rw [HRL.out]; omega)
        have h3 := rz_at rs t i htt (by rw [HRL.out]; exact hin)
        rw [h2, HXI.out, e] at h3
        exact rz_irr _ h3
      have HNX := hide (come_next f i)
      have HPR : Hid (0 < i → ∃ y u, (isort (numL 0 rs)).getD (i - 1) rec0 = y ∧ y.v = plc u ∧ u < n ∧ Rz y (numR (rs.getD (f i) rec0) (f i))) := fun h0 => by
        obtain ⟨h1, h2⟩ := HPF.out (i - 1) (by rw [HRL.out]; omega)
        rw [HRL.out] at h1
        refine ⟨_, f (i - 1), h2, rfl, h1, ?_⟩
        have h3 := rz_at rs (i - 1) i (by omega) (by rw [HRL.out]; exact hin)
        rw [h2, HXI.out] at h3
        exact h3
      have HXV : Hid ((numR (rs.getD (f i) rec0) (f i)).v = plc (f i)) := rfl
      have HVL : Hid (∀ W, Calls Tryd.prog 6 #[(numR (rs.getD (f i) rec0) (f i)).val, .int .i64 (n : Int)] W fun e w' => e = .returned (.int .i64 (f i : Int)) ∧ Below W.heap.size W w') := HPL.out
      clear HPL hx
      have HC1 : Hid (∀ j, j < n → ∀ V, Below wr.heap.size wr V → V.cell? ⟨b1, o1 + j * 3, none⟩ = some (.int .i64 ((isort (numL 0 rs)).getD j rec0).p) ∧ V.cell? ⟨b1, o1 + j * 3 + 1, none⟩ = some (.string ((isort (numL 0 rs)).getD j rec0).k) ∧ V.cell? ⟨b1, o1 + j * 3 + 2, none⟩ = some (.string ((isort (numL 0 rs)).getD j rec0).v)) := fun j hj V hV => ⟨(hV.cell (p := ⟨b1, o1 + j * 3, none⟩) hl1).trans (hc1 j hj).1, (hV.cell (p := ⟨b1, o1 + j * 3 + 1, none⟩) hl1).trans (hc1 j hj).2.1, (hV.cell (p := ⟨b1, o1 + j * 3 + 2, none⟩) hl1).trans (hc1 j hj).2.2⟩
      have HC2 : Hid (∀ V, Below wr.heap.size wr V → V.cell? ⟨b2, o2 + f i * 3, none⟩ = some (.int .i64 ((numL 0 rs).getD (f i) rec0).p) ∧ V.cell? ⟨b2, o2 + f i * 3 + 1, none⟩ = some (.string ((numL 0 rs).getD (f i) rec0).k) ∧ V.cell? ⟨b2, o2 + f i * 3 + 2, none⟩ = some (.string ((numL 0 rs).getD (f i) rec0).v)) := fun V hV => ⟨(hV.cell (p := ⟨b2, o2 + f i * 3, none⟩) hl2).trans (hc2 (f i) hk).1, (hV.cell (p := ⟨b2, o2 + f i * 3 + 1, none⟩) hl2).trans (hc2 (f i) hk).2.1, (hV.cell (p := ⟨b2, o2 + f i * 3 + 2, none⟩) hl2).trans (hc2 (f i) hk).2.2⟩
      rw [HY.out] at HC2
      have HCX : Hid (∀ V, Below wr.heap.size wr V → V.cell? ⟨b1, o1 + i * 3, none⟩ = some (.int .i64 (numR (rs.getD (f i) rec0) (f i)).p) ∧ V.cell? ⟨b1, o1 + i * 3 + 1, none⟩ = some (.string (numR (rs.getD (f i) rec0) (f i)).k) ∧ V.cell? ⟨b1, o1 + i * 3 + 2, none⟩ = some (.string (numR (rs.getD (f i) rec0) (f i)).v)) := fun V hV => by
        have h := HC1.out i hin V hV
        rw [HXI.out] at h
        exact h
      have HB12 : Hid (b1 < g3 ∧ b2 < g3) := ⟨HOL.out (by omega) b1 o1 rfl, HIL.out (by omega) b2 o2 rfl⟩
      clear hc1 hc2 HXI HY
      generalize numR (rs.getD (f i) rec0) (f i) = x at HPR HXV HVL HC2 HCX
      obtain ⟨k, hfk⟩ : ∃ k, f i = k := ⟨_, rfl⟩
      rw [hfk] at hk HNS HXV HVL HC2
      have HFK := hide hfk
      clear hfk
      unfold Rec.val at HVL
      obtain ⟨p0, p1, p2⟩ := HCX.out wr (Below.refl _ _)
      go_wp2_with fail
      refine (HVL.out _).mono ?_
      rintro e w4 ⟨rfl, hb4⟩
      have HB4 := hide hb4
      have HS4 := hide (HS.out.below hb4)
      clear hb4 p0 p1 p2
      have hk0 : ¬ (k : Int) < 0 := by omega
      have hkn : (k : Int) < (n : Int) := by omega
      have hsc : ∀ V, Below w4.heap.size w4 V → V.cell? ⟨g3, k, none⟩ = some (.bool false) := fun V hV => by have h := (HS4.out.below hV).cell k hk; rw [HNS.out] at h; exact h
      have HSC := hide hsc
      clear hsc
      go_upto_region 10 with fail
      go_cut [70] from 20 to 73 (fun s70 wx => .bool false = s70 ∧ Hid (Below w4.heap.size w4 wx))
      case first =>
        have s0 := HSC.out w4 (Below.refl _ _)
        obtain ⟨p0, p1, p2⟩ := HCX.out w4 HB4.out
        obtain ⟨q0, q1, q2⟩ := HC2.out w4 HB4.out
        by_cases hi0 : 0 < i
        · obtain ⟨y, u, hy1, hy2, hy3, hy4⟩ := HPR.out hi0
          have HRS := hide (fun W => rises_any y x u k n hy2 HXV.out hy3 hk (by omega) hy4 W)
          unfold Rec.val at HRS
          obtain ⟨i', hi'⟩ : ∃ i', i - 1 = i' := ⟨_, rfl⟩
          have HCY : Hid (∀ V, Below wr.heap.size wr V → V.cell? ⟨b1, o1 + i' * 3, none⟩ = some (.int .i64 y.p) ∧ V.cell? ⟨b1, o1 + i' * 3 + 1, none⟩ = some (.string y.k) ∧ V.cell? ⟨b1, o1 + i' * 3 + 2, none⟩ = some (.string y.v)) := fun V hV => by
            have h := HC1.out i' (by omega) V hV
            rw [← hi', hy1] at h
            rw [← hi']
            exact h
          have hw1 : IntKind.i64.wrap ((i : Int) - 1) = (i' : Int) := by rw [IntKind.wrap_i64]; omega
          have hw2 : IntKind.i64.wrap (i' : Int) = (i' : Int) := by rw [IntKind.wrap_i64]; omega
          have hw3' : (i : Int) - 1 = (i' : Int) := by omega
          have hin' : (i' : Int) < (n : Int) := by omega
          have hin2 : i' < n := by omega
          have hip : (0 : Int) < (i : Int) := by omega
          have hipd : decide ((0 : Int) < (i : Int)) = true := by simpa using hip
          have hk0d : decide ((k : Int) < 0) = false := by simp
          obtain ⟨r0, r1, r2⟩ := HCY.out w4 HB4.out
          clear hi' hy1 hy2 hy4
          have B0 : Hid (Below w4.heap.size w4 w4.drew) := (Below.refl _ _).drew
          have HALL : Hid (∀ V, Below w4.heap.size w4 V → V.cell? ⟨g3, k, none⟩ = some (.bool false) ∧ (V.cell? ⟨b1, o1 + i * 3, none⟩ = some (.int .i64 x.p) ∧ V.cell? ⟨b1, o1 + i * 3 + 1, none⟩ = some (.string x.k) ∧ V.cell? ⟨b1, o1 + i * 3 + 2, none⟩ = some (.string x.v)) ∧ (V.cell? ⟨b2, o2 + k * 3, none⟩ = some (.int .i64 x.p) ∧ V.cell? ⟨b2, o2 + k * 3 + 1, none⟩ = some (.string x.k) ∧ V.cell? ⟨b2, o2 + k * 3 + 2, none⟩ = some (.string x.v)) ∧ V.cell? ⟨b1, o1 + i' * 3, none⟩ = some (.int .i64 y.p) ∧ V.cell? ⟨b1, o1 + i' * 3 + 1, none⟩ = some (.string y.k) ∧ V.cell? ⟨b1, o1 + i' * 3 + 2, none⟩ = some (.string y.v)) := fun V hV => ⟨HSC.out V hV, HCX.out V (below_trans HB4.out hV), HC2.out V (below_trans HB4.out hV), HCY.out V (below_trans HB4.out hV)⟩
          first | (go_region_held_law (fun V => V.cell? ⟨g3, k, none⟩ = some (.bool false) ∧ (V.cell? ⟨b1, o1 + i * 3, none⟩ = some (.int .i64 x.p) ∧ V.cell? ⟨b1, o1 + i * 3 + 1, none⟩ = some (.string x.k) ∧ V.cell? ⟨b1, o1 + i * 3 + 2, none⟩ = some (.string x.v)) ∧ (V.cell? ⟨b2, o2 + k * 3, none⟩ = some (.int .i64 x.p) ∧ V.cell? ⟨b2, o2 + k * 3 + 1, none⟩ = some (.string x.k) ∧ V.cell? ⟨b2, o2 + k * 3 + 2, none⟩ = some (.string x.v)) ∧ V.cell? ⟨b1, o1 + i' * 3, none⟩ = some (.int .i64 y.p) ∧ V.cell? ⟨b1, o1 + i' * 3 + 1, none⟩ = some (.string y.k) ∧ V.cell? ⟨b1, o1 + i' * 3 + 2, none⟩ = some (.string y.v)) (first | exact HALL.out _ B6.out | exact HALL.out _ B0.out | go_keep) (first
            | (go_at_call 7; refine (HRS.out _).mono ?_; rintro e w6 ⟨rfl, hb6⟩; have B6 := hide (below_trans B0.out hb6); clear hb6))) | fail
          all_goals
            go_wp2_with fail
            go_meet
            case rel => exact ⟨rfl, B6.out⟩
        · obtain rfl : i = 0 := by omega
          have hk0d : decide ((k : Int) < 0) = false := by simp
          have hn0 : (0 : Int) < (n : Int) := by omega
          simp only [Nat.zero_mul, Nat.add_zero] at p0 p1 p2
          go_quiet (fail)
          go_wp2_with fail
          go_meet
          case rel => exact ⟨rfl, below_drewN' _ _ _⟩
      case rest =>
        obtain ⟨rfl, HBX⟩ := hcut
        have HWX := hide (below_trans HB4.out HBX.out)
        have HSX := hide (HS4.out.below HBX.out)
        have c0 := HSX.out.cell k hk
        rw [HNS.out] at c0
        have f0 := HSX.out.frozen k
        obtain ⟨w7, hw7⟩ : ∃ w7, wc.setCell ⟨g3, k, none⟩ (.bool true) = w7 := ⟨_, rfl⟩
        have HS7 : Hid (SB w7 g3 n (come f (i + 1))) := by rw [← hw7]; exact HSX.out.set k hk (fun j => by rw [HNX.out j, HFK.out])
        have HW7 : Hid (Below w.heap.size w w7) := by rw [← hw7]; exact (below_trans HW.out HWX.out).setCell (by have := HGW.out; show w.heap.size ≤ g3; omega) _
        have hfar : ∀ b o, b < g3 → w7.cell? ⟨b, o, none⟩ = wc.cell? ⟨b, o, none⟩ := fun b o hb => by rw [← hw7]; exact cell_far (by omega)
        have HO7 : Hid (RdR w7 (some ⟨b1, o1, none⟩) n (isort (numL 0 rs))) := by
          have h := HO.out.below HWX.out
          refine ⟨h.1, fun hp => ?_⟩
          obtain ⟨b, off, e, hlb, hcs⟩ := h.2 hp
          have e' := Option.some.inj e
          simp only [Addr.mk.injEq] at e'
          obtain ⟨rfl, rfl, _⟩ := e'
          refine ⟨b1, o1, rfl, by rw [← hw7]; simpa [World.setCell] using hlb, fun j hj => ?_⟩
          obtain ⟨x0, x1, x2⟩ := hcs j hj
          exact ⟨(hfar _ _ HB12.out.1).trans x0, (hfar _ _ HB12.out.1).trans x1, (hfar _ _ HB12.out.1).trans x2⟩
        have HI7 : Hid (RdR w7 (some ⟨b2, o2, none⟩) n (numL 0 rs)) := by
          have h := HI.out.below HWX.out
          refine ⟨h.1, fun hp => ?_⟩
          obtain ⟨b, off, e, hlb, hcs⟩ := h.2 hp
          have e' := Option.some.inj e
          simp only [Addr.mk.injEq] at e'
          obtain ⟨rfl, rfl, _⟩ := e'
          refine ⟨b2, o2, rfl, by rw [← hw7]; simpa [World.setCell] using hlb, fun j hj => ?_⟩
          obtain ⟨x0, x1, x2⟩ := hcs j hj
          exact ⟨(hfar _ _ HB12.out.2).trans x0, (hfar _ _ HB12.out.2).trans x1, (hfar _ _ HB12.out.2).trans x2⟩
        clear hfar
        go_wp2_with fail
        go_roundw
        case rel => exact ⟨i + 1, by omega, by go_num, HS7, HO7, HI7, HW7⟩
        case measure => simp [intOf]; omega
    · obtain rfl : i = n := by omega
      go_wp2_with (go_at_call 8; refine (works_any _).mono ?_; rintro e w11 ⟨rfl, hb11⟩; have HW11 := hide (below_trans HW.out hb11); clear hb11)
      go_ret
      exact ⟨rfl, HW11.out⟩
end Go.Proofs.YtjhmnimbncfhoaaDoor.So
