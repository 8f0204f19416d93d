/-
  A reader of the entries L: below, Seek.
-/
import Derived.Test.YthdblnfohbldcaaGreatBlRL
namespace Go.Proofs.YthdblnfohbldcaaGreat.Bl
open Go.ChangeShapes Go.WideShapes Go.ChangeAt Go.RowKit
open Go.Proofs.YthdblnfohbldcaaGreat.Base Go.Proofs.YthdblnfohbldcaaGreat.Nums Go.Proofs.YthdblnfohbldcaaGreat.Curs Go.Proofs.YthdblnfohbldcaaGreat.Crc
open Go.Proofs.YthdblnfohbldcaaGreat.Fa (St Cst numS fixS)
set_option linter.unusedVariables false
/-- The entry j of the group g. -/
theorem ent_at2 {E : List (BitVec 8)} {ps : List Int} {r G : Nat} {L : List En} (h : RG E ps r G L) (g j : Nat) (hg : g < G) (hj : j < gszN r L.length g) :
    (nextW (leftW j ⟨#[]⟩ (some (grpL E ps g))).1 (leftW j ⟨#[]⟩ (some (grpL E ps g))).2).1 = L.getD (g * r + j) dE := by
  obtain ⟨h1, h2, h3, h4, h5, h6, h7, h8, h9, h10, h11, h12⟩ := h
  have e1 := ents_get (gszN r L.length g) j ⟨#[]⟩ (some (grpL E ps g)) hj
  rw [h10 _ hg] at e1
  simp only at e1
  rw [List.getElem?_take_of_lt hj, List.getElem?_drop] at e1
  rw [List.getD_eq_getElem?_getD, e1]
  rfl
theorem left_add : ∀ (a b : Nat) (k : ByteArray) (s : St), leftW (a + b) k s = leftW b (leftW a k s).1 (leftW a k s).2
  | 0, b, k, s => by rw [Nat.zero_add]; rfl
  | a + 1, b, k, s => by
    rw [show a + 1 + b = (a + b) + 1 by omega]
    exact left_add a b _ _
theorem left_none : ∀ (m : Nat) (k : ByteArray), (leftW m k none).2 = none
  | 0, _ => rfl
  | m + 1, k => by
    show (leftW m (nextW k none).1.1 (nextW k none).2).2 = none
    have h : (nextW k none).2 = none := by
      unfold nextW
      simp only [numS, takS]
      unfold okS
      split <;> rfl
    rw [h]
    exact left_none m _
theorem next_nil (k : ByteArray) : (nextW k (some [])).2 = none := by
  have h : ∀ x : Int, numS (some []) x = (0, none) := fun x => by
    unfold numS
    simp only
    have hg : (Nums.get ([] : List (BitVec 8))).2.2 = 20 := by rfl
    rw [if_neg]
    unfold atMost
    rw [if_pos (by rw [hg]; decide)]
    rw [hg]
    decide
  unfold nextW
  rw [h]
  simp only [numS, takS]
  unfold okS
  split <;> rfl
theorem left_rest (d : Nat) (k : ByteArray) (s : St) (h : (leftW (d + 1) k s).2 = some []) : 0 < restS s := by
  cases s with
  | none => rw [left_none] at h; cases h
  | some L =>
    cases L with
    | nil =>
      have h2 : (leftW d (nextW k (some [])).1.1 (nextW k (some [])).2).2 = some [] := h
      rw [next_nil, left_none] at h2
      cases h2
    | cons x xs => exact Nat.succ_pos _
theorem rises_ge : ∀ (L : List En) (k : ByteArray), rises k L = true → ∀ j, j < L.length → 0 ≤ order (txt (L.getD j dE).1) (txt k)
  | [], _, _, j, hj => by simp at hj
  | e :: l, k, h, j, hj => by
    unfold rises at h
    rw [Bool.and_eq_true] at h
    have h1 := of_decide_eq_true h.1
    cases j with
    | zero => exact h1
    | succ j =>
      have h2 := rises_ge l e.1 h.2 j (by simpa using hj)
      have h3 := (order_trans (txt k) (txt e.1) (txt (l.getD j dE).1)).1 (by rw [order_swap]; omega) (by rw [order_swap]; omega)
      rw [order_swap] at h3
      show 0 ≤ order (txt (l.getD j dE).1) (txt k)
      omega
theorem rises_mono : ∀ (L : List En) (k : ByteArray), rises k L = true → ∀ i j, i ≤ j → j < L.length → order (txt (L.getD i dE).1) (txt (L.getD j dE).1) ≤ 0
  | [], _, _, i, j, _, hj => by simp at hj
  | e :: l, k, h, i, j, hij, hj => by
    unfold rises at h
    rw [Bool.and_eq_true] at h
    cases i with
    | zero =>
      cases j with
      | zero => show order (txt e.1) (txt e.1) ≤ 0; rw [(order_zero _ _).2 rfl]; omega
      | succ j =>
        have h2 := rises_ge l e.1 h.2 j (by simpa using hj)
        rw [order_swap]
        show - order (txt (l.getD j dE).1) (txt e.1) ≤ 0
        omega
    | succ i =>
      cases j with
      | zero => omega
      | succ j => exact rises_mono l e.1 h.2 i j (by omega) (by simpa using hj)
set_option maxHeartbeats 4000000 in
set_option maxRecDepth 100000 in
theorem below_any (q r G : Nat) (E : List (BitVec 8)) (ps : List Int) (L : List En) (k : ByteArray) (w : World) (hX : RX w q E ps r L.length) (hG : RG E ps r G L) (hk : k.size ≤ 140737488355328) :
    Calls Tryz.prog 115 #[.pointer (some ⟨q, 0, none⟩), .string k] w fun e w' => ∃ l : Nat, e = .returned (.int .i64 (l : Int)) ∧ l ≤ G ∧ (∀ g, g < l → order (txt (L.getD (g * r) dE).1) (txt k) < 0) ∧ (∀ g, l ≤ g → g < G → 0 ≤ order (txt (L.getD (g * r) dE).1) (txt k)) ∧ Below w.heap.size w w' := by
  have HG := hide hG
  obtain ⟨f1, f2, f3, f4, f5, f6, f7, f8, f9, f10, f11, f12⟩ := hG
  have HWL : Hid (∀ g W, g < G → Below w.heap.size w W → Calls Tryz.prog 57 #[.pointer (some ⟨q, 0, none⟩), .int .i64 (g : Int)] W fun e w' => ∃ k c, e = .returned (.pointer (some ⟨k, 0, none⟩)) ∧ WK w' k c ⟨#[]⟩ ∧ W.heap.size ≤ c ∧ c < k ∧ Cst w' c (some (grpL E ps g)) ∧ Below W.heap.size W w') := fun g W hg hW =>
    walk_any q g E ps r _ W (hX.below hW) f1 (by omega) f5 (by omega)
  have HGR : Hid (∀ W, Below w.heap.size w W → Calls Tryz.prog 87 #[.pointer (some ⟨q, 0, none⟩)] W fun e w' => e = .returned (.int .i64 (G : Nat)) ∧ w' = W) := fun W hW => by
    obtain ⟨ea, ec, pa, pc, h1, _⟩ := hX.below hW
    rw [f2] at h1
    exact groups_any q _ pa G pc _ _ W h1 (by omega)
  have HMO : Hid (∀ i j, i ≤ j → j < L.length → order (txt (L.getD i dE).1) (txt (L.getD j dE).1) ≤ 0) := rises_mono L _ f11
  have HLT := hide f3
  have HSM := hide f12
  clear hX f1 f2 f3 f4 f5 f10 f11 f12 f9
  go_enter Tryz.func115, Tryz.ntmps115
  go_wp2_with (go_at_call 87; refine (HGR.out _ (Below.refl _ _)).mono ?_; rintro e w ⟨rfl, rfl⟩)
  go_loopw [5, 6] (fun s5 s6 wr => ∃ (lo hi : Nat), lo ≤ hi ∧ hi ≤ G ∧ s5 = .int .i64 (lo : Int) ∧ s6 = .int .i64 (hi : Int) ∧ Hid (∀ g, g < lo → order (txt (L.getD (g * r) dE).1) (txt k) < 0) ∧ Hid (∀ g, hi ≤ g → g < G → 0 ≤ order (txt (L.getD (g * r) dE).1) (txt k)) ∧ Hid (Below w.heap.size w wr)) (fun s5 s6 _ => (intOf s6).toNat - (intOf s5).toNat)
  case atStart => exact ⟨0, G, Nat.zero_le _, Nat.le_refl _, rfl, rfl, (fun g h => absurd h (by omega)), (fun g h1 h2 => absurd h1 (by omega)), Below.refl _ _⟩
  case round =>
    rename World => V0
    obtain ⟨lo, hi, hlh, hhG, rfl, rfl, HA, HBB, HB⟩ := hrel
    by_cases hlt : lo < hi
    · obtain ⟨mi, hmi⟩ : ∃ mi, (lo + hi) / 2 = mi := ⟨_, rfl⟩
      have hm1 : lo ≤ mi := by omega
      have hm2 : mi < hi := by omega
      have q1 : IntKind.i64.wrap ((lo : Int) + (hi : Int)) = ((lo + hi : Nat) : Int) := by rw [IntKind.wrap_i64]; omega
      have q2 : ((lo : Int) + (hi : Int)).tdiv 2 = (mi : Int) := by rw [Int.tdiv_eq_ediv_of_nonneg (by omega)]; omega
      have q2b : ((lo + hi : Nat) : Int).tdiv 2 = (mi : Int) := by rw [Int.tdiv_eq_ediv_of_nonneg (by omega)]; omega
      have q3 : IntKind.i64.wrap (mi : Int) = (mi : Int) := by rw [IntKind.wrap_i64]; omega
      obtain ⟨Y, hY⟩ : ∃ Y, L.getD (mi * r) dE = Y := ⟨_, rfl⟩
      have hYS : Y.1.size ≤ 1024 := by
        have hl := HLT.out mi (by omega)
        rw [← hY, List.getD_eq_getElem?_getD, List.getElem?_eq_getElem hl]
        exact (HSM.out _ (List.getElem_mem _)).1
      have HE0 : Hid ((nextW ⟨#[]⟩ (some (grpL E ps mi))).1 = Y) := by
        show _ = _
        have h := ent_at2 HG.out mi 0 (by omega) (by have := HLT.out mi (by omega); unfold gszN; omega)
        rw [Nat.add_zero, hY] at h
        exact h
      obtain ⟨s0, hs0⟩ : ∃ s0 : St, some (grpL E ps mi) = s0 := ⟨_, rfl⟩
      have HWM := hide (HWL.out mi V0 (by omega) HB.out)
      rw [hs0] at HWM HE0
      obtain ⟨s1, hs1⟩ : ∃ s1, (nextW ⟨#[]⟩ s0).2 = s1 := ⟨_, rfl⟩
      obtain ⟨YK, YV⟩ := Y
      have HNX : Hid (∀ k c W, WK W k c ⟨#[]⟩ → Cst W c s0 → k ≠ c → Calls Tryz.prog 58 #[.pointer (some ⟨k, 0, none⟩)] W fun e w' => e = .returned (.tuple #[.string YK, .string YV]) ∧ KeptF W w' (fun i => i = k ∨ i = c)) := fun k c W h1 h2 h3 => by
        refine (next_any k c ⟨#[]⟩ s0 W h1 h2 h3 (Nat.zero_le _)).mono ?_
        rintro e w' ⟨rfl, _, _, h4⟩
        rw [HE0.out]
        exact ⟨rfl, h4⟩
      have HCP := hide (fun W => compare_any YK k W (by simp only at hYS; omega) (by omega))
      obtain ⟨od, hod⟩ : ∃ od, order (txt YK) (txt k) = od := ⟨_, rfl⟩
      have HOD : Hid (order (txt (L.getD (mi * r) dE).1) (txt k) = od) := by show _ = _; rw [hY]; exact hod
      rw [hod] at HCP
      clear hY hYS hs0 hs1 hod hmi
      by_cases hc : od < 0
      · have HA2 : Hid (∀ g, g < mi + 1 → order (txt (L.getD (g * r) dE).1) (txt k) < 0) := fun g hg => by
          by_cases he : g = mi
          · rw [he, HOD.out]; exact hc
          · have h1 := HMO.out (g * r) (mi * r) (Nat.mul_le_mul_right r (by omega)) (HLT.out mi (by omega))
            exact (order_trans _ _ _).2.2 h1 (by rw [HOD.out]; exact hc)
        go_wp2_with (first
          | (go_at_call 57; refine HWM.out.mono ?_; rintro e w1 ⟨kk, c, rfl, hk1, hc1, hc2, hc3, hb⟩; have HK := hide hk1; have H1 := hide (Nat.le_trans HB.out.size hc1); have H2 := hide hc2; have HC := hide hc3; have HB1 := hide (below_trans HB.out hb); clear hk1 hc1 hc2 hc3 hb)
          | (go_at_call 58; refine (HNX.out kk c _ HK.out HC.out (by have := H2.out; omega)).mono ?_; rintro e w2 ⟨rfl, hf2⟩; have HB2 : Hid (Below w.heap.size w w2) := hf2.toBelow HB1.out (fun i e => by have := H1.out; have := H2.out; omega); clear hf2)
          | (go_at_call 59; refine (HCP.out _).mono ?_; rintro e w3 ⟨rfl, hb3⟩; have HB3 := hide (below_trans HB2.out hb3); clear hb3))
        go_roundw
        case rel => exact ⟨mi + 1, hi, by omega, hhG, by go_num, rfl, HA2.out, HBB.out, HB3.out⟩
        case measure => (simp [intOf] <;> omega)
      · have HA2 : Hid (∀ g, mi ≤ g → g < G → 0 ≤ order (txt (L.getD (g * r) dE).1) (txt k)) := fun g hg hgG => by
          have h1 := HMO.out (mi * r) (g * r) (Nat.mul_le_mul_right r (by omega)) (HLT.out g hgG)
          refine Int.not_lt.1 (fun h2 => hc ?_)
          rw [← HOD.out]
          exact (order_trans _ _ _).2.2 h1 h2
        go_wp2_with (first
          | (go_at_call 57; refine HWM.out.mono ?_; rintro e w1 ⟨kk, c, rfl, hk1, hc1, hc2, hc3, hb⟩; have HK := hide hk1; have H1 := hide (Nat.le_trans HB.out.size hc1); have H2 := hide hc2; have HC := hide hc3; have HB1 := hide (below_trans HB.out hb); clear hk1 hc1 hc2 hc3 hb)
          | (go_at_call 58; refine (HNX.out kk c _ HK.out HC.out (by have := H2.out; omega)).mono ?_; rintro e w2 ⟨rfl, hf2⟩; have HB2 : Hid (Below w.heap.size w w2) := hf2.toBelow HB1.out (fun i e => by have := H1.out; have := H2.out; omega); clear hf2)
          | (go_at_call 59; refine (HCP.out _).mono ?_; rintro e w3 ⟨rfl, hb3⟩; have HB3 := hide (below_trans HB2.out hb3); clear hb3))
        go_roundw
        case rel => exact ⟨lo, mi, hm1, by omega, rfl, rfl, HA.out, HA2.out, HB3.out⟩
        case measure => (simp [intOf] <;> omega)
    · obtain rfl : lo = hi := by omega
      go_wp2_with fail
      go_ret
      exact ⟨lo, rfl, hhG, HA.out, HBB.out, HB.out⟩
/-- Seek: so many entries have a key below k. -/
def SeekP (L : List En) (k : ByteArray) (s : Nat) : Prop := s ≤ L.length ∧ (∀ i, i < s → order (txt (L.getD i dE).1) (txt k) < 0) ∧ (s < L.length → 0 ≤ order (txt (L.getD s dE).1) (txt k))
set_option maxHeartbeats 4000000 in
set_option maxRecDepth 100000 in
theorem seek_rl (q : Nat) (L : List En) (k : ByteArray) (w : World) (h : RL w q L) (hk : k.size ≤ 140737488355328) :
    Calls Tryz.prog 70 #[.pointer (some ⟨q, 0, none⟩), .string k] w fun e w' => ∃ s : Nat, e = .returned (.int .i64 (s : Int)) ∧ SeekP L k s ∧ Below w.heap.size w w' := by
  obtain ⟨E, ps, r, G, hX, hG⟩ := h
  have HG := hide hG
  have HBL := hide (below_any q r G E ps L k w hX hG hk)
  obtain ⟨f1, f2, f3, f4, f5, f6, f7, f8, f9, f10, f11, f12⟩ := hG
  have HWL : Hid (∀ g W, g < G → Below w.heap.size w W → Calls Tryz.prog 57 #[.pointer (some ⟨q, 0, none⟩), .int .i64 (g : Int)] W fun e w' => ∃ k c, e = .returned (.pointer (some ⟨k, 0, none⟩)) ∧ WK w' k c ⟨#[]⟩ ∧ W.heap.size ≤ c ∧ c < k ∧ Cst w' c (some (grpL E ps g)) ∧ Below W.heap.size W w') := fun g W hg hW =>
    walk_any q g E ps r _ W (hX.below hW) f1 (by omega) f5 (by omega)
  have HRC : Hid (∀ W, Below w.heap.size w W → W.cell? ⟨q, 2, none⟩ = some (.int .i64 (r : Int))) := fun W hW => by
    obtain ⟨ea, ec, pa, pc, h1, _⟩ := hX.below hW
    exact h1.cells.2.2.1
  have HMO : Hid (∀ i j, i ≤ j → j < L.length → order (txt (L.getD i dE).1) (txt (L.getD j dE).1) ≤ 0) := rises_mono L _ f11
  have HLT := hide f3
  have HLG := hide f4
  have HSM := hide f12
  have HEN := hide f10
  clear hX f1 f2 f3 f4 f5 f10 f11 f12
  go_enter Tryz.func70, Tryz.ntmps70
  go_wp2_with fail
  go_step3
  go_upto_if 17 with (go_at_call 115; refine HBL.out.mono ?_; rintro e w1 ⟨l, rfl, hlG, ha, hbb, hb⟩; have HA := hide ha; have HBB := hide hbb; have HB1 := hide hb; have r1 := HRC.out _ hb; have hw0 : IntKind.i64.wrap ((l : Int) - 1) = (l : Int) - 1 := (by rw [IntKind.wrap_i64]; omega); clear ha hbb hb)
  by_cases hl0 : l = 0
  · subst hl0
    have HS : Hid (SeekP L k 0) := ⟨Nat.zero_le _, (fun i h => absurd h (by omega)), fun hn => by
      have := HBB.out 0 (Nat.le_refl _) (by have := HLG.out; refine Nat.pos_of_ne_zero (fun e => ?_); rw [e] at this; omega)
      rw [Nat.zero_mul] at this
      exact this⟩
    go_wp2_with fail
    (try rw [Exit.noGoto_ret])
    go_ret
    exact ⟨0, rfl, HS.out, HB1.out⟩
  · obtain ⟨g, rfl⟩ : ∃ g, l = g + 1 := ⟨l - 1, by omega⟩
    have hgi : ((g + 1 : Nat) : Int) - 1 = (g : Int) := by omega
    have hgG : g < G := by omega
    rw [hgi]
    rw [hgi] at hw0
    have hgl := HLT.out g hgG
    obtain ⟨gr, hgr⟩ : ∃ gr, g * r = gr := ⟨_, rfl⟩
    have hgri : (g : Int) * (r : Int) = (gr : Int) := by rw [← hgr]; push_cast; rfl
    rw [hgr] at hgl
    have q1 : IntKind.i64.wrap ((g : Int) * (r : Int)) = (gr : Int) := by rw [hgri, IntKind.wrap_i64]; omega
    have q2 : IntKind.i64.wrap (gr : Int) = (gr : Int) := by rw [IntKind.wrap_i64]; omega
    obtain ⟨m, hm⟩ : ∃ m, gszN r L.length g = m := ⟨_, rfl⟩
    have hmr : m = min r (L.length - gr) := by rw [← hm]; unfold gszN; rw [hgr]
    have HLE : Hid (∀ i, i < gr → order (txt (L.getD i dE).1) (txt k) < 0) := fun i hi => (order_trans _ _ _).2.2 (HMO.out i gr (by omega) hgl) (by have := HA.out g (by omega); rw [hgr] at this; exact this)
    have HEA : Hid (∀ j, j < m → (nextW (leftW j ⟨#[]⟩ (some (grpL E ps g))).1 (leftW j ⟨#[]⟩ (some (grpL E ps g))).2).1 = L.getD (gr + j) dE) := fun j hj => by
      have := ent_at2 HG.out g j hgG (by rw [hm]; exact hj)
      rw [hgr] at this; exact this
    have HEND : Hid ((leftW m ⟨#[]⟩ (some (grpL E ps g))).2 = some []) := by
      show _ = _
      rw [← hm, ← ents_left, HEN.out g hgG]
    have HWM := hide (HWL.out g w1 hgG HB1.out)
    have HNXT : Hid (gr + m < L.length → 0 ≤ order (txt (L.getD (gr + m) dE).1) (txt k)) := fun hlt => by
      have e1 : gr + m = (g + 1) * r := by rw [Nat.add_mul, hgr]; omega
      have e2 : g + 1 < G := by
        refine Nat.lt_of_not_le (fun hc => ?_)
        have h1 := HLG.out
        have h2 : G * r ≤ (g + 1) * r := Nat.mul_le_mul_right r hc
        omega
      rw [e1]
      exact HBB.out (g + 1) (Nat.le_refl _) e2
    obtain ⟨s0, hs0⟩ : ∃ s0 : St, some (grpL E ps g) = s0 := ⟨_, rfl⟩
    rw [hs0] at HWM HEA HEND
    have hgn : gr + m ≤ L.length := by omega
    clear hs0 hgri hgr hm hgi
    go_wp2_with (go_at_call 57; refine HWM.out.mono ?_; rintro e w2 ⟨kk, c, rfl, hk1, hc1, hc2, hc3, hb⟩; have HK := hide hk1; have H1 := hide (Nat.le_trans HB1.out.size hc1); have H2 := hide hc2; have HC := hide hc3; have HB2 := hide (below_trans HB1.out hb); clear hk1 hc1 hc2 hc3 hb)
    go_step3
    go_wp2_with fail
    go_loopw [6] (fun s6 wr => ∃ (j : Nat) (key : ByteArray) (s : St), j ≤ m ∧ s6 = .int .i64 ((gr + j : Nat) : Int) ∧ Hid (WK wr kk c key) ∧ Hid (Cst wr c s) ∧ Hid (leftW j ⟨#[]⟩ s0 = (key, s)) ∧ Hid (key.size ≤ 1024) ∧ Hid (∀ i, i < gr + j → order (txt (L.getD i dE).1) (txt k) < 0) ∧ Hid (Below w.heap.size w wr)) (fun s6 _ => gr + m - (intOf s6).toNat)
    case atStart => exact ⟨0, ⟨#[]⟩, s0, Nat.zero_le _, by first | rfl | go_num, HK.out, HC.out, rfl, Nat.zero_le _, HLE.out, HB2.out⟩
    case round =>
      rename World => V0
      obtain ⟨j, key, s, hj, rfl, HKd, HCd, HLd, HKS, HLT2, HBd⟩ := hrel
      obtain ⟨k0, k1⟩ := HKd.out.cells
      have HRS := hide (rest_st c s V0 HCd.out)
      obtain ⟨rs, hrs⟩ : ∃ rs, restS s = rs := ⟨_, rfl⟩
      rw [hrs] at HRS
      by_cases hlt : j < m
      · have hrp : 0 < rs := by
          rw [← hrs]
          have h := HEND.out
          rw [show m = j + ((m - j - 1) + 1) by omega, left_add, HLd.out] at h
          exact left_rest _ _ _ h
        have hrpi : (0 : Int) < (rs : Int) := by omega
        have HNX := hide (next_any kk c key s V0 HKd.out HCd.out (by have := H2.out; omega) HKS.out)
        obtain ⟨X, hX⟩ : ∃ X, (nextW key s).1.1 = X := ⟨_, rfl⟩
        obtain ⟨Y, hY⟩ : ∃ Y, (nextW key s).1.2 = Y := ⟨_, rfl⟩
        obtain ⟨s', hs'⟩ : ∃ Y, (nextW key s).2 = Y := ⟨_, rfl⟩
        have HXS : Hid (X.size ≤ 1024) := by rw [← hX]; exact (next_small key s HKS.out).1
        have HLn : Hid (leftW (j + 1) ⟨#[]⟩ s0 = (X, s')) := by show _ = _; rw [left_snoc, HLd.out]; simp only; rw [hX, hs']
        have HXE : Hid ((L.getD (gr + j) dE).1 = X) := by
          show _ = _
          have h := HEA.out j hlt
          rw [HLd.out] at h
          simp only at h
          rw [← h, hX]
        rw [hX, hY, hs'] at HNX
        have HCP := hide (fun W => compare_any X k W (by have := HXS.out; omega) (by omega))
        obtain ⟨od, hod⟩ : ∃ od, order (txt X) (txt k) = od := ⟨_, rfl⟩
        have HRNG : Hid (od = -1 ∨ od = 0 ∨ od = 1) := by rw [← hod]; exact order_range _ _
        rw [hod] at HCP
        have HOD := hide hod
        clear hX hY hs' hod hrs
        by_cases hc : od = -1
        · subst hc
          have HL2 : Hid (∀ i, i < gr + (j + 1) → order (txt (L.getD i dE).1) (txt k) < 0) := fun i hi => by
            by_cases he : i = gr + j
            · rw [he, HXE.out, HOD.out]; decide
            · exact HLT2.out i (by omega)
          have q3 : IntKind.i64.wrap ((gr : Int) + (j : Int) + 1) = (gr : Int) + (j : Int) + 1 := by rw [IntKind.wrap_i64]; omega
          go_wp2_with (first
            | (go_at_call 114; refine HRS.out.mono ?_; rintro e V0 ⟨rfl, rfl⟩)
            | (go_at_call 58; refine HNX.out.mono ?_; rintro e w3 ⟨rfl, hk2, hc2, hf2⟩; have HB3 : Hid (Below w.heap.size w w3) := hf2.toBelow HBd.out (fun i e => by have := H1.out; have := H2.out; omega); have HK3 := hide hk2; have HC3 := hide hc2; clear hk2 hc2 hf2)
            | (go_at_call 59; refine (HCP.out _).mono ?_; rintro e w4 ⟨rfl, hb4⟩; have HB4 := hide (below_trans HB3.out hb4); have HK4 := hide (HK3.out.below hb4); have HC4 := hide (HC3.out.below hb4); clear hb4))
          go_roundw
          case rel => exact ⟨j + 1, X, s', by omega, congrArg (Value.int .i64) (by omega), HK4.out, HC4.out, HLn.out, HXS.out, HL2.out, HB4.out⟩
          case measure => (simp [intOf] <;> omega)
        · have hcb : (od == -1) = false := by simpa using hc
          have HS : Hid (SeekP L k (gr + j)) := ⟨by omega, HLT2.out, fun _ => by rw [HXE.out, HOD.out]; have := HRNG.out; omega⟩
          go_wp2_with (first
            | (go_at_call 114; refine HRS.out.mono ?_; rintro e V0 ⟨rfl, rfl⟩)
            | (go_at_call 58; refine HNX.out.mono ?_; rintro e w3 ⟨rfl, hk2, hc2, hf2⟩; have HB3 : Hid (Below w.heap.size w w3) := hf2.toBelow HBd.out (fun i e => by have := H1.out; have := H2.out; omega); clear hk2 hc2 hf2)
            | (go_at_call 59; refine (HCP.out _).mono ?_; rintro e w4 ⟨rfl, hb4⟩; have HB4 := hide (below_trans HB3.out hb4); clear hb4))
          (try rw [Exit.noGoto_ret])
          go_ret
          exact ⟨gr + j, by first | rfl | (refine congrArg Ending.returned (congrArg (Value.int .i64) ?_); omega), HS.out, HB4.out⟩
      · obtain rfl : j = m := by omega
        have hrp : rs = 0 := by
          rw [← hrs]
          have h := HEND.out
          rw [HLd.out] at h
          simp only at h
          rw [h]
          rfl
        subst hrp
        have HS : Hid (SeekP L k (gr + j)) := ⟨by omega, HLT2.out, HNXT.out⟩
        clear hrs
        go_wp2_with (go_at_call 114; refine HRS.out.mono ?_; rintro e V0 ⟨rfl, rfl⟩)
        (try rw [Exit.noGoto_ret])
        go_ret
        exact ⟨gr + j, by first | rfl | (refine congrArg Ending.returned (congrArg (Value.int .i64) ?_); omega), HS.out, HBd.out⟩
end Go.Proofs.YthdblnfohbldcaaGreat.Bl
