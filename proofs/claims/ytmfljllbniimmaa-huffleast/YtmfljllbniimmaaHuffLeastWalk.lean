/-
  The walk of the statement HuffLeast.
-/
import Derived.Test.YtmfljllbniimmaaHuffL3
import Derived.Test.YtmfljllbniimmaaHuffC2
namespace Go.Proofs.Ytmfljllbniimmaa.huffLeast
open Go.ChangeShapes Go.WideShapes Go.ChangeAt Go.RowKit
open Go.Proofs.Ytmfljllbniimmaa.Base Go.Proofs.Ytmfljllbniimmaa.Pm
set_option linter.unusedVariables false
theorem own_shape {w : World} {base : Nat} {v : Value} {xs : List Int} (h : OwnI w base v xs) : ∃ a c, v = .slice a xs.length c := by
  rcases h.2 with ⟨h1, h2⟩ | ⟨g, c, cur, h1, _⟩
  · exact ⟨none, 0, by rw [h1, h2]⟩
  · exact ⟨_, c, h1⟩
/-- Up to symbol k they are lengths that fit; behind it they are 0. -/
def Mok (cs : List Int) (top : Nat) (M : List Int) (k : Nat) : Prop := M.length = cs.length ∧ ∀ s, s < cs.length → (s < k → (0 < cs.getD s 0 → 1 ≤ M.getD s 0 ∧ M.getD s 0 ≤ top) ∧ (¬ 0 < cs.getD s 0 → M.getD s 0 = 0)) ∧ (¬ s < k → M.getD s 0 = 0)
theorem getD_set' (M : List Int) (k s : Nat) (m : Int) (hk : k < M.length) : (M.set k m).getD s 0 = if k = s then m else M.getD s 0 := by
  rw [List.getD_eq_getElem?_getD, List.getElem?_set]
  by_cases e : k = s
  · subst e; simp [hk]
  · simp [e]
theorem mok_zero (cs : List Int) (top : Nat) : Mok cs top (List.replicate cs.length 0) 0 :=
  ⟨List.length_replicate .., fun s hs => ⟨fun h => by omega, fun _ => by rw [List.getD_eq_getElem?_getD, List.getElem?_replicate, if_pos hs]; rfl⟩⟩
theorem mok_skip {cs : List Int} {top : Nat} {M : List Int} {k : Nat} (h : Mok cs top M k) (h0 : ¬ 0 < cs.getD k 0) : Mok cs top M (k + 1) := by
  refine ⟨h.1, fun s hs => ⟨fun h1 => ?_, fun h1 => (h.2 s hs).2 (by omega)⟩⟩
  by_cases e : s = k
  · subst e
    exact ⟨fun h2 => absurd h2 h0, fun _ => (h.2 s hs).2 (by omega)⟩
  · exact (h.2 s hs).1 (by omega)
theorem mok_set {cs : List Int} {top : Nat} {M : List Int} {k : Nat} (h : Mok cs top M k) (hk : k < cs.length) (h0 : 0 < cs.getD k 0) (m : Int) (h1 : 1 ≤ m) (h2 : m ≤ top) : Mok cs top (M.set k m) (k + 1) := by
  refine ⟨by rw [List.length_set]; exact h.1, fun s hs => ?_⟩
  rw [getD_set' M k s m (by rw [h.1]; exact hk)]
  by_cases e : k = s
  · subst e
    rw [if_pos rfl]
    exact ⟨fun _ => ⟨fun _ => ⟨h1, h2⟩, fun h3 => absurd h0 h3⟩, fun h3 => by omega⟩
  · rw [if_neg e]
    exact ⟨fun h3 => (h.2 s hs).1 (by omega), fun h3 => (h.2 s hs).2 (by omega)⟩
theorem mok_again {cs : List Int} {top : Nat} {M : List Int} {k i : Nat} (h : Mok cs top M k) (hi : i < k) (hk : i < cs.length) (h0 : 0 < cs.getD i 0) (m : Int) (h1 : 1 ≤ m) (h2 : m ≤ top) : Mok cs top (M.set i m) k := by
  refine ⟨by rw [List.length_set]; exact h.1, fun s hs => ?_⟩
  rw [getD_set' M i s m (by rw [h.1]; exact hk)]
  by_cases e : i = s
  · subst e
    rw [if_pos rfl]
    exact ⟨fun _ => ⟨fun _ => ⟨h1, h2⟩, fun h3 => absurd h0 h3⟩, fun h3 => absurd hi h3⟩
  · rw [if_neg e]
    exact h.2 s hs
theorem kraft_top {cs M : List Int} {top n : Nat} (hn : cs.length = n) (t1 : 1 ≤ top) (t15 : top ≤ 15) (hN : (orderOf cs).length ≤ 2 ^ top) (h : Mok cs top M n) (ht : ∀ s, s < n → 0 < cs.getD s 0 → M.getD s 0 = top) : kraftTo M n ≤ 32768 := by
  subst hn
  rw [kraft_rank t15 h.1 (fun _ => top) (fun r hr => ⟨ht _ (rank_in hr).1 (rank_in hr).2, by omega, Nat.le_refl _⟩) (fun s h1 h2 => ((h.2 s h1).1 h1).2 h2), sumTo_congr (g := fun _ => 1) (fun r _ => by rw [Nat.sub_self, Nat.pow_zero]), sumTo_one, Nat.mul_one]
  have : 2 ^ (15 - top) * 2 ^ top = 32768 := by rw [← Nat.pow_add, show 15 - top + top = 15 by omega]
  rw [← this]
  exact Nat.mul_le_mul_left _ hN
theorem row_rd {w : World} {g n : Nat} {M : List Int} (h : RowI 3 w g M) (hl : M.length = n) (hn : n ≤ 256) : RdI w (some ⟨g, 0, none⟩) n M := by
  have := h.rd n (by omega) (by omega)
  rwa [List.take_of_length_le (by omega)] at this
def cellN (w : World) (g i : Nat) : Nat := match w.cell? ⟨g, i, none⟩ with | some (.int _ v) => v.toNat | _ => 0
theorem cellN_of {w : World} {g i : Nat} {x : Int} (h : w.cell? ⟨g, i, none⟩ = some (.int .i64 x)) : cellN w g i = x.toNat := by unfold cellN; rw [h]
theorem mok_all {cs M : List Int} {top n : Nat} (hn : cs.length = n) (t15 : top ≤ 15) (h : Mok cs top M n) : Huff.allIn 15 M = true := by
  unfold Huff.allIn
  rw [List.all_eq_true]
  intro x hx
  obtain ⟨s, hs, rfl⟩ := List.getElem_of_mem hx
  have hs' : s < cs.length := by rw [← h.1]; exact hs
  have := (h.2 s hs').1 (by omega)
  rw [List.getD_eq_getElem?_getD (l := M), List.getElem?_eq_getElem hs] at this
  simp only [Option.getD_some] at this
  rw [decide_eq_true_iff]
  by_cases hc : 0 < cs.getD s 0
  · have := this.1 hc; omega
  · have := this.2 hc; omega
set_option maxHeartbeats 4000000 in
set_option maxRecDepth 100000 in
theorem walk (a0 : Option Addr) (len0 cap0 : Nat) (b0 : List Int) (n1 : Int) (a2 : Option Addr) (len2 cap2 : Nat) (b2 : List Int) (w : World) (r0 : RdI w a0 len0 b0) (l0 : len0 ≤ cap0) (m0 : cap0 ≤ 17592186043904) (w1 : (Lit.int .i64 n1).wf = true) (r2 : RdI w a2 len2 b2) (l2 : len2 ≤ cap2) (m2 : cap2 ≤ 17592186043904) :
    Calls Try.prog 4 #[.slice a0 len0 cap0, .int .i64 n1, .slice a2 len2 cap2] w fun e w' => e = .returned (.bool true) ∧ Below w.heap.size w w' := by
  have HB := hide (bent_any a0 len0 cap0 b0 w r0)
  have HL0 : Hid ((bentOf b0).length ≤ 256) := by show _ ≤ _; rw [bentOf_len]; omega
  have HIN := hide (bentOf_in b0)
  have R2 := hide r2
  clear r0 l0 m0 w1 r2
  generalize bentOf b0 = cs at HB HL0 HIN
  go_enter Try.func4, Try.ntmps4
  go_wp2_with fail
  refine HB.out.mono ?_
  rintro e w1 ⟨v, rfl, ho1, hb1⟩
  obtain ⟨ca, cc, hv⟩ := ownJ_shape ho1
  subst hv
  obtain ⟨hrc, hc0⟩ := ho1.rd (by have := HL0.out; omega)
  have HRC := hide hrc
  have HB1 := hide hb1
  have R21 := hide (R2.out.below hb1)
  obtain ⟨n, hn⟩ : ∃ n, cs.length = n := ⟨_, rfl⟩
  have HN := hide hn
  have hn6 : n ≤ 256 := by rw [← hn]; exact HL0.out
  rw [hn] at HRC hc0 ⊢
  have HU := hide (used_any ca n cc cs w1 HRC.out)
  have HSY : Hid ((symsTo cs n).length = (orderOf cs).length) := by show _ = _; rw [← hn]; exact (orderOf_ok cs).1.length_eq.symm
  have hOL : (orderOf cs).length ≤ 256 := Nat.le_trans (ordered_len (orderOf_ok cs)) HL0.out
  rw [HSY.out] at HU
  obtain ⟨N, hNN⟩ : ∃ N, (orderOf cs).length = N := ⟨_, rfl⟩
  rw [hNN] at HU hOL
  have HNN := hide hNN
  clear ho1 hb1 hrc hn hNN HB R2 HSY
  go_wp2_with fail
  refine HU.out.mono ?_
  rintro e w1 ⟨rfl, rfl⟩
  have HLM := hide (limited_any n1 N w1 hOL)
  clear HU
  go_wp2_with fail
  refine HLM.out.mono ?_
  rintro e w1 ⟨top, rfl, t1, t15, hNt, rfl⟩
  have HLE := hide (lens_ok cs HL0.out HIN.out top t1 t15 (by rw [HNN.out]; exact hNt))
  have HNT := hide hNt
  have HLG := hide (lengths_any ca n cc cs (top : Int) w1 HRC.out hc0)
  rw [lengthsd_ok (by have := HL0.out; omega) t1 t15 HIN.out (by rw [HNN.out]; omega)] at HLG
  have HLL : Hid ((lensBy cs top).length = n) := by show _ = _; rw [lensBy_len, HN.out]
  clear HLM hNt hOL
  go_wp2_with fail
  refine HLG.out.mono ?_
  rintro e w2 ⟨v, rfl, ho2, hb2⟩
  obtain ⟨la, lc, hv⟩ := own_shape ho2
  rw [HLL.out] at hv
  subst hv
  have HRL := hide (ho2.rd (by rw [HLL.out]; omega))
  have HB2 := hide (below_trans HB1.out hb2)
  have HRC2 := hide (HRC.out.below hb2)
  have R22 := hide (R21.out.below hb2)
  have HCO := hide (Huff.cost_any ca la n cc n lc cs (lensBy cs top) w2 HRC2.out HRL.out)
  rw [Huff.costd_ok (by rw [HLL.out, HN.out]; omega) (by rw [HIN.out, HLE.out.all]; rfl), HLL.out, HN.out, Nat.min_self] at HCO
  obtain ⟨CO, hCO⟩ : ∃ CO, Huff.sumTo cs (lensBy cs top) n = CO := ⟨_, rfl⟩
  have HCOE := hide hCO
  rw [hCO] at HCO
  have e0 : ((0 : Int) != 0) = false := by decide
  clear ho2 hb2 hCO HLG HB1 HRC R21
  go_wp2_with fail
  refine HCO.out.mono ?_
  rintro e w3 ⟨rfl, hb3⟩
  have HRC3 := hide (HRC2.out.below hb3)
  have HRL3 := hide (HRL.out.below hb3)
  have R23 := hide (R22.out.below hb3)
  have HB3 := hide (below_trans HB2.out hb3)
  have enn : ((n : Int) != (n : Int)) = false := by simp
  clear hb3 HRC2 HRL R22 HB2 HCO
  go_wp2_with fail
  go_loopw [14] (fun i wr => ∃ k : Nat, k ≤ n ∧ i = .int .i64 (k : Int) ∧ Hid (∃ m, wr = w3.drewN m)) (fun i _ => n - (intOf i).toNat)
  case atStart => exact ⟨0, Nat.zero_le _, rfl, 0, rfl⟩
  case round =>
    obtain ⟨k, hk, rfl, HD⟩ := hrel
    by_cases hlt : k < n
    · have hki : (k : Int) < (n : Int) := by omega
      obtain ⟨b1, o1, rfl, hb1, hc1⟩ := HRC3.out.2.2 (by omega)
      obtain ⟨b3, o3, rfl, hb3, hc3⟩ := HRL3.out.2.2 (by omega)
      have g1 : wr.cell? ⟨b1, o1 + k, none⟩ = some (.int .i64 (cs.getD k 0)) := by obtain ⟨m, hm⟩ := HD.out; rw [hm]; exact hc1 k hlt
      have g3 : wr.cell? ⟨b3, o3 + k, none⟩ = some (.int .i64 ((lensBy cs top).getD k 0)) := by obtain ⟨m, hm⟩ := HD.out; rw [hm]; exact hc3 k hlt
      obtain ⟨p1, p2, p3⟩ := HLE.out.each k (by rw [HN.out]; exact hlt)
      generalize cs.getD k 0 = C at g1 p3
      generalize (lensBy cs top).getD k 0 = L at g3 p1 p2 p3
      have d1 : decide (L < 0) = false := by rw [decide_eq_false_iff_not]; omega
      have d2 : decide ((top : Int) < L) = false := by rw [decide_eq_false_iff_not]; omega
      clear hc1 hc3
      by_cases hC : 0 < C
      · have hL : 0 < L := p3.2 hC
        have d3 : decide (0 < L) = true := by rw [decide_eq_true_iff]; exact hL
        have d4 : decide (0 < C) = true := by rw [decide_eq_true_iff]; exact hC
        have d5 : ((true : Bool) != true) = false := rfl
        clear p1 p2 p3 hC hL
        go_wp2_with fail
        go_quiet (fail)
        go_wp2_with fail
        go_roundw
        case rel => exact ⟨k + 1, by omega, by go_num, drewN_more HD.out nq⟩
        case measure => simp [intOf]; omega
      · have hL : ¬ 0 < L := fun h => hC (p3.1 h)
        have d3 : decide (0 < L) = false := by rw [decide_eq_false_iff_not]; exact hL
        have d4 : decide (0 < C) = false := by rw [decide_eq_false_iff_not]; exact hC
        have d5 : ((false : Bool) != false) = false := rfl
        clear p1 p2 p3 hC hL
        go_wp2_with fail
        go_quiet (fail)
        go_wp2_with fail
        go_roundw
        case rel => exact ⟨k + 1, by omega, by go_num, drewN_more HD.out nq⟩
        case measure => simp [intOf]; omega
    · obtain rfl : n = k := by omega
      have hki : ¬ (n : Int) < (n : Int) := by omega
      have hmk := make_row_int n (n : Int) rfl (by omega) wr
      have hbd : Below w3.heap.size w3 wr := by obtain ⟨m, hm⟩ := HD.out; rw [hm]; exact below_drewN' _ _ _
      have HRC4 := hide (HRC3.out.below hbd)
      have HRL4 := hide (HRL3.out.below hbd)
      have R24 := hide (R23.out.below hbd)
      have HB4 := hide (below_trans HB3.out hbd)
      have HR5 : Hid (RowI 3 (wr.alloc (.cells (ivals (List.replicate n 0)).toArray 3)) wr.heap.size (List.replicate n 0)) := rowi_new _ _ _
      have HB5 : Hid (Below wr.heap.size wr (wr.alloc (.cells (ivals (List.replicate n 0)).toArray 3))) := (Below.refl _ _).alloc (Nat.le_refl _) _
      obtain ⟨gm, hgm⟩ : ∃ gm, wr.heap.size = gm := ⟨_, rfl⟩
      rw [hgm] at hmk HR5 HB5
      have HGM := hide hgm
      obtain ⟨w5, hw5⟩ : ∃ w5, wr.alloc (.cells (ivals (List.replicate n 0)).toArray 3) = w5 := ⟨_, rfl⟩
      rw [hw5] at hmk HR5 HB5
      clear hw5 hgm hbd HRC3 HRL3 R23 HB3 HD hlt
      go_wp2_with fail
      obtain ⟨w4, HRC4, HRL4, R24, HB4, HGM, HB5⟩ : ∃ w4 : World, Hid (RdI w4 ca n cs) ∧ Hid (RdI w4 la n (lensBy cs top)) ∧ Hid (RdI w4 a2 len2 b2) ∧ Hid (Below w.heap.size w w4) ∧ Hid (w4.heap.size = gm) ∧ Hid (Below gm w4 w5) := ⟨wr, HRC4, HRL4, R24, HB4, HGM, HB5⟩
      clear hmk
      have HM0 : Hid (Mok cs top (List.replicate n 0) 0) := by rw [← HN.out]; exact mok_zero cs top
      have l2i : (len2 : Int) ≤ 17592186043904 := by omega
      generalize List.replicate n (0 : Int) = M0 at HR5 HM0
      go_loopw [16] (fun i wz => ∃ (k : Nat) (M : List Int), k ≤ n ∧ i = .int .i64 (k : Int) ∧ Hid (Mok cs top M k) ∧ Hid (RowI 3 wz gm M) ∧ Hid (Below gm w4 wz)) (fun i _ => n - (intOf i).toNat)
      case atStart => exact ⟨0, M0, Nat.zero_le _, rfl, HM0, HR5, HB5⟩
      case round =>
        clear HR5 HB5 HM0
        obtain ⟨k, M, hk, rfl, HM, HR, HBM⟩ := hrel
        by_cases hlt : k < n
        · have hki : (k : Int) < (n : Int) := by omega
          obtain ⟨b1, o1, rfl, hb1, hc1⟩ := HRC4.out.2.2 (by omega)
          have g1 := hc1 k hlt
          rw [← HBM.out.cell (p := ⟨b1, o1 + k, none⟩) (by show b1 < gm; rw [← HGM.out]; exact hb1)] at g1
          have hpos := (Huff.allIn_get HIN.out k (by rw [HN.out]; exact hlt)).1
          have HSK := hide (fun h => mok_skip HM.out (k := k) h)
          have HST := hide (fun h m h1 h2 => mok_set HM.out (by rw [HN.out]; exact hlt) h m h1 h2)
          generalize cs.getD k 0 = C at g1 HSK HST hpos
          clear hc1
          by_cases hC : 0 < C
          · have hCe : (C == 0) = false := by rw [beq_eq_false_iff_ne]; omega
            have HS2 := hide (HST.out hC)
            have hML : k < M.length := by rw [HM.out.1, HN.out]; exact hlt
            have f1 := HR.out.frozen k
            have c1 := HR.out.cell k hML
            have HR1 := hide (HR.out.store k (top : Int))
            have c2 := HR1.out.cell k (by rw [List.length_set]; exact hML)
            rw [getD_set' M k k _ hML, if_pos rfl] at c2
            have f2 := HR1.out.frozen k
            have HB1 : Hid (Below gm w4 (wr.setCell ⟨gm, k, none⟩ (.int .i64 (top : Int)))) := HBM.out.setCell (Nat.le_refl _) _
            generalize M.getD k 0 = Mk at c1
            by_cases h2 : k < len2
            · have h2i : (k : Int) < (len2 : Int) := by omega
              obtain ⟨b4, o4, rfl, hb4, hc4⟩ := R24.out.2.2 (by omega)
              have g4 := hc4 k h2
              rw [← HB1.out.cell (p := ⟨b4, o4 + k, none⟩) (by show b4 < gm; rw [← HGM.out]; exact hb4)] at g4
              have HLM := hide (fun W => limited_any (b2.getD k 0) 0 W (by omega))
              generalize b2.getD k 0 = X at g4 HLM
              clear hc4
              go_wp2_with (go_at_call 17; refine (HLM.out _).mono ?_; rintro e w9 ⟨l, rfl, k1, k15, _, rfl⟩)
              have HRF := (((HR.out.store k (top : Int)).store k (l : Int)).store k (min (l : Int) (top : Int)))
              rw [List.set_set, List.set_set] at HRF
              exact ⟨⟨k + 1, _, by omega, by go_num, HS2.out (min (l : Int) (top : Int)) (by omega) (by omega), HRF, ((HBM.out.setCell (Nat.le_refl _) _).setCell (Nat.le_refl _) _).setCell (Nat.le_refl _) _⟩, by simp [intOf]; omega⟩
            · have h2i : ¬ (k : Int) < (len2 : Int) := by omega
              go_wp2_with fail
              have HRF := ((HR.out.store k (top : Int)).store k (top : Int))
              rw [List.set_set] at HRF
              exact ⟨⟨k + 1, _, by omega, by go_num, HS2.out (top : Int) (by omega) (by omega), HRF, (HBM.out.setCell (Nat.le_refl _) _).setCell (Nat.le_refl _) _⟩, by simp [intOf]; omega⟩
          · have hCe : (C == 0) = true := by rw [beq_iff_eq]; omega
            have HS2 := hide (HSK.out hC)
            go_wp2_with fail
            exact ⟨⟨k + 1, M, by omega, by go_num, HS2, HR, HBM⟩, by simp [intOf]; omega⟩
        · obtain rfl : n = k := by omega
          have hkj : ¬ (n : Int) < (n : Int) := by omega
          clear R24 hlt hk
          go_wp2_with fail
          go_loopw [17] (fun x wz => ∃ (i : Nat) (M : List Int), i ≤ n ∧ x = .int .i64 (i : Int) ∧ Hid (Mok cs top M n) ∧ Hid (RowI 3 wz gm M) ∧ Hid (Below gm w4 wz) ∧ Hid ((∀ s, s < i → 0 < cs.getD s 0 → M.getD s 0 = top) ∨ kraftTo M n ≤ 32768)) (fun x _ => n - (intOf x).toNat)
          case atStart => exact ⟨0, M, Nat.zero_le _, rfl, HM, HR, HBM, .inl (fun s hs => by omega)⟩
          case round =>
            clear HM HR HBM
            obtain ⟨i, M, hi, rfl, HM, HR, HBM, HOR⟩ := hrel
            have HMR : Hid (RdI wr (some ⟨gm, 0, none⟩) n M) := row_rd HR.out (by rw [HM.out.1, HN.out]) hn6
            have HKR := hide (kraft_any (some ⟨gm, 0, none⟩) n n M wr HMR.out hn6)
            obtain ⟨Kv, hKv⟩ : ∃ Kv, kraftTo M n = Kv := ⟨_, rfl⟩
            have HKV := hide hKv
            rw [hKv] at HKR HOR
            clear hKv
            by_cases hgo : i < n ∧ 32768 < Kv
            · obtain ⟨hin, hK⟩ := hgo
              have HTP : Hid (∀ s, s < i → 0 < cs.getD s 0 → M.getD s 0 = top) := by
                rcases HOR.out with h | h
                · exact h
                · omega
              have hii : (i : Int) < (n : Int) := by omega
              have hKi : (32768 : Int) < (Kv : Int) := by omega
              have d1 : decide ((i : Int) < (n : Int)) = true := by rw [decide_eq_true_iff]; exact hii
              clear HOR
              go_wp2_with (go_at_call 19; refine HKR.out.mono ?_; rintro e wr ⟨rfl, rfl⟩)
              go_loopw [134] (fun _ wy => ∃ M : List Int, Hid (Mok cs top M n) ∧ Hid (RowI 3 wy gm M) ∧ Hid (Below gm w4 wy) ∧ Hid (∀ s, s < i → 0 < cs.getD s 0 → M.getD s 0 = top)) (fun _ wy => 16 - cellN wy gm i)
              case atStart => exact ⟨M, HM, HR, HBM, HTP⟩
              case round =>
                clear HM HR HBM HTP HMR HKR HKV hKi hK
                obtain ⟨M, HM, HR, HBM, HTP⟩ := hrel
                have HMR : Hid (RdI wr (some ⟨gm, 0, none⟩) n M) := row_rd HR.out (by rw [HM.out.1, HN.out]) hn6
                have HKR := hide (kraft_any (some ⟨gm, 0, none⟩) n n M wr HMR.out hn6)
                obtain ⟨Kw, hKw⟩ : ∃ Kw, kraftTo M n = Kw := ⟨_, rfl⟩
                have HKW := hide hKw
                rw [hKw] at HKR
                have hML : i < M.length := by rw [HM.out.1, HN.out]; exact hin
                have c1 := HR.out.cell i hML
                have f1 := HR.out.frozen i
                have HCN := hide (cellN_of c1)
                have HMI := hide (HM.out.2 i (by rw [HN.out]; exact hin)).1
                have HAG := hide (fun h m h1 h2 => mok_again HM.out hin (by rw [HN.out]; exact hin) h m h1 h2)
                have HTN : Hid (∀ m : Int, ∀ s, s < i → 0 < cs.getD s 0 → (M.set i m).getD s 0 = top) := fun m s hs h0 => by
                  rw [getD_set' M i s m hML, if_neg (by omega)]; exact HTP.out s hs h0
                have HNX : Hid (∀ x : Int, M.getD i 0 = x → (¬ 0 < cs.getD i 0 ∨ x = top) → ∀ s, s < i + 1 → 0 < cs.getD s 0 → M.getD s 0 = top) := fun x hx h s hs h0 => by
                  by_cases e : s = i
                  · subst e
                    rcases h with h | h
                    · exact absurd h0 h
                    · rw [hx, h]
                  · exact HTP.out s (by omega) h0
                obtain ⟨x, hx⟩ : ∃ x, M.getD i 0 = x := ⟨_, rfl⟩
                have HXE := hide hx
                rw [hx] at c1 HMI HCN
                have hMI : (0 < cs.getD i 0 → 1 ≤ x ∧ x ≤ top) ∧ (¬ 0 < cs.getD i 0 → x = 0) := HMI.out hin
                have HXP : Hid (0 < x → 0 < cs.getD i 0) := fun h => Decidable.byContradiction fun h2 => by have := hMI.2 h2; omega
                have HX0 : Hid (¬ 0 < x → ¬ 0 < cs.getD i 0) := fun h h2 => by have := hMI.1 h2; omega
                have hxt : x ≤ top := by
                  by_cases h : 0 < cs.getD i 0
                  · exact (hMI.1 h).2
                  · have := hMI.2 h; omega
                clear hKw hx hMI HMI
                by_cases hb : 0 < x ∧ x < top ∧ 32768 < Kw
                · obtain ⟨x0, x1, x2⟩ := hb
                  have x2i : (32768 : Int) < (Kw : Int) := by omega
                  have d2 : decide (0 < x) = true := by rw [decide_eq_true_iff]; exact x0
                  have d3 : decide (x < (top : Int)) = true := by rw [decide_eq_true_iff]; exact x1
                  have HM2 := hide (HAG.out (HXP.out x0) (x + 1) (by omega) (by omega))
                  have HR2 := hide (HR.out.store i (x + 1))
                  have HC2 := hide (cellN_of (HR2.out.cell i (by rw [List.length_set]; exact hML)))
                  rw [getD_set' M i i _ hML, if_pos rfl] at HC2
                  have HB2 : Hid (Below gm w4 (wr.setCell ⟨gm, i, none⟩ (.int .i64 (x + 1)))) := HBM.out.setCell (Nat.le_refl _) _
                  go_wp2_with (go_at_call 19; refine HKR.out.mono ?_; rintro e wr ⟨rfl, rfl⟩)
                  go_roundw
                  case rel => exact ⟨M.set i (x + 1), HM2, HR2, HB2, HTN.out (x + 1)⟩
                  case measure => rw [HC2.out, HCN.out]; omega
                · have HFIN : Hid ((∀ s, s < i + 1 → 0 < cs.getD s 0 → M.getD s 0 = top) ∨ kraftTo M n ≤ 32768) := by
                    by_cases h0 : 0 < x
                    · by_cases h1 : x < top
                      · exact .inr (by rw [HKW.out]; omega)
                      · exact .inl (HNX.out x HXE.out (.inr (by omega)))
                    · exact .inl (HNX.out x HXE.out (.inl (HX0.out h0)))
                  by_cases h0 : 0 < x
                  · have d2 : decide (0 < x) = true := by rw [decide_eq_true_iff]; exact h0
                    by_cases h1 : x < top
                    · have d3 : decide (x < (top : Int)) = true := by rw [decide_eq_true_iff]; exact h1
                      have x2i : ¬ (32768 : Int) < (Kw : Int) := by omega
                      clear hb
                      go_wp2_with (go_at_call 19; refine HKR.out.mono ?_; rintro e wr ⟨rfl, rfl⟩)
                      go_roundw
                      case rel => exact ⟨i + 1, M, by omega, by go_num, HM, HR, HBM, HFIN⟩
                      case measure => simp [intOf]; omega
                    · have d3 : decide (x < (top : Int)) = false := by rw [decide_eq_false_iff_not]; exact h1
                      have h1' : ¬ x < (top : Int) := h1
                      clear hb
                      go_wp2_with fail
                      go_roundw
                      case rel => exact ⟨i + 1, M, by omega, by go_num, HM, HR, HBM, HFIN⟩
                      case measure => simp [intOf]; omega
                  · have d2 : decide (0 < x) = false := by rw [decide_eq_false_iff_not]; exact h0
                    clear hb
                    go_wp2_with fail
                    go_roundw
                    case rel => exact ⟨i + 1, M, by omega, by go_num, HM, HR, HBM, HFIN⟩
                    case measure => simp [intOf]; omega
            · have HKF : Hid (Kv ≤ 32768) := by
                show _ ≤ _
                rcases Nat.lt_or_ge i n with h | h
                · omega
                · rcases HOR.out with h1 | h1
                  · rw [← HKV.out]
                    exact kraft_top HN.out t1 t15 (by rw [HNN.out]; exact HNT.out) HM.out (fun s hs h0 => h1 s (by omega) h0)
                  · exact h1
              have HBW : Hid (Below w4.heap.size w4 wr) := by rw [HGM.out]; exact HBM.out
              have HRC5 := hide (HRC4.out.below HBW.out)
              have HRL5 := hide (HRL4.out.below HBW.out)
              have HB5 := hide (below_trans HB4.out HBW.out)
              have HMA := hide (mok_all HN.out t15 HM.out)
              have HSI := hide (Huff.sumTo_in cs M HIN.out HMA.out)
              have HLS := hide (HLE.out.least M (fun s hs => (HM.out.2 s hs).1 (by rw [← HN.out]; exact hs)) HM.out.1 (by rw [HN.out, HKV.out]; exact HKF.out))
              rw [HN.out, HCOE.out] at HLS
              have HML := hide HM.out.1
              rw [HN.out] at HML
              rw [HN.out, HML.out] at HSI
              have HKL := hide HLE.out.right
              rw [HN.out] at HKL
              have hKf : ¬ (32768 : Int) < (Kv : Int) := by have := HKF.out; omega
              have hGE : i < n ∨ n ≤ i := Nat.lt_or_ge i n
              clear HOR HM HBM HBW HRC4 HRL4 HB4 HKV HKF hgo HGM HLE HMR
              rcases hGE with hin | hin
              all_goals
                first
                  | (have hii : (i : Int) < (n : Int) := by omega
                     have d1 : decide ((i : Int) < (n : Int)) = true := by rw [decide_eq_true_iff]; exact hii)
                  | (have hii : ¬ (i : Int) < (n : Int) := by omega
                     have d1 : decide ((i : Int) < (n : Int)) = false := by rw [decide_eq_false_iff_not]; exact hii)
                go_wp2_with (go_at_call 19; refine HKR.out.mono ?_; rintro e wr ⟨rfl, rfl⟩)
                go_loopw [18, 19] (fun y x wz => ∃ (k : Nat) (S : Int), k ≤ n ∧ x = .int .i64 (k : Int) ∧ y = .int .i64 S ∧ 0 ≤ S ∧ S ≤ 5000000000000000 ∧ Hid (S = Huff.sumTo cs M k) ∧ Hid (∃ m, wz = wr.drewN m)) (fun _ x _ => n - (intOf x).toNat)
                case atStart => exact ⟨0, 0, Nat.zero_le _, rfl, rfl, by omega, by omega, rfl, 0, rfl⟩
                case round =>
                  obtain ⟨k, S, hk, rfl, rfl, s1, s2, HE, HD⟩ := hrel
                  by_cases hlt : k < n
                  · have hkn : (k : Int) < (n : Int) := by omega
                    obtain ⟨b1, o1, rfl, hb1, hc1⟩ := HRC5.out.2.2 (by omega)
                    have g1 : wr.cell? ⟨b1, o1 + k, none⟩ = some (.int .i64 (cs.getD k 0)) := by obtain ⟨m, hm⟩ := HD.out; rw [hm]; exact hc1 k hlt
                    have g2 : wr.cell? ⟨gm, k, none⟩ = some (.int .i64 (M.getD k 0)) := by obtain ⟨m, hm⟩ := HD.out; rw [hm]; exact HR.out.cell k (by rw [HML.out]; exact hlt)
                    have x1 := Huff.allIn_get HIN.out k (by rw [HN.out]; exact hlt)
                    have x2 := Huff.allIn_get HMA.out k (by rw [HML.out]; exact hlt)
                    have HS1 := hide (HSI.out (k + 1) (by omega) (by omega))
                    have HS2 : Hid (Huff.sumTo cs M (k + 1) = Huff.sumTo cs M k + cs.getD k 0 * M.getD k 0) := rfl
                    generalize cs.getD k 0 = X at g1 x1 HS2
                    generalize M.getD k 0 = Y at g2 x2 HS2
                    have p1 : 0 ≤ X * Y := Int.mul_nonneg x1.1 x2.1
                    have p2 : X * Y ≤ 1099511627776 * 15 := Int.mul_le_mul x1.2 x2.2 x2.1 (by decide)
                    obtain ⟨P, hP⟩ : ∃ P, X * Y = P := ⟨_, rfl⟩
                    have q1 : IntKind.i64.wrap (X * Y) = P := by rw [IntKind.wrap_i64, hP]; omega
                    have HS3 : Hid (Huff.sumTo cs M (k + 1) = S + P) := by show _ = _; rw [HS2.out, HE.out, hP]
                    have hbb : 0 ≤ S + P ∧ S + P ≤ 5000000000000000 := by
                      have := HS1.out
                      rw [HS3.out] at this
                      omega
                    obtain ⟨T, hT⟩ : ∃ T, S + P = T := ⟨_, rfl⟩
                    have q2 : IntKind.i64.wrap (S + P) = T := by rw [IntKind.wrap_i64, hT]; omega
                    rw [hT] at HS3 hbb
                    obtain ⟨u1, u2⟩ := hbb
                    clear p1 p2 hP hT x1 x2 HS1 HS2 hc1
                    go_wp2_with fail
                    go_quiet (fail)
                    go_wp2_with fail
                    go_roundw
                    case rel => exact ⟨k + 1, T, by omega, by go_num, rfl, u1, u2, HS3.out.symm, drewN_more HD.out nq⟩
                    case measure => simp [intOf]; omega
                  · obtain rfl : n = k := by omega
                    have hkn : ¬ (n : Int) < (n : Int) := by omega
                    have HRLF : Hid (RdI wr la n (lensBy cs top)) := by obtain ⟨m, hm⟩ := HD.out; rw [hm]; exact HRL5.out.below (below_drewN' _ _ _)
                    have HBF : Hid (Below w.heap.size w wr) := by obtain ⟨m, hm⟩ := HD.out; rw [hm]; exact below_drewN HB5.out m
                    have HKZ := hide (kraft_any la n lc (lensBy cs top) wr HRLF.out hn6)
                    obtain ⟨Kz, hKz⟩ : ∃ Kz, kraftTo (lensBy cs top) n = Kz := ⟨_, rfl⟩
                    rw [hKz] at HKZ HKL
                    have hKzi : (Kz : Int) ≤ 32768 := by have := HKL.out; omega
                    have hKzn : Kz ≤ 32768 := HKL.out
                    have hCS : CO ≤ S := by have := HLS.out; rw [← HE.out] at this; exact this
                    have z1 : decide ((Kz : Int) ≤ 32768) = true := by rw [decide_eq_true_iff]; exact hKzi
                    have z2 : decide (CO ≤ S) = true := by rw [decide_eq_true_iff]; exact hCS
                    go_wp2_with (go_at_call 19; refine HKZ.out.mono ?_; rintro e wr ⟨rfl, rfl⟩)
                    go_ret
                    exact ⟨rfl, HBF.out⟩
end Go.Proofs.Ytmfljllbniimmaa.huffLeast
