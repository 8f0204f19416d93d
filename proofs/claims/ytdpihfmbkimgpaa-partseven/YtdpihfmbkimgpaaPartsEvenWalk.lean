/-
  The walk of the statement PartsEven.
-/
import Derived.Test.YtdpihfmbkimgpaaPaEven
import Derived.Test.YtdpihfmbkimgpaaIBase
namespace Go.Proofs.Ytdpihfmbkimgpaa.partsEven
open Go.ChangeShapes Go.WideShapes Go.ChangeAt Go.RowKit
open Go.Proofs.Ytdpihfmbkimgpaa.Base Go.Proofs.Ytdpihfmbkimgpaa.Pa
set_option linter.unusedVariables false
/-- Is the text among the first ones? -/
def among (l : List ByteArray) (s : ByteArray) : Bool := l.any fun t => decide (t = s)
theorem among_step (l : List ByteArray) (s : ByteArray) (k : Nat) (h : k < l.length) : among (l.take (k + 1)) s = (among (l.take k) s || decide (l.getD k ⟨#[]⟩ = s)) := by
  unfold among
  rw [take_snoc l k h, List.any_append]
  simp
theorem among_not {l : List ByteArray} {s : ByteArray} (h : among l s = false) : s ∉ l := by
  intro hm
  unfold among at h
  have := List.any_eq_false.1 h s hm
  simp at this
theorem among_mem {l : List ByteArray} {s : ByteArray} (h : s ∈ l) : among l s = true := by
  unfold among
  exact List.any_eq_true.2 ⟨s, h, by simp⟩
set_option maxHeartbeats 4000000 in
set_option maxRecDepth 100000 in
theorem walk0 (a0 : Option Addr) (len0 cap0 : Nat) (ss0 : List ByteArray) (n : Int) (w : World) (r0 : RdS w a0 len0 ss0) :
    Calls Try.prog 5 #[.slice a0 len0 cap0, .int .i64 n] w fun e w' => e = .returned (.bool true) ∧ Below w.heap.size w w' := by
  have hl0 := r0.2.1
  have H0 := hide r0
  clear r0
  go_enter Try.func5, Try.ntmps5
  go_wp2_with fail
  go_loopw [5, 6] (fun v i wr => ∃ (k : Nat) (L : List ByteArray), k ≤ len0 ∧ k ≤ 40 ∧ i = .int .i64 (k : Int) ∧ Hid (L.length ≤ k) ∧ Hid (OwnS wr w.heap.size v L) ∧ Hid (L.Nodup) ∧ Hid (∀ s ∈ L, s.size ≤ 1024) ∧ Hid (Below w.heap.size w wr)) (fun v i _ => len0 - (intOf i).toNat)
  case atStart => exact ⟨0, [], Nat.zero_le _, Nat.zero_le _, rfl, Nat.le_refl _, owns_none _ _, List.nodup_nil, (fun s hs => absurd hs List.not_mem_nil), Below.refl _ _⟩
  case round =>
    rename World => V0
    obtain ⟨k, L, hk, hk4, rfl, HL, HO, HN, HZ, HB⟩ := hrel
    obtain ⟨a1, c1, rfl⟩ := HO.out.shape
    have hLk := HL.out
    by_cases hgo : k < len0 ∧ k < 40
    · obtain ⟨hlt, h40⟩ := hgo
      have hki : (k : Int) < (len0 : Int) := by omega
      have h40i : (k : Int) < 40 := by omega
      obtain ⟨b2, o2, rfl, hb2l, hc2⟩ := (H0.out.below HB.out).2.2.2 (by omega)
      have kc := hc2 k hlt
      have HKL : Hid (b2 < V0.heap.size) := hb2l
      have hsz := H0.out.2.2.1 _ (getS_mem (i := k) (by rw [H0.out.1]; exact hlt))
      generalize ss0.getD k ⟨#[]⟩ = s at kc hsz
      have KC := hide kc
      clear hc2
      have hRL := HO.out.rds (by omega) (fun t ht => by have := HZ.out t ht; omega)
      have HRL := hide hRL
      clear hRL
      obtain ⟨N, hN⟩ : ∃ N, L.length = N := ⟨_, rfl⟩
      have HNL := hide hN
      rw [hN] at hLk HO HRL HL ⊢
      clear hN
      go_wp2_with fail
      go_loopw [7, 8] (fun b i wr => ∃ (j : Nat) (B : Bool), j ≤ N ∧ i = .int .i64 (j : Int) ∧ b = .bool B ∧ Hid (B = (tooLong s || among (L.take j) s)) ∧ Hid (∃ q, wr = V0.drewN q)) (fun b i _ => N - (intOf i).toNat)
      case atStart =>
        refine ⟨0, tooLong s, Nat.zero_le _, rfl, ?_, ?_, ⟨0, rfl⟩⟩
        · unfold tooLong
          rw [show (decide ((1024 : Int) < (s.size : Int))) = decide (1024 < s.size) from decide_eq_decide.2 (by omega)]
        · show tooLong s = (tooLong s || among [] s)
          simp [among]
      case round =>
        obtain ⟨j, B, hj, rfl, rfl, HBB, q, rfl⟩ := hrel
        by_cases hjl : j < N
        · have hji : (j : Int) < (N : Int) := by omega
          obtain ⟨b3, o3, rfl, hb3l, hc3⟩ := HRL.out.2.2.2 (by omega)
          have cj := hc3 j hjl
          have HST := hide (among_step L s j (by rw [HNL.out]; exact hjl))
          clear hc3
          generalize L.getD j ⟨#[]⟩ = t at cj HST
          have hse := str_eq t s
          cases B with
          | true =>
            go_wp2_with fail
            go_quiet (fail)
            go_wp2_with fail
            go_roundw
            case rel =>
              refine ⟨j + 1, true, by omega, by go_num, rfl, ?_, ⟨_, rfl⟩⟩
              have h := HBB.out
              rw [HST.out, ← Bool.or_assoc, ← h]; rfl
            case measure => (simp [intOf] <;> omega)
          | false =>
            generalize hD : decide (t = s) = D at hse HST
            clear hD
            go_wp2_with fail
            go_quiet (fail)
            go_wp2_with fail
            go_roundw
            case rel =>
              refine ⟨j + 1, D, by omega, by go_num, rfl, ?_, ⟨_, rfl⟩⟩
              have h := HBB.out
              rw [HST.out, ← Bool.or_assoc, ← h]; rfl
            case measure => (simp [intOf] <;> omega)
        · have hjk : j = N := by omega
          subst hjk
          have hji : ¬ (j : Int) < (j : Int) := by omega
          have HTK : Hid (L.take j = L) := hide (List.take_of_length_le (by rw [HNL.out]; exact Nat.le_refl _))
          rw [HTK.out] at HBB
          cases B with
          | true =>
            go_wp2_with fail
            go_roundw
            case rel =>
              exact ⟨k + 1, L, by omega, by omega, by go_num, (by show L.length ≤ k + 1; rw [HNL.out]; omega), HO.out.below (below_drewN' _ _ _), HN, HZ, below_trans HB.out (below_drewN' _ _ _)⟩
            case measure => (simp [intOf] <;> omega)
          | false =>
            have hb := HBB.out
            have hb1 : tooLong s = false := by
              cases h : tooLong s with
              | false => rfl
              | true => rw [h] at hb; cases hb
            have hb2 : among L s = false := by
              rw [hb1] at hb; exact hb.symm
            have HS1 : Hid (s.size ≤ 1024) := hide (by simpa [tooLong] using hb1)
            have HS2 := hide (among_not hb2)
            clear hb hb1 hb2
            have HOq : Hid (OwnS (V0.drewN q) w.heap.size (.slice a1 j c1) L) := by
              have h := HO.out.below (below_drewN' V0.heap.size V0 q)
              exact h
            have HBq := hide (below_trans HB.out (below_drewN' V0.heap.size V0 q))
            have kq : (V0.drewN q).cell? ⟨b2, o2 + k, none⟩ = some (.string s) := kc
            have HSZq : Hid (V0.heap.size = (V0.drewN q).heap.size) := rfl
            generalize V0.drewN q = Vq at HOq HBq kq HSZq ⊢
            clear kc
            go_wp2_with (at_builtin; refine pushS _ rfl _ _ rfl w.heap.size _ L rfl (HOq.out.below ((Below.refl _ _).alloc (Nat.le_refl _) _)) ⟨Vq.heap.size, 0, none⟩ 1 s rfl ?_ (by rw [HNL.out]; omega) (by have := HBq.out.size; simp; omega) ?_
                         · simp [Addr.add]
                         intro v5 w5 ho5 hg5
                         have HO5 := hide ho5
                         have HB5 := hide ((HBq.out.alloc HBq.out.size _).grown hg5 (by have := HBq.out.size; simp; omega) (fun i e => (HOq.out.blk i e).1))
                         clear ho5 hg5)
            go_roundw
            case rel =>
              refine ⟨k + 1, L ++ [s], by omega, by omega, by go_num, ?_, HO5, ?_, ?_, HB5⟩
              · show (L ++ [s]).length ≤ k + 1
                rw [List.length_append, HNL.out]; simp; omega
              · have h1 := HN.out
                have h2 := HS2.out
                exact List.nodup_append.2 ⟨h1, by simp, fun x hx y hy e => h2 (by rw [List.mem_singleton] at hy; rw [← hy, ← e]; exact hx)⟩
              · intro x hx
                rcases List.mem_append.1 hx with h | h
                · exact HZ.out x h
                · rw [List.mem_singleton] at h; rw [h]; exact HS1.out
            case measure => (simp [intOf] <;> omega)
    · have hgn : ¬ (k < len0) ∨ (k < len0 ∧ ¬ k < 40) := by omega
      have hRL := HO.out.rds (by omega) (fun t ht => by have := HZ.out t ht; omega)
      have HRL := hide hRL
      clear hRL
      obtain ⟨N, hN⟩ : ∃ N, L.length = N := ⟨_, rfl⟩
      have HNL := hide hN
      rw [hN] at hLk HO HRL HL ⊢
      clear hN
      have hV0 : ∃ V, V0 = V := ⟨_, rfl⟩
      rcases hgn with hg | ⟨hg1, hg2⟩
      · have hki : ¬ (k : Int) < (len0 : Int) := by omega
        by_cases hN0 : N = 0
        · subst hN0
          go_wp2_with fail
          refine (works_any _).mono ?_
          rintro e w2 ⟨rfl, hb2⟩
          have HB2 := hide (below_trans HB.out hb2)
          clear hb2
          go_wp2_with fail
          go_ret
          exact ⟨rfl, HB2.out⟩
        · have hN0i : ((N : Int) == 0) = false := by simp; omega
          have HE : Hid (bErr L (N : Int) = 0) := hide (by rw [← HNL.out]; exact even_ok (by rw [HNL.out]; omega) (by rw [HNL.out]; omega) HZ.out)
          have HLI : Hid ((L.length : Int) = (N : Int)) := hide (by rw [HNL.out])
          go_wp2_with fail
          refine (bounds_any a1 N c1 L (N : Int) _ HRL.out).mono ?_
          rintro e w2 ⟨v2, rfl, ho2, hb2⟩
          rw [HE.out]
          obtain ⟨a2, c2, rfl⟩ := ho2.shape
          have HBL := hide (bndS_len HE.out)
          obtain ⟨K, hK⟩ : ∃ K, (bndS L (N : Int)).length = K := ⟨_, rfl⟩
          have hK1 : K + 1 = N := by rw [← hK, HBL.out]; omega
          have HR2 := hide (ho2.rds (by omega) (fun t ht => by have := bndS_short HE.out t ht; omega))
          rw [hK] at HR2 ⊢
          have HRL2 := hide (HRL.out.below hb2)
          have HB2 := hide (below_trans HB.out hb2)
          have HK := hide hK
          clear hK hb2 ho2 HBL
          have hq : ((K : Int) != (N : Int) - 1) = false := by simp; omega
          have hmk := make_row_int N (N : Int) rfl (by omega)
          obtain ⟨w3, hw3⟩ : ∃ w3, w2.alloc (.cells (ivals (List.replicate N 0)).toArray 3) = w3 := ⟨_, rfl⟩
          have HX3 : Hid (RowI 3 w3 w2.heap.size (List.replicate N 0)) := hide (by rw [← hw3]; exact rowi_new _ _ _)
          have HB3 : Hid (Below w2.heap.size w2 w3) := hide (by rw [← hw3]; exact (Below.refl _ _).alloc (Nat.le_refl _) _)
          go_wp2_with fail
          clear hw3 hmk
          go_loopw [12] (fun i wr => ∃ (j : Nat) (X : List Int), j ≤ N ∧ i = .int .i64 (j : Int) ∧ Hid (RowI 3 wr w2.heap.size X) ∧ Hid (X.length = N) ∧ Hid (∀ p, p < N → X.getD p 0 ≠ 0 → ∃ i, i < j ∧ rank (bndS L (N : Int)) (L.getD i ⟨#[]⟩) = p) ∧ Hid (Below w2.heap.size w2 wr)) (fun i _ => N - (intOf i).toNat)
          case atStart =>
            refine ⟨0, List.replicate N 0, Nat.zero_le _, rfl, HX3, List.length_replicate, ?_, HB3⟩
            intro p hp h
            exact absurd (by rw [List.getD_eq_getElem?_getD, List.getElem?_replicate, if_pos hp]; rfl) h
          case round =>
            obtain ⟨j, X, hj, rfl, HX, HXL, HXP, HBj⟩ := hrel
            by_cases hjl : j < N
            · have hji : (j : Int) < (N : Int) := by omega
              have HRj := hide (HRL2.out.below HBj.out)
              have HCj := hide (HR2.out.below HBj.out)
              obtain ⟨b3, o3, rfl, _, hc3⟩ := HRj.out.2.2.2 (by omega)
              have cj := hc3 j hjl
              have HMj := hide (getS_mem (ss := L) (i := j) (by rw [HNL.out]; exact hjl))
              have HSj := hide (HZ.out _ HMj.out)
              have HLt := hide (rank_lt HN.out HE.out HLI.out HMj.out)
              have HX0 : Hid (X.getD (rank (bndS L (N : Int)) (L.getD j ⟨#[]⟩)) 0 = 0) := by
                show _ = _
                refine Decidable.byContradiction fun h => ?_
                obtain ⟨i, hi, e⟩ := HXP.out _ (by have := HLt.out; rw [HNL.out] at this; exact this) h
                have e2 := rank_inj HN.out HE.out HLI.out (getS_mem (ss := L) (i := i) (by rw [HNL.out]; omega)) HMj.out e
                rw [List.getD_eq_getElem?_getD, List.getElem?_eq_getElem (by rw [HNL.out]; omega), List.getD_eq_getElem?_getD, List.getElem?_eq_getElem (by rw [HNL.out]; omega)] at e2
                exact List.pairwise_iff_getElem.1 HN.out i j (by rw [HNL.out]; omega) (by rw [HNL.out]; omega) hi e2
              have HRG := hide (fun W (h : RdS W a2 K (bndS L (N : Int))) => range_any a2 K c2 _ (L.getD j ⟨#[]⟩) W h (by have := HSj.out; omega))
              have HNX : Hid (∀ p, p < N → (X.set (rank (bndS L (N : Int)) (L.getD j ⟨#[]⟩)) 1).getD p 0 ≠ 0 → ∃ i, i < j + 1 ∧ rank (bndS L (N : Int)) (L.getD i ⟨#[]⟩) = p) := by
                intro p hp h
                by_cases e : rank (bndS L (N : Int)) (L.getD j ⟨#[]⟩) = p
                · exact ⟨j, by omega, e⟩
                · rw [List.getD_eq_getElem?_getD, List.getElem?_set_ne e, ← List.getD_eq_getElem?_getD] at h
                  obtain ⟨i, hi, e3⟩ := HXP.out p hp h
                  exact ⟨i, by omega, e3⟩
              rw [HNL.out] at HLt
              generalize rank (bndS L (N : Int)) (L.getD j ⟨#[]⟩) = P at HLt HX0 HRG HNX
              generalize L.getD j ⟨#[]⟩ = s at cj HRG
              have hP := HLt.out
              clear hc3 HMj
              go_wp2_with fail
              refine (HRG.out _ HCj.out).mono ?_
              rintro e w4 ⟨rfl, hb4⟩
              have HX4 := hide (HX.out.below hb4)
              have x4 := HX4.out.cell P (by rw [HXL.out]; exact hP)
              have f4 := HX4.out.frozen P
              rw [HX0.out] at x4
              have HB4 := hide (HBj.out.trans (hb4.mono HBj.out.size))
              have HX5 := hide (HX4.out.store P 1)
              clear hb4 cj
              have hPi : (P : Int) < (N : Int) := by omega
              have d1 : ¬ (P : Int) < 0 := by omega
              have d2 : ¬ (N : Int) ≤ (P : Int) := by omega
              go_wp2_with fail
              go_roundw
              case rel => exact ⟨j + 1, X.set P 1, by omega, by go_num, HX5, (by show (X.set P 1).length = N; rw [List.length_set]; exact HXL.out), HNX, HB4.out.setCell (Nat.le_refl _) _⟩
              case measure => (simp [intOf] <;> omega)
            · have hjk : j = N := by omega
              subst hjk
              have hji : ¬ (j : Int) < (j : Int) := by omega
              by_cases hn1 : n < 1
              · go_wp2_with fail
                go_ret
                exact ⟨rfl, HB2.out.trans (HBj.out.mono HB2.out.size)⟩
              · by_cases hn2 : 65535 < n
                · go_wp2_with fail
                  go_ret
                  exact ⟨rfl, HB2.out.trans (HBj.out.mono HB2.out.size)⟩
                · have HE2 : Hid (bErr L n = 0) := hide (even_ok2 (by rw [HNL.out]; omega) HZ.out ⟨by omega, by omega⟩)
                  obtain ⟨M, rfl⟩ : ∃ M : Nat, n = (M : Int) + 1 := ⟨n.toNat - 1, by omega⟩
                  have HRj := hide (HRL2.out.below HBj.out)
                  have HBw := hide (HB2.out.trans (HBj.out.mono HB2.out.size))
                  rename World => V3
                  clear HX HXP HXL HR2
                  go_wp2_with fail
                  refine (bounds_any a1 j c1 L ((M : Int) + 1) _ HRj.out).mono ?_
                  rintro e w5 ⟨v5, rfl, ho5, hb5⟩
                  rw [HE2.out]
                  obtain ⟨a5, c5, rfl⟩ := ho5.shape
                  have hM : (bndS L ((M : Int) + 1)).length = M := by rw [bndS_len HE2.out]; omega
                  have HR5 := hide (ho5.rds (by omega) (fun t ht => by have := bndS_short HE2.out t ht; omega))
                  rw [hM] at HR5 ⊢
                  have HM := hide hM
                  have HRL5 := hide (HRj.out.below hb5)
                  have HB5 := hide (below_trans HBw.out hb5)
                  have HMem := hide (bndS_mem HE2.out (by rw [HNL.out]; omega))
                  have HRi := hide (bndS_rises HE2.out)
                  have HSh := hide (bndS_short HE2.out)
                  clear ho5 hb5 hM
                  generalize bndS L ((M : Int) + 1) = C at HR5 HM HMem HRi HSh
                  have hq2 : ((M : Int) != (M : Int)) = false := by simp
                  go_wp2_with fail
                  go_loopw [16] (fun i wr => ∃ (t : Nat), t ≤ M ∧ i = .int .i64 (t : Int) ∧ Hid (∃ q, wr = w5.drewN q)) (fun i _ => M - (intOf i).toNat)
                  case atStart => exact ⟨0, Nat.zero_le _, rfl, 0, rfl⟩
                  case round =>
                    obtain ⟨t, ht, rfl, q, rfl⟩ := hrel
                    by_cases htl : t < M
                    · have hti : (t : Int) < (M : Int) := by omega
                      obtain ⟨b6, o6, rfl, _, hc6⟩ := HR5.out.2.2.2 (by omega)
                      have ct := hc6 t htl
                      have HMt := hide (among_mem (HMem.out _ (getS_mem (ss := C) (i := t) (by rw [HM.out]; exact htl))))
                      have HC6 := hide hc6
                      have HTX : Hid (C.getD t ⟨#[]⟩ = C.getD t ⟨#[]⟩) := rfl
                      generalize hx : C.getD t ⟨#[]⟩ = x at ct HMt
                      have HX := hide hx
                      clear hx HTX hc6
                      go_wp2_with fail
                      go_loopw [17, 18] (fun b i wr => ∃ (r : Nat) (B : Bool), r ≤ j ∧ i = .int .i64 (r : Int) ∧ b = .bool B ∧ Hid (B = among (L.take r) x) ∧ Hid (∃ q, wr = w5.drewN q)) (fun b i _ => j - (intOf i).toNat)
                      case atStart => exact ⟨0, false, Nat.zero_le _, rfl, rfl, rfl, q, rfl⟩
                      case round =>
                        obtain ⟨r, B, hr, rfl, rfl, HBB, q2, rfl⟩ := hrel
                        by_cases hrl : r < j
                        · have hri : (r : Int) < (j : Int) := by omega
                          obtain ⟨b7, o7, rfl, _, hc7⟩ := HRL5.out.2.2.2 (by omega)
                          have cr := hc7 r hrl
                          have HST := hide (among_step L x r (by rw [HNL.out]; exact hrl))
                          clear hc7
                          generalize L.getD r ⟨#[]⟩ = y at cr HST
                          have hse := str_eq y x
                          cases B with
                          | true =>
                            go_wp2_with fail
                            go_quiet (fail)
                            go_wp2_with fail
                            go_roundw
                            case rel =>
                              refine ⟨r + 1, true, by omega, by go_num, rfl, ?_, ⟨_, rfl⟩⟩
                              have h := HBB.out
                              rw [HST.out, ← h]; rfl
                            case measure => (simp [intOf] <;> omega)
                          | false =>
                            generalize hD : decide (y = x) = D at hse HST
                            clear hD
                            go_wp2_with fail
                            go_quiet (fail)
                            go_wp2_with fail
                            go_roundw
                            case rel =>
                              refine ⟨r + 1, D, by omega, by go_num, rfl, ?_, ⟨_, rfl⟩⟩
                              have h := HBB.out
                              rw [HST.out, ← h]; rfl
                            case measure => (simp [intOf] <;> omega)
                        · have hrk : r = j := by omega
                          subst hrk
                          have hri : ¬ (r : Int) < (r : Int) := by omega
                          have hB : B = true := by
                            have h := HBB.out
                            rw [List.take_of_length_le (by rw [HNL.out]; exact Nat.le_refl _), HMt.out] at h
                            exact h
                          subst hB
                          cases t with
                          | zero =>
                            go_wp2_with fail
                            go_quiet (fail)
                            go_wp2_with fail
                            go_roundw
                            case rel => exact ⟨1, by omega, by go_num, ⟨_, rfl⟩⟩
                            case measure => (simp [intOf] <;> omega)
                          | succ t =>
                            have ct0 := HC6.out t (by omega)
                            have HRt := hide (HRi.out t (by rw [HM.out]; omega))
                            have HS1 := hide (HSh.out _ (getS_mem (ss := C) (i := t) (by rw [HM.out]; omega)))
                            have HS2 := hide (HSh.out _ (getS_mem (ss := C) (i := t + 1) (by rw [HM.out]; omega)))
                            rw [HX.out] at HRt HS2
                            generalize C.getD t ⟨#[]⟩ = z at ct0 HRt HS1
                            have HCD : Hid (∀ W, Calls Try.prog 17 #[.string z, .string x] W fun e w' => e = .returned (.int .i64 (cmpT z x)) ∧ ∃ q, w' = W.drewN q) := fun W => compareD z x W (by have := HS1.out; omega) (by have := HS2.out; omega)
                            have hcz := HRt.out
                            generalize cmpT z x = D at HCD hcz
                            have hd : decide (0 < D) = false := decide_eq_false (by omega)
                            have hp : decide ((0 : Int) < (t : Int) + 1) = true := decide_eq_true (by omega)
                            have i1 : (t : Int) + 1 < (M : Int) := by omega
                            have i2 : (t : Int) < (M : Int) := by omega
                            have i3 : (t : Int) + 1 - 1 = (t : Int) := by omega
                            have i4 : ((t : Int) + 1).toNat = t + 1 := by omega
                            have i6 : (0 : Int) < (t : Int) + 1 := by omega
                            have i7 : (0 : Int) ≤ (t : Int) + 1 := by omega
                            have i8 : ¬ (t : Int) + 1 < 0 := by omega
                            have i5 : IntKind.i64.wrap (t : Int) = (t : Int) := by first | (show wrap64 _ = _; unfold wrap64; omega) | (simp [IntKind.wrap, IntKind.bits, IntKind.signed]; omega)
                            go_wp2_with fail
                            go_region_held (fun V => V.cell? ⟨b6, o6 + t, none⟩ = some (.string z) ∧ V.cell? ⟨b6, o6 + (t + 1), none⟩ = some (.string x)) (first | go_keep | exact ⟨ct0, ct⟩) (first | (go_at_call 17; refine (HCD.out _).mono ?_; rintro e w8 ⟨rfl, q8, rfl⟩))
                            go_wp2_with fail
                            go_roundw
                            case rel => exact ⟨t + 1 + 1, by omega, by go_num, ⟨_, rfl⟩⟩
                            case measure => (simp [intOf] <;> omega)
                    · have htk : t = M := by omega
                      subst htk
                      have hti : ¬ (t : Int) < (t : Int) := by omega
                      go_wp2_with fail
                      go_ret
                      exact ⟨rfl, below_trans HB5.out (below_drewN' _ _ _)⟩
      · have hki : (k : Int) < (len0 : Int) := by omega
        have h40i : ¬ (k : Int) < 40 := by omega
        by_cases hN0 : N = 0
        · subst hN0
          go_wp2_with fail
          refine (works_any _).mono ?_
          rintro e w2 ⟨rfl, hb2⟩
          have HB2 := hide (below_trans HB.out hb2)
          clear hb2
          go_wp2_with fail
          go_ret
          exact ⟨rfl, HB2.out⟩
        · have hN0i : ((N : Int) == 0) = false := by simp; omega
          have HE : Hid (bErr L (N : Int) = 0) := hide (by rw [← HNL.out]; exact even_ok (by rw [HNL.out]; omega) (by rw [HNL.out]; omega) HZ.out)
          have HLI : Hid ((L.length : Int) = (N : Int)) := hide (by rw [HNL.out])
          go_wp2_with fail
          refine (bounds_any a1 N c1 L (N : Int) _ HRL.out).mono ?_
          rintro e w2 ⟨v2, rfl, ho2, hb2⟩
          rw [HE.out]
          obtain ⟨a2, c2, rfl⟩ := ho2.shape
          have HBL := hide (bndS_len HE.out)
          obtain ⟨K, hK⟩ : ∃ K, (bndS L (N : Int)).length = K := ⟨_, rfl⟩
          have hK1 : K + 1 = N := by rw [← hK, HBL.out]; omega
          have HR2 := hide (ho2.rds (by omega) (fun t ht => by have := bndS_short HE.out t ht; omega))
          rw [hK] at HR2 ⊢
          have HRL2 := hide (HRL.out.below hb2)
          have HB2 := hide (below_trans HB.out hb2)
          have HK := hide hK
          clear hK hb2 ho2 HBL
          have hq : ((K : Int) != (N : Int) - 1) = false := by simp; omega
          have hmk := make_row_int N (N : Int) rfl (by omega)
          obtain ⟨w3, hw3⟩ : ∃ w3, w2.alloc (.cells (ivals (List.replicate N 0)).toArray 3) = w3 := ⟨_, rfl⟩
          have HX3 : Hid (RowI 3 w3 w2.heap.size (List.replicate N 0)) := hide (by rw [← hw3]; exact rowi_new _ _ _)
          have HB3 : Hid (Below w2.heap.size w2 w3) := hide (by rw [← hw3]; exact (Below.refl _ _).alloc (Nat.le_refl _) _)
          go_wp2_with fail
          clear hw3 hmk
          go_loopw [12] (fun i wr => ∃ (j : Nat) (X : List Int), j ≤ N ∧ i = .int .i64 (j : Int) ∧ Hid (RowI 3 wr w2.heap.size X) ∧ Hid (X.length = N) ∧ Hid (∀ p, p < N → X.getD p 0 ≠ 0 → ∃ i, i < j ∧ rank (bndS L (N : Int)) (L.getD i ⟨#[]⟩) = p) ∧ Hid (Below w2.heap.size w2 wr)) (fun i _ => N - (intOf i).toNat)
          case atStart =>
            refine ⟨0, List.replicate N 0, Nat.zero_le _, rfl, HX3, List.length_replicate, ?_, HB3⟩
            intro p hp h
            exact absurd (by rw [List.getD_eq_getElem?_getD, List.getElem?_replicate, if_pos hp]; rfl) h
          case round =>
            obtain ⟨j, X, hj, rfl, HX, HXL, HXP, HBj⟩ := hrel
            by_cases hjl : j < N
            · have hji : (j : Int) < (N : Int) := by omega
              have HRj := hide (HRL2.out.below HBj.out)
              have HCj := hide (HR2.out.below HBj.out)
              obtain ⟨b3, o3, rfl, _, hc3⟩ := HRj.out.2.2.2 (by omega)
              have cj := hc3 j hjl
              have HMj := hide (getS_mem (ss := L) (i := j) (by rw [HNL.out]; exact hjl))
              have HSj := hide (HZ.out _ HMj.out)
              have HLt := hide (rank_lt HN.out HE.out HLI.out HMj.out)
              have HX0 : Hid (X.getD (rank (bndS L (N : Int)) (L.getD j ⟨#[]⟩)) 0 = 0) := by
                show _ = _
                refine Decidable.byContradiction fun h => ?_
                obtain ⟨i, hi, e⟩ := HXP.out _ (by have := HLt.out; rw [HNL.out] at this; exact this) h
                have e2 := rank_inj HN.out HE.out HLI.out (getS_mem (ss := L) (i := i) (by rw [HNL.out]; omega)) HMj.out e
                rw [List.getD_eq_getElem?_getD, List.getElem?_eq_getElem (by rw [HNL.out]; omega), List.getD_eq_getElem?_getD, List.getElem?_eq_getElem (by rw [HNL.out]; omega)] at e2
                exact List.pairwise_iff_getElem.1 HN.out i j (by rw [HNL.out]; omega) (by rw [HNL.out]; omega) hi e2
              have HRG := hide (fun W (h : RdS W a2 K (bndS L (N : Int))) => range_any a2 K c2 _ (L.getD j ⟨#[]⟩) W h (by have := HSj.out; omega))
              have HNX : Hid (∀ p, p < N → (X.set (rank (bndS L (N : Int)) (L.getD j ⟨#[]⟩)) 1).getD p 0 ≠ 0 → ∃ i, i < j + 1 ∧ rank (bndS L (N : Int)) (L.getD i ⟨#[]⟩) = p) := by
                intro p hp h
                by_cases e : rank (bndS L (N : Int)) (L.getD j ⟨#[]⟩) = p
                · exact ⟨j, by omega, e⟩
                · rw [List.getD_eq_getElem?_getD, List.getElem?_set_ne e, ← List.getD_eq_getElem?_getD] at h
                  obtain ⟨i, hi, e3⟩ := HXP.out p hp h
                  exact ⟨i, by omega, e3⟩
              rw [HNL.out] at HLt
              generalize rank (bndS L (N : Int)) (L.getD j ⟨#[]⟩) = P at HLt HX0 HRG HNX
              generalize L.getD j ⟨#[]⟩ = s at cj HRG
              have hP := HLt.out
              clear hc3 HMj
              go_wp2_with fail
              refine (HRG.out _ HCj.out).mono ?_
              rintro e w4 ⟨rfl, hb4⟩
              have HX4 := hide (HX.out.below hb4)
              have x4 := HX4.out.cell P (by rw [HXL.out]; exact hP)
              have f4 := HX4.out.frozen P
              rw [HX0.out] at x4
              have HB4 := hide (HBj.out.trans (hb4.mono HBj.out.size))
              have HX5 := hide (HX4.out.store P 1)
              clear hb4 cj
              have hPi : (P : Int) < (N : Int) := by omega
              have d1 : ¬ (P : Int) < 0 := by omega
              have d2 : ¬ (N : Int) ≤ (P : Int) := by omega
              go_wp2_with fail
              go_roundw
              case rel => exact ⟨j + 1, X.set P 1, by omega, by go_num, HX5, (by show (X.set P 1).length = N; rw [List.length_set]; exact HXL.out), HNX, HB4.out.setCell (Nat.le_refl _) _⟩
              case measure => (simp [intOf] <;> omega)
            · have hjk : j = N := by omega
              subst hjk
              have hji : ¬ (j : Int) < (j : Int) := by omega
              by_cases hn1 : n < 1
              · go_wp2_with fail
                go_ret
                exact ⟨rfl, HB2.out.trans (HBj.out.mono HB2.out.size)⟩
              · by_cases hn2 : 65535 < n
                · go_wp2_with fail
                  go_ret
                  exact ⟨rfl, HB2.out.trans (HBj.out.mono HB2.out.size)⟩
                · have HE2 : Hid (bErr L n = 0) := hide (even_ok2 (by rw [HNL.out]; omega) HZ.out ⟨by omega, by omega⟩)
                  obtain ⟨M, rfl⟩ : ∃ M : Nat, n = (M : Int) + 1 := ⟨n.toNat - 1, by omega⟩
                  have HRj := hide (HRL2.out.below HBj.out)
                  have HBw := hide (HB2.out.trans (HBj.out.mono HB2.out.size))
                  rename World => V3
                  clear HX HXP HXL HR2
                  go_wp2_with fail
                  refine (bounds_any a1 j c1 L ((M : Int) + 1) _ HRj.out).mono ?_
                  rintro e w5 ⟨v5, rfl, ho5, hb5⟩
                  rw [HE2.out]
                  obtain ⟨a5, c5, rfl⟩ := ho5.shape
                  have hM : (bndS L ((M : Int) + 1)).length = M := by rw [bndS_len HE2.out]; omega
                  have HR5 := hide (ho5.rds (by omega) (fun t ht => by have := bndS_short HE2.out t ht; omega))
                  rw [hM] at HR5 ⊢
                  have HM := hide hM
                  have HRL5 := hide (HRj.out.below hb5)
                  have HB5 := hide (below_trans HBw.out hb5)
                  have HMem := hide (bndS_mem HE2.out (by rw [HNL.out]; omega))
                  have HRi := hide (bndS_rises HE2.out)
                  have HSh := hide (bndS_short HE2.out)
                  clear ho5 hb5 hM
                  generalize bndS L ((M : Int) + 1) = C at HR5 HM HMem HRi HSh
                  have hq2 : ((M : Int) != (M : Int)) = false := by simp
                  go_wp2_with fail
                  go_loopw [16] (fun i wr => ∃ (t : Nat), t ≤ M ∧ i = .int .i64 (t : Int) ∧ Hid (∃ q, wr = w5.drewN q)) (fun i _ => M - (intOf i).toNat)
                  case atStart => exact ⟨0, Nat.zero_le _, rfl, 0, rfl⟩
                  case round =>
                    obtain ⟨t, ht, rfl, q, rfl⟩ := hrel
                    by_cases htl : t < M
                    · have hti : (t : Int) < (M : Int) := by omega
                      obtain ⟨b6, o6, rfl, _, hc6⟩ := HR5.out.2.2.2 (by omega)
                      have ct := hc6 t htl
                      have HMt := hide (among_mem (HMem.out _ (getS_mem (ss := C) (i := t) (by rw [HM.out]; exact htl))))
                      have HC6 := hide hc6
                      have HTX : Hid (C.getD t ⟨#[]⟩ = C.getD t ⟨#[]⟩) := rfl
                      generalize hx : C.getD t ⟨#[]⟩ = x at ct HMt
                      have HX := hide hx
                      clear hx HTX hc6
                      go_wp2_with fail
                      go_loopw [17, 18] (fun b i wr => ∃ (r : Nat) (B : Bool), r ≤ j ∧ i = .int .i64 (r : Int) ∧ b = .bool B ∧ Hid (B = among (L.take r) x) ∧ Hid (∃ q, wr = w5.drewN q)) (fun b i _ => j - (intOf i).toNat)
                      case atStart => exact ⟨0, false, Nat.zero_le _, rfl, rfl, rfl, q, rfl⟩
                      case round =>
                        obtain ⟨r, B, hr, rfl, rfl, HBB, q2, rfl⟩ := hrel
                        by_cases hrl : r < j
                        · have hri : (r : Int) < (j : Int) := by omega
                          obtain ⟨b7, o7, rfl, _, hc7⟩ := HRL5.out.2.2.2 (by omega)
                          have cr := hc7 r hrl
                          have HST := hide (among_step L x r (by rw [HNL.out]; exact hrl))
                          clear hc7
                          generalize L.getD r ⟨#[]⟩ = y at cr HST
                          have hse := str_eq y x
                          cases B with
                          | true =>
                            go_wp2_with fail
                            go_quiet (fail)
                            go_wp2_with fail
                            go_roundw
                            case rel =>
                              refine ⟨r + 1, true, by omega, by go_num, rfl, ?_, ⟨_, rfl⟩⟩
                              have h := HBB.out
                              rw [HST.out, ← h]; rfl
                            case measure => (simp [intOf] <;> omega)
                          | false =>
                            generalize hD : decide (y = x) = D at hse HST
                            clear hD
                            go_wp2_with fail
                            go_quiet (fail)
                            go_wp2_with fail
                            go_roundw
                            case rel =>
                              refine ⟨r + 1, D, by omega, by go_num, rfl, ?_, ⟨_, rfl⟩⟩
                              have h := HBB.out
                              rw [HST.out, ← h]; rfl
                            case measure => (simp [intOf] <;> omega)
                        · have hrk : r = j := by omega
                          subst hrk
                          have hri : ¬ (r : Int) < (r : Int) := by omega
                          have hB : B = true := by
                            have h := HBB.out
                            rw [List.take_of_length_le (by rw [HNL.out]; exact Nat.le_refl _), HMt.out] at h
                            exact h
                          subst hB
                          cases t with
                          | zero =>
                            go_wp2_with fail
                            go_quiet (fail)
                            go_wp2_with fail
                            go_roundw
                            case rel => exact ⟨1, by omega, by go_num, ⟨_, rfl⟩⟩
                            case measure => (simp [intOf] <;> omega)
                          | succ t =>
                            have ct0 := HC6.out t (by omega)
                            have HRt := hide (HRi.out t (by rw [HM.out]; omega))
                            have HS1 := hide (HSh.out _ (getS_mem (ss := C) (i := t) (by rw [HM.out]; omega)))
                            have HS2 := hide (HSh.out _ (getS_mem (ss := C) (i := t + 1) (by rw [HM.out]; omega)))
                            rw [HX.out] at HRt HS2
                            generalize C.getD t ⟨#[]⟩ = z at ct0 HRt HS1
                            have HCD : Hid (∀ W, Calls Try.prog 17 #[.string z, .string x] W fun e w' => e = .returned (.int .i64 (cmpT z x)) ∧ ∃ q, w' = W.drewN q) := fun W => compareD z x W (by have := HS1.out; omega) (by have := HS2.out; omega)
                            have hcz := HRt.out
                            generalize cmpT z x = D at HCD hcz
                            have hd : decide (0 < D) = false := decide_eq_false (by omega)
                            have hp : decide ((0 : Int) < (t : Int) + 1) = true := decide_eq_true (by omega)
                            have i1 : (t : Int) + 1 < (M : Int) := by omega
                            have i2 : (t : Int) < (M : Int) := by omega
                            have i3 : (t : Int) + 1 - 1 = (t : Int) := by omega
                            have i4 : ((t : Int) + 1).toNat = t + 1 := by omega
                            have i6 : (0 : Int) < (t : Int) + 1 := by omega
                            have i7 : (0 : Int) ≤ (t : Int) + 1 := by omega
                            have i8 : ¬ (t : Int) + 1 < 0 := by omega
                            have i5 : IntKind.i64.wrap (t : Int) = (t : Int) := by first | (show wrap64 _ = _; unfold wrap64; omega) | (simp [IntKind.wrap, IntKind.bits, IntKind.signed]; omega)
                            go_wp2_with fail
                            go_region_held (fun V => V.cell? ⟨b6, o6 + t, none⟩ = some (.string z) ∧ V.cell? ⟨b6, o6 + (t + 1), none⟩ = some (.string x)) (first | go_keep | exact ⟨ct0, ct⟩) (first | (go_at_call 17; refine (HCD.out _).mono ?_; rintro e w8 ⟨rfl, q8, rfl⟩))
                            go_wp2_with fail
                            go_roundw
                            case rel => exact ⟨t + 1 + 1, by omega, by go_num, ⟨_, rfl⟩⟩
                            case measure => (simp [intOf] <;> omega)
                    · have htk : t = M := by omega
                      subst htk
                      have hti : ¬ (t : Int) < (t : Int) := by omega
                      go_wp2_with fail
                      go_ret
                      exact ⟨rfl, below_trans HB5.out (below_drewN' _ _ _)⟩
theorem walk (a0 : Option Addr) (len0 cap0 : Nat) (ss0 : List ByteArray) (n : Int) (w : World) (r0 : RdS w a0 len0 ss0) (l0 : len0 ≤ cap0) (m0 : cap0 ≤ 8796093021952) (z0 : a0 = none → len0 = 0 ∧ cap0 = 0) (y0 : ∀ s ∈ ss0, s.size ≤ 140737488351232) (w1 : (Lit.int .i64 n).wf = true) :
    Calls Try.prog 5 #[.slice a0 len0 cap0, .int .i64 n] w fun e w' => e = .returned (.bool true) ∧ Below w.heap.size w w' := walk0 a0 len0 cap0 ss0 n w r0
end Go.Proofs.Ytdpihfmbkimgpaa.partsEven
