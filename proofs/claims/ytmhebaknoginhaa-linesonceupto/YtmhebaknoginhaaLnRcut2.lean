/-
  The document's Cut, walked.
-/
import Derived.Test.YtmhebaknoginhaaLnRcut
import Derived.Laws.Slices
import Derived.Deep.CutRange
namespace Go.Proofs.Ytmhebaknoginhaa.Ln
open Go.ChangeShapes Go.WideShapes Go.ChangeAt Go.RowKit
open Go.Proofs.Ytmhebaknoginhaa.Base Go.Proofs.Ytmhebaknoginhaa.Rf
set_option linter.unusedVariables false
theorem elemN : Try.prog.underlying 44 = some (.slice (Try.prog.elem 44)) := by kernel_rfl
theorem sizeN (W : World) : (sizeOf (Try.prog.elem 44)).run Try.prog W = .ok 1 W := by
  have h : (Try.prog.info? (Try.prog.elem 44)).map (·.size) = some 1 := by kernel_rfl
  cases hq : Try.prog.info? (Try.prog.elem 44) with
  | none => simp [hq] at h
  | some i => simp [hq] at h; simp [sizeOf, typeInfo, hq, h]
theorem slice_to (ua : Option Addr) (len cap n : Nat) (h : n ≤ cap) (W : World) : (Instr.sliceAt 44 (.slice ua len cap) none (some (.int .i64 (n : Int))) none).run Try.prog W = .ok (.slice ua n cap) W := by
  rw [run_sliceAt_slice (h := elemN), run_slice_h (ht := elemN) (h0 := by omega) (h2 := by omega), sizeN]
  simp only [Result.andThen, sliced, Int.toNat_natCast, Nat.zero_mul]
  by_cases hc : cap = 0
  · rw [if_pos hc]; rfl
  · rw [if_neg hc]
    cases ua <;> simp [Addr.add]
/-- Where 'l[e:]' begins. -/
def laE (ua : Option Addr) (cap e : Nat) : Option Addr := if cap = e then ua else ua.map (·.add e)
theorem slice_from (ua : Option Addr) (len cap e : Nat) (h : e ≤ len) (hc : len ≤ cap) (W : World) : (Instr.sliceAt 44 (.slice ua len cap) (some (.int .i64 (e : Int))) none none).run Try.prog W = .ok (.slice (laE ua cap e) (len - e) (cap - e)) W := by
  rw [run_sliceAt_slice (h := elemN), run_slice_l (ht := elemN) (h0 := by omega) (h1 := by omega), sizeN]
  simp only [Result.andThen, sliced, Int.toNat_natCast, Nat.mul_one]
  rfl
theorem RdF.cut {w : World} {a : Option Addr} {z n : Nat} {f : Nat → List Value} (h : RdF w a z n f) (m : Nat) (hm : m ≤ n) : RdF w a z m f := by
  intro hp
  obtain ⟨b, off, rfl, hlt, hc⟩ := h (by omega)
  exact ⟨b, off, rfl, hlt, fun k j u hk hu hj => hc k j u (by omega) hu hj⟩
theorem RdF.from1 {w : World} {a : Option Addr} {n cap e : Nat} {f : Nat → List Value} (h : RdF w a 1 n f) (he : e ≤ n) (hn : n ≤ cap) : RdF w (laE a cap e) 1 (n - e) (fun k => f (e + k)) := by
  intro hp
  obtain ⟨b, off, rfl, hlt, hc⟩ := h (by omega)
  refine ⟨b, off + e, ?_, hlt, fun k j u hk hu hj => ?_⟩
  · unfold laE
    rw [if_neg (by omega)]
    simp [Addr.add]
  · have := hc (e + k) j u (by omega) hu hj
    rw [Nat.mul_one] at this ⊢
    rw [show off + e + (k + j) = off + (e + k + j) by omega]
    exact this
theorem laE_spot {ua : Option Addr} {cap e : Nat} (h : ∀ ad, ua = some ad → ad.off = 0 ∧ ad.spot = none) (hu : ∀ ad, ua = some ad → True) : ∀ ad, laE ua cap e = some ad → ad.spot = none := by
  intro ad hd
  unfold laE at hd
  by_cases hc : cap = e
  · rw [if_pos hc] at hd; exact (h ad hd).2
  · rw [if_neg hc] at hd
    cases ua with
    | none => simp at hd
    | some x =>
      simp at hd
      subst hd
      have := (h x rfl).2
      cases e <;> simp [Addr.add, this]
theorem laE_none {ua : Option Addr} {len cap e : Nat} (h : ua = none → len = 0 ∧ cap = 0) : laE ua cap e = none → len - e = 0 ∧ cap - e = 0 := by
  intro hd
  unfold laE at hd
  by_cases hc : cap = e
  · rw [if_pos hc] at hd; have := h hd; omega
  · rw [if_neg hc] at hd
    cases ua with
    | none => have := h rfl; omega
    | some x => simp at hd
def base_le (B : Nat) (u : Value) : Prop := ∀ i, u.ownBlock = some i → B ≤ i
set_option maxHeartbeats 8000000 in
set_option maxRecDepth 100000 in
theorem refCut_ok (n : Nat) (a : Option Addr) (cap : Nat) (xs : List Int) (w : World) (hn : n ≤ 4194304) (hr : RdI w a xs.length xs) (hl : xs.length ≤ 255) :
    Calls Try.prog 20 #[.int .i64 (n : Int), .slice a xs.length cap] w fun e w' => ∃ v, e = .returned (.tuple #[v, .int .i64 0]) ∧ OwnF w' w.heap.size 33 2 v (xs.length + 1) (pf n xs) ∧ Below w.heap.size w w' := by
  obtain ⟨len, hlen⟩ : ∃ len, xs.length = len := ⟨_, rfl⟩
  rw [hlen] at hl hr ⊢
  have HLEN := hide hlen
  have HR := hide hr
  clear hlen hr
  have hni : (n : Int) ≤ 4194304 := by omega
  have hnn : ¬ (n : Int) < 0 := by omega
  have hli : (len : Int) ≤ 255 := by omega
  have hn1 : (n : Int) + 1 ≠ 0 := by omega
  go_enter Try.func20, Try.ntmps20
  go_wp2_with fail
  go_loopw [6, 7] (fun at_ i wr => ∃ (u : Value) (k : Nat) (l : List Int), u = at_ ∧ k ≤ len ∧ i = .int .i64 (k : Int) ∧ Hid (l.length = k) ∧ Hid (l.Perm ((xs.take k).map (md n))) ∧ Hid (l.Pairwise (· ≤ ·)) ∧ Hid (OwnF wr w.heap.size 3 1 u k (nf l)) ∧ Hid (Below w.heap.size w wr)) (fun _ i _ => len - (intOf i).toNat)
  case atStart => exact ⟨_, 0, [], rfl, Nat.zero_le _, rfl, rfl, (by simp [Hid]), (by simp [Hid]), ownf_none _ _ _ _ _, Below.refl _ _⟩
  case round =>
    obtain ⟨u, k, l, rfl, hk, rfl, HLL, HPM, HST, HO, HB⟩ := hrel
    by_cases hlt : k < len
    · have hki : (k : Int) < (len : Int) := by omega
      have HRW := hide (HR.out.below HB.out)
      obtain ⟨b, off, rfl, hbl, hc⟩ := HRW.out.2.2 (by omega)
      have c1 := hc k hlt
      have HMD := hide (md_tmod n (xs.getD k 0) _ rfl)
      generalize hx : xs.getD k 0 = x at c1 HMD
      have HX := hide hx
      obtain ⟨r, hr⟩ : ∃ r, Int.tmod x ((n : Int) + 1) = r := ⟨_, rfl⟩
      rw [hr] at HMD
      obtain ⟨r1, r2, HM3, HM4⟩ := HMD.out
      have hwr : wrap64 r = r := by unfold wrap64; omega
      have hwr2 : IntKind.i64.wrap r = r := by rw [IntKind.wrap_i64]; omega
      obtain ⟨m, hm⟩ : ∃ m, md n x = m := ⟨_, rfl⟩
      rw [hm] at HM3 HM4
      have HM := hide hm
      have hmb := md_bd n x
      rw [hm] at hmb
      obtain ⟨hm0, hmn⟩ := hmb
      obtain ⟨ua, uc, eu, huc, hunil, hus⟩ := HO.out.shape
      subst eu
      have HUN := hide hunil
      have HUS := hide hus
      clear hc hx hm hunil hus
      go_upto_if 37 with fail
      go_cut [8] from 23 to 71 (fun s8 wx => .int .i64 m = s8 ∧ wr = wx)
      case first =>
        by_cases hneg : r < 0
        · have hs := HM3 hneg
          have hs1 : r + (n : Int) + 1 = m := by omega
          clear HM3 HM4
          go_wp2_with fail
          go_meet
          case rel => exact ⟨rfl, by first | rfl | trivial⟩
        · have hs := HM4 hneg
          clear HM3 HM4
          go_wp2_with fail
          go_meet
          case rel => exact ⟨rfl, by first | rfl | trivial⟩
      case rest =>
        obtain ⟨rfl, rfl⟩ := hcut
        clear HM3 HM4 c1 hr hwr hwr2 r1 r2
        go_wp2_with fail
        go_loopw [9] (fun s9 wr2 => ∃ j : Nat, j ≤ k ∧ .int .i64 (j : Int) = s9 ∧ Hid (∀ i, j ≤ i → i < k → m < l.getD i 0) ∧ wr = wr2) (fun s9 _ => (intOf s9).toNat)
        case atStart => exact ⟨k, Nat.le_refl _, rfl, (fun i h1 h2 => by omega), rfl⟩
        case round =>
          obtain ⟨j, hj, rfl, HG, rfl⟩ := hrel
          go_upto_region 13 with fail
          go_cut [54] from 44 to 56 (fun s54 wx => ∃ t : Bool, .bool t = s54 ∧ Hid (t = true → 0 < j ∧ m < l.getD (j - 1) 0) ∧ Hid (t = false → j = 0 ∨ l.getD (j - 1) 0 ≤ m) ∧ wr = wx)
          case first =>
            by_cases hj0 : j = 0
            · subst hj0
              go_wp2_with fail
              go_meet
              case rel => exact ⟨false, rfl, (fun h => nomatch h), (fun _ => .inl (by first | rfl | trivial)), by first | rfl | trivial⟩
            · obtain ⟨q, rfl⟩ : ∃ q, j = q + 1 := ⟨j - 1, by omega⟩
              obtain ⟨g, c, eg, _, _, _⟩ := HO.out.has (by omega)
              simp only [Value.slice.injEq] at eg
              obtain ⟨rfl, _, rfl⟩ := eg
              have c2 : wr.cell? ⟨g, q, none⟩ = some (.int .i64 (l.getD q 0)) := by
                have := HO.out.cellAt (nf_len l) q 0 (.int .i64 (l.getD q 0)) (by omega) (by omega) rfl
                rwa [Nat.mul_one, Nat.add_zero] at this
              have hq1 : ((q + 1 : Nat) : Int) - 1 = (q : Int) := by omega
              have hq2 : (q : Int) + 1 - 1 = (q : Int) := by omega
              have hq3 : (0 : Int) < (q : Int) + 1 := by omega
              have hqk : (q : Int) < (k : Int) := by omega
              obtain ⟨y, hy⟩ : ∃ y, l.getD q 0 = y := ⟨_, rfl⟩
              rw [hy] at c2
              have HY := hide hy
              clear hy
              by_cases hgt : m < y
              · go_wp2_with fail
                go_meet
                case rel => exact ⟨true, rfl, (fun _ => ⟨by omega, by rw [show q + 1 - 1 = q by omega, HY.out]; exact hgt⟩), (fun h => nomatch h), by first | rfl | trivial⟩
              · go_wp2_with fail
                go_meet
                case rel => exact ⟨false, rfl, (fun h => nomatch h), (fun _ => .inr (by rw [show q + 1 - 1 = q by omega, HY.out]; omega)), by first | rfl | trivial⟩
          case rest =>
            obtain ⟨t, rfl, HT1, HT2, rfl⟩ := hcut
            cases t with
            | true =>
              obtain ⟨hj0, hgt⟩ := HT1.out rfl
              obtain ⟨q, rfl⟩ : ∃ q, j = q + 1 := ⟨j - 1, by omega⟩
              have HGT := hide hgt
              have hq2 : (q : Int) + 1 - 1 = (q : Int) := by omega
              clear hgt
              go_wp2_with fail
              go_roundw
              case rel =>
                refine ⟨q, by omega, rfl, fun i h1 h2 => ?_, by first | rfl | trivial⟩
                by_cases e : i = q
                · rw [e]; exact HGT.out
                · exact HG.out i (by omega) h2
              case measure => first | (simp [intOf]; done) | (simp [intOf]; omega)
            | false =>
              have HEX := hide (HT2.out rfl)
              have hs1 := slice_to ua k uc j (by omega)
              have hs2 := slice_from ua k uc j hj huc
              have HLA := hide (laE_none (e := j) HUN.out)
              have HLS := hide (laE_spot (ua := ua) (cap := uc) (e := j) (fun ad e => ⟨(HUS.out ad e).1, (HUS.out ad e).2.1⟩) (fun _ _ => trivial))
              have HRD := hide (HO.out.rdf (nf_len l))
              have HUB : Hid (∀ i, (Value.slice ua k uc).ownBlock = some i → i < wr.heap.size) := fun i hi => (HO.out.lt i hi).2
              have HRF := hide (fun (V : World) (h : RdF V ua 1 k (nf l)) => RdF.from1 (cap := uc) (e := j) h hj huc)
              generalize laE ua uc j = la at hs2 HLA HLS HRF
              obtain ⟨L, hL⟩ : ∃ L, l.take j ++ [m] ++ l.drop j = L := ⟨_, rfl⟩
              have HIG : Hid (∀ i, L.getD i 0 = if i < j then l.getD i 0 else if i = j then m else l.getD (i - 1) 0) := fun i => by rw [← hL]; exact ins_getD l j m (by rw [HLL.out]; exact hj) i
              have HLK : Hid (L.length = k + 1) := by show L.length = _; rw [← hL, List.length_append, List.length_append, List.length_take, List.length_drop, HLL.out]; simp; omega
              have HLP : Hid (L.Perm ((xs.take (k + 1)).map (md n))) := by
                have h1 := ins_perm l j m (by rw [HLL.out]; exact hj)
                rw [hL] at h1
                refine h1.trans ?_
                have h2 : xs.take (k + 1) = xs.take k ++ [x] := by
                  rw [List.take_succ_eq_append_getElem (by rw [HLEN.out]; exact hlt), ← HX.out, List.getD_eq_getElem?_getD, List.getElem?_eq_getElem (by rw [HLEN.out]; exact hlt)]
                  rfl
                rw [h2, List.map_append, List.map_singleton, HM.out]
                exact (HPM.out.cons m).trans (List.perm_append_singleton m _).symm
              have HLW : Hid (L.Pairwise (· ≤ ·)) := by
                show L.Pairwise _
                rw [← hL]
                exact ins_sorted l j m HST.out (by rw [HLL.out]; exact hj) HEX.out (fun i h1 h2 => HG.out i h1 (by rw [← HLL.out]; exact h2))
              clear hL
              have HNJ : Hid (nf L j = [.int .i64 m]) := by show nf L j = _; unfold nf; rw [HIG.out j, if_neg (by omega), if_pos rfl]
              have HF1 : Hid (∀ i, i < 0 + j → thenF (nf L) 0 (nf l) i = nf L i) := fun i hi => by unfold thenF; rw [if_neg (by omega), Nat.sub_zero]; unfold nf; rw [HIG.out i, if_pos (by omega)]
              have HF3 : Hid (∀ i, i < j + 1 + (k - j) → thenF (nf L) (j + 1) (fun q => nf l (j + q)) i = nf L i) := fun i hi => by
                unfold thenF
                by_cases e : i < j + 1
                · rw [if_pos e]
                · rw [if_neg e]
                  show [Value.int .i64 (l.getD (j + (i - (j + 1))) 0)] = [Value.int .i64 (L.getD i 0)]
                  rw [HIG.out i, if_neg (by omega), if_neg (by omega), show j + (i - (j + 1)) = i - 1 by omega]
              have HAL : Hid (∀ W : World, Below W.heap.size W (W.alloc (.cells #[.int .i64 m] 3))) := fun W => (Below.refl _ _).alloc (Nat.le_refl _) _
              have HNW : Hid (∀ (W : World) (i : Nat) (u : Value), (nf L j)[i]? = some u → (W.alloc (.cells #[.int .i64 m] 3)).cell? ((⟨W.heap.size, 0, none⟩ : Addr).add i) = some u) := fun W i u h => by rw [HNJ.out] at h; exact news W _ _ i u h
              go_upto_region 17 with (at_builtin; refine joinF wr rfl _ _ rfl Try.underlying44 infoN rfl (by omega) (by omega) wr.heap.size (.slice none 0 0) 0 (nf L) (nf l) rfl (ownf_none _ _ _ _ _) ua j uc rfl (fun e => by have := HUN.out e; omega) (fun ad e => (HUS.out ad e).2.1) (RdF.cut HRD.out j hj) (nf_len l) (fun i _ => nf_one l i) (by omega) (Nat.le_refl _) ?_; intro v1 w1 ho1 hg1; have HO1 := hide (ho1.congr HF1.out); have HG1 := hide hg1; clear ho1 hg1)
              rw [Nat.zero_add] at HO1
              obtain ⟨a1, c1, e1, _, _, _⟩ := HO1.out.shape
              subst e1
              have HA1 := hide (HO.out.kept HG1.out (fun i hi e => nomatch e))
              have HB1 : Hid (Below wr.heap.size wr w1) := ⟨HG1.out.os, HG1.out.tape, HG1.out.output, HG1.out.size, fun i hi => HG1.out.block i hi (by simp [Value.ownBlock])⟩
              go_upto_region 18 with (at_builtin; refine pushF _ rfl _ _ rfl Try.underlying44 infoN rfl (by omega) (by omega) wr.heap.size (.slice a1 j c1) j (nf L) rfl rfl (HO1.out.below (HAL.out w1)) ⟨w1.heap.size, 0, none⟩ 1 rfl (HNW.out w1) (nf_one L j) (by omega) (by have := HB1.out.size; simp; omega) ?_; intro g2 c2 w2 ho2 hg2; have HO2 := hide ho2; have HG2 := hide hg2; clear ho2 hg2)
              have HB2 : Hid (Below wr.heap.size wr w2) := grown_own (below_trans HB1.out (HAL.out w1)) (HO1.out.below (HAL.out w1)) (Nat.le_refl _) HG2.out
              have HA2 := hide ((HA1.out.below (HAL.out w1)).kept HG2.out (fun i hi e => by have q1 := HUB.out i hi; have q2 := (HO1.out.lt i e).1; omega))
              go_upto_region 19 with (at_builtin; refine joinF w2 rfl _ _ rfl Try.underlying44 infoN rfl (by omega) (by omega) wr.heap.size (.slice (some ⟨g2, 0, none⟩) (j + 1) c2) (j + 1) (nf L) (fun q => nf l (j + q)) rfl HO2.out la (k - j) (uc - j) rfl HLA.out HLS.out (HRF.out w2 (HA2.out.rdf (nf_len l))) (fun _ => rfl) (fun i _ => nf_one l (j + i)) (by omega) HB2.out.size ?_; intro v3 w3 ho3 hg3; have HO3 := hide (ho3.congr HF3.out); have HG3 := hide hg3; clear ho3 hg3)
              have HB3 : Hid (Below wr.heap.size wr w3) := grown_own HB2.out HO2.out (Nat.le_refl _) HG3.out
              rw [show j + 1 + (k - j) = k + 1 by omega] at HO3
              obtain ⟨a3, c3, e3, _, _, _⟩ := HO3.out.shape
              subst e3
              go_wp2_with fail
              go_roundw
              case rel => exact ⟨_, k + 1, L, rfl, hlt, by go_num, HLK.out, HLP.out, HLW.out, HO3.out.mono HB.out.size, below_trans HB.out HB3.out⟩
              case measure => simp [intOf]; omega
    · obtain rfl : len = k := by omega
      have HLC : Hid (l = cutS n xs) := cutS_uniq n xs l (by have h := HPM.out; rw [List.take_of_length_le (by rw [HLEN.out]; exact Nat.le_refl _)] at h; exact h) HST.out
      have HPE : Hid (∀ i, i < len → l.getD i 0 = (pe n xs i : Nat)) := fun i hi => by
        rw [(pe_int n xs i (by rw [HLEN.out]; omega)).1, HLC.out]
        unfold cutE
        rw [List.getD_eq_getElem?_getD, List.getD_eq_getElem?_getD, List.getElem?_append_left (by rw [cutS_len, HLEN.out]; exact hi)]
      obtain ⟨ua, uc, eu, huc, _, _⟩ := HO.out.shape
      subst eu
      obtain ⟨w5, rfl⟩ : ∃ w5, w5 = wr := ⟨_, rfl⟩
      go_wp2_with fail
      go_loopw [11, 12, 13] (fun v fr i wr => ∃ (u : Value) (k : Nat), u = v ∧ k ≤ len ∧ i = .int .i64 (k : Int) ∧ fr = .int .i64 (pb n xs k : Nat) ∧ Hid (OwnF wr w5.heap.size 33 2 u k (pf n xs)) ∧ Hid (Below w5.heap.size w5 wr)) (fun _ _ i _ => len - (intOf i).toNat)
      case atStart => exact ⟨_, 0, rfl, Nat.zero_le _, rfl, rfl, ownf_none _ _ _ _ _, Below.refl _ _⟩
      case round =>
        obtain ⟨u, k, rfl, hk, rfl, rfl, HOP, HBP⟩ := hrel
        obtain ⟨p, hp⟩ : ∃ p, pb n xs k = p := ⟨_, rfl⟩
        by_cases hlt : k < len
        · have hki : (k : Int) < (len : Int) := by omega
          obtain ⟨g, c, eg, _, _, _⟩ := HO.out.has (by omega)
          simp only [Value.slice.injEq] at eg
          obtain ⟨rfl, _, rfl⟩ := eg
          have HCQ : Hid (∀ V, Below wr.heap.size wr V → V.cell? ⟨g, k, none⟩ = some (.int .i64 (pe n xs k : Nat))) := fun V hV => by
            have := (HO.out.below (below_trans HBP.out hV)).cellAt (nf_len l) k 0 (.int .i64 (l.getD k 0)) (by omega) (by omega) rfl
            rw [Nat.mul_one, Nat.add_zero, HPE.out k hlt] at this
            exact this
          have HPB := hide (pb_succ n xs k)
          have HF : Hid (pf n xs k = [.int .i64 (pb n xs k : Nat), .int .i64 (pe n xs k : Nat)]) := rfl
          obtain ⟨q, hq⟩ : ∃ q, pe n xs k = q := ⟨_, rfl⟩
          rw [hp, hq] at HF
          rw [hq] at HCQ HPB
          rw [hp]
          have c1 := HCQ.out wr (Below.refl _ _)
          clear hp hq
          obtain ⟨wa, hwa⟩ : ∃ wa, wr.alloc (.cells #[.int .i64 (p : Int), .int .i64 (q : Int)] 33) = wa := ⟨_, rfl⟩
          have HW : Hid (∀ (j : Nat) (u : Value), (pf n xs k)[j]? = some u → wa.cell? ((⟨wr.heap.size, 0, none⟩ : Addr).add j) = some u) := fun j u h => by rw [HF.out] at h; rw [← hwa]; exact news wr _ _ j u h
          have HBA2 : Hid (Below wr.heap.size wr wa) := by rw [← hwa]; exact (Below.refl _ _).alloc (Nat.le_refl _) _
          have H1 : Hid (∀ u ∈ pf n xs k, u.oneCell' = true) := by rw [HF.out]; simp [Hid, Value.oneCell']
          have HGL : Hid (g < w5.heap.size) := (HO.out.lt g rfl).2
          have HEQ : Hid (∀ V, wa.grownBy V u.ownBlock → V.cell? ⟨g, k, none⟩ = some (.int .i64 (q : Int))) := fun V hV => by
            have h1 := HCQ.out wa HBA2.out
            exact hV.cell h1 (fun e => by have h2 : base_le w5.heap.size u := fun i hi => (HOP.out.lt i hi).1; have := h2 g e.symm; have := HGL.out; omega)
          go_wp2_with (at_builtin; refine pushF wa rfl _ _ rfl Try.underlying46 infoP rfl (by omega) (by omega) w5.heap.size u k (pf n xs) rfl rfl (HOP.out.below HBA2.out) ⟨wr.heap.size, 0, none⟩ 1 rfl HW.out H1.out (by omega) (by have := HBP.out.size; have := HBA2.out.size; omega) ?_; intro g' c' w' ho' hg'; have HO2 := hide ho'; have HB2 := hide (grown_own (below_trans HBP.out HBA2.out) (HOP.out.below HBA2.out) (Nat.le_refl _) hg'); have c2 := HEQ.out w' hg'; clear ho' hg')
          go_roundw
          case rel => exact ⟨_, k + 1, rfl, hlt, by go_num, by rw [HPB.out], HO2.out, HB2.out⟩
          case measure => simp [intOf]; omega
        · obtain rfl : k = len := by omega
          have HF : Hid (pf n xs k = [.int .i64 (p : Int), .int .i64 (n : Int)]) := by show pf n xs k = _; unfold pf; rw [hp, ← HLEN.out, pe_last]
          rw [hp]
          clear hp
          obtain ⟨wa, hwa⟩ : ∃ wa, wr.alloc (.cells #[.int .i64 (p : Int), .int .i64 (n : Int)] 33) = wa := ⟨_, rfl⟩
          have HW : Hid (∀ (j : Nat) (u : Value), (pf n xs k)[j]? = some u → wa.cell? ((⟨wr.heap.size, 0, none⟩ : Addr).add j) = some u) := fun j u h => by rw [HF.out] at h; rw [← hwa]; exact news wr _ _ j u h
          have HBA2 : Hid (Below wr.heap.size wr wa) := by rw [← hwa]; exact (Below.refl _ _).alloc (Nat.le_refl _) _
          have H1 : Hid (∀ u ∈ pf n xs k, u.oneCell' = true) := by rw [HF.out]; simp [Hid, Value.oneCell']
          go_wp2_with (at_builtin; refine pushF wa rfl _ _ rfl Try.underlying46 infoP rfl (by omega) (by omega) w5.heap.size u k (pf n xs) rfl rfl (HOP.out.below HBA2.out) ⟨wr.heap.size, 0, none⟩ 1 rfl HW.out H1.out (by omega) (by have := HBP.out.size; have := HBA2.out.size; omega) ?_; intro g' c' w' ho' hg'; have HO2 := hide ho'; have HB2 := hide (grown_own (below_trans HBP.out HBA2.out) (HOP.out.below HBA2.out) (Nat.le_refl _) hg'); clear ho' hg')
          go_ret2
          exact ⟨_, rfl, HO2.out.mono HB.out.size, below_trans HB.out HB2.out⟩
end Go.Proofs.Ytmhebaknoginhaa.Ln
