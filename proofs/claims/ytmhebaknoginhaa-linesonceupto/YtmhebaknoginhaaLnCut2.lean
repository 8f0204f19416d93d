/-
  Cut itself.
-/
import Derived.Test.YtmhebaknoginhaaLnCut
import Derived.Test.YtmhebaknoginhaaRowF2
import Derived.Test.YtmhebaknoginhaaLnRef
namespace Go.Proofs.Ytmhebaknoginhaa.Ln
open Go.ChangeShapes Go.WideShapes Go.ChangeAt Go.RowKit
open Go.Proofs.Ytmhebaknoginhaa.Base Go.Proofs.Ytmhebaknoginhaa.Rf
set_option linter.unusedVariables false
theorem infoP : (Try.prog.info? 33).map (fun i => (i.zero, i.size, i.bytes)) = some (some (.agg #[.int .i64 0, .int .i64 0]), 2, 16) := by kernel_rfl
theorem infoN : (Try.prog.info? 3).map (fun i => (i.zero, i.size, i.bytes)) = some (some (.int .i64 0), 1, 8) := by kernel_rfl
/-- The end of a piece as an element. -/
def ef (n : Nat) (xs : List Int) (k : Nat) : List Value := [.int .i64 (pe n xs k : Nat)]
theorem rowi_ownf {w : World} {g base n : Nat} {xs : List Int} (h : RowI 3 w g (cutS n xs)) (hb : base ≤ g) (hl : xs.length ≤ 255) : OwnF w base 3 1 (.slice (some ⟨g, 0, none⟩) xs.length xs.length) xs.length (ef n xs) := by
  have hlen := cutS_len n xs
  refine ⟨fcells_len (f := ef n xs) (z := 1) (fun _ => rfl) _, .inr ⟨g, xs.length, _, rfl, hb, h, Nat.le_refl _, by unfold maxLen; omega, by simp [ivals, hlen], ?_⟩⟩
  rw [Nat.mul_one, List.take_of_length_le (by simp [ivals, hlen])]
  apply List.ext_getElem?
  intro i
  by_cases hi : i < xs.length
  · have e := fcells_get (f := ef n xs) (z := 1) (fun _ => rfl) xs.length i 0 hi (by omega)
    rw [Nat.mul_one, Nat.add_zero] at e
    have e2 := (pe_int n xs i (by omega)).1
    show (ivals (cutS n xs))[i]? = _
    rw [e, getD_ivals _ _ (by omega)]
    unfold ef
    show some (Value.int .i64 _) = some (Value.int .i64 _)
    congr 2
    rw [e2]
    unfold cutE
    rw [List.getD_eq_getElem?_getD, List.getD_eq_getElem?_getD, List.getElem?_append_left (by omega)]
  · rw [List.getElem?_eq_none (by simp [ivals, hlen]; omega), List.getElem?_eq_none (by rw [fcells_len (f := ef n xs) (z := 1) (fun _ => rfl)]; omega)]
set_option maxHeartbeats 4000000 in
set_option maxRecDepth 100000 in
theorem cut_ok (n : Nat) (a : Option Addr) (cap : Nat) (xs : List Int) (w : World) (hn : n ≤ 4194304) (hr : RdI w a xs.length xs) (hl : xs.length ≤ 255) :
    Calls Try.prog 19 #[.int .i64 (n : Int), .slice a xs.length cap] w fun e w' => ∃ v, e = .returned (.tuple #[v, .int .i64 0]) ∧ OwnF w' w.heap.size 33 2 v (xs.length + 1) (pf n xs) ∧ Below w.heap.size w w' := by
  obtain ⟨len, hlen⟩ : ∃ len, xs.length = len := ⟨_, rfl⟩
  rw [hlen] at hl hr ⊢
  have HLEN := hide hlen
  clear hlen
  obtain ⟨M, hM1, hM2, hM3⟩ := make_f (ts := 46) (z := 2) (by_ := 16) Try.underlying46 infoP rfl (by omega) 0 (len + 1) (by omega) (by omega) (by omega)
  have hmk := hM3 0 ((len : Int) + 1) rfl (by omega)
  obtain ⟨w1, hw1⟩ : ∃ w1, w.alloc (.cells M 33) = w1 := ⟨_, rfl⟩
  have HB1 : Hid (Below w.heap.size w w1) := by rw [← hw1]; exact (Below.refl _ _).alloc (Nat.le_refl _) _
  have HO1 : Hid (OwnF w1 w.heap.size 33 2 (.slice (some ⟨w.heap.size, 0, none⟩) 0 (len + 1)) 0 (pf n xs)) := by
    rw [← hw1]
    exact (ownf_made (z := 2) (zv := .agg #[.int .i64 0, .int .i64 0]) rfl (by omega) 0 (len + 1) (by omega) (by unfold maxLen; omega) M hM1 hM2 w w.heap.size (Nat.le_refl _)).congr (fun k h => absurd h (Nat.not_lt_zero _))
  have HBR := hide (brought_any n a len cap xs w1 hn (hr.below HB1.out) hl)
  have hni : (n : Int) ≤ 4194304 := by omega
  have hnn : ¬ (n : Int) < 0 := by omega
  have hli : (len : Int) ≤ 255 := by omega
  clear hM1 hM2 hM3
  go_enter Try.func19, Try.ntmps19
  go_upto_region 7 with fail
  clear hmk hw1
  obtain ⟨v0, hv0⟩ : ∃ v0, Value.slice (some ⟨w.heap.size, 0, none⟩) 0 (len + 1) = v0 := ⟨_, rfl⟩
  rw [hv0] at HO1 ⊢
  clear hv0
  have HCP := hide (fun (g2 c2 : Nat) (W W' : World) (h : OwnF W w1.heap.size 3 1 (.slice (some ⟨g2, 0, none⟩) len len) len (ef n xs)) => h)
  have HEL : Hid (ef n xs len = [.int .i64 (n : Int)]) := by show ef n xs len = _; unfold ef; rw [← HLEN.out, pe_last]
  have HBA : Hid (∀ W : World, Below W.heap.size W (W.alloc (.cells #[.int .i64 (n : Int)] 3))) := fun W => (Below.refl _ _).alloc (Nat.le_refl _) _
  have HNW : Hid (∀ W : World, ∀ (j : Nat) (u : Value), (ef n xs len)[j]? = some u → (W.alloc (.cells #[.int .i64 (n : Int)] 3)).cell? ((⟨W.heap.size, 0, none⟩ : Addr).add j) = some u) := fun W j u h => by rw [HEL.out] at h; exact news W _ _ j u h
  go_wp2_with (first
    | (go_at_call 30; refine HBR.out.mono ?_; rintro e w2 ⟨g2, rfl, h1, h2, h3⟩; have HR2 : Hid (OwnF w2 w1.heap.size 3 1 (.slice (some ⟨g2, 0, none⟩) len len) len (ef n xs)) := (by rw [← HLEN.out]; exact rowi_ownf h1 h2 (by rw [HLEN.out]; exact hl)); have HB2 := hide h3; clear h1 h2 h3)
    | (at_builtin; refine pushF _ rfl _ _ rfl Try.underlying44 infoN rfl (by omega) (by omega) w1.heap.size _ len (ef n xs) rfl rfl (HR2.out.below (HBA.out w2)) ⟨w2.heap.size, 0, none⟩ 1 rfl (HNW.out w2) (by rw [HEL.out]; simp [Value.oneCell']) (by omega) (by have := HB2.out.size; simp; omega) ?_; intro g3 c3 w3 ho' hg'; have HE3 := hide ho'; have HB3 := hide (grown_own (below_trans HB2.out (HBA.out w2)) (HR2.out.below (HBA.out w2)) (Nat.le_refl _) hg'); clear ho' hg'))
  go_loopw [6, 7, 30] (fun v fr i wr => ∃ (u : Value) (k : Nat), u = v ∧ k ≤ len + 1 ∧ i = .int .i64 (k : Int) ∧ fr = .int .i64 (pb n xs k : Nat) ∧ Hid (OwnF wr w.heap.size 33 2 u k (pf n xs)) ∧ Hid (OwnF wr w1.heap.size 3 1 (.slice (some ⟨g3, 0, none⟩) (len + 1) c3) (len + 1) (ef n xs)) ∧ Hid (∀ i, u.ownBlock = some i → i ≠ g3) ∧ Hid (Below w.heap.size w wr)) (fun _ _ i _ => len + 1 - (intOf i).toNat)
  case atStart => exact ⟨_, 0, rfl, Nat.zero_le _, rfl, rfl, HO1.out.below HB3.out, HE3.out, (fun i hi e => by have h1 := (HO1.out.lt i hi).2; have h2 := (HE3.out.lt g3 rfl).1; omega), below_trans HB1.out HB3.out⟩
  case round =>
    obtain ⟨u, k, rfl, hk, rfl, rfl, HO, HE, HNE, HB⟩ := hrel
    by_cases hlt : k < len + 1
    · have hki : (k : Int) < (len : Int) + 1 := by omega
      have c1 : wr.cell? ⟨g3, k, none⟩ = some (.int .i64 (pe n xs k : Nat)) := by
        have := HE.out.cellAt (fun _ => rfl) k 0 (.int .i64 (pe n xs k : Nat)) hlt (by omega) rfl
        rwa [Nat.mul_one, Nat.add_zero] at this
      have HPB := hide (pb_succ n xs k)
      have HF : Hid (pf n xs k = [.int .i64 (pb n xs k : Nat), .int .i64 (pe n xs k : Nat)]) := rfl
      obtain ⟨p, hp⟩ : ∃ p, pb n xs k = p := ⟨_, rfl⟩
      obtain ⟨q, hq⟩ : ∃ q, pe n xs k = q := ⟨_, rfl⟩
      rw [hp, hq] at HF
      rw [hq] at c1 HPB
      rw [hp]
      clear hp hq
      obtain ⟨wa, hwa⟩ : ∃ wa, wr.alloc (.cells #[.int .i64 (p : Int), .int .i64 (q : Int)] 33) = wa := ⟨_, rfl⟩
      have HW : Hid (∀ (j : Nat) (u : Value), (pf n xs k)[j]? = some u → wa.cell? ((⟨wr.heap.size, 0, none⟩ : Addr).add j) = some u) := fun j u h => by rw [HF.out] at h; rw [← hwa]; exact news wr _ _ j u h
      have HBA2 : Hid (Below wr.heap.size wr wa) := by rw [← hwa]; exact (Below.refl _ _).alloc (Nat.le_refl _) _
      have H1 : Hid (∀ u ∈ pf n xs k, u.oneCell' = true) := by rw [HF.out]; simp [Hid, Value.oneCell']
      have HEA := hide (HE.out.below HBA2.out)
      go_wp2_with (at_builtin; refine pushF2 wa rfl _ _ rfl Try.underlying46 infoP rfl (by omega) (by omega) w.heap.size u k (pf n xs) (fun _ _ => rfl) (fun j _ x hx => by unfold pf at hx; simp at hx; rcases hx with rfl | rfl <;> rfl) rfl rfl (HO.out.below HBA2.out) ⟨wr.heap.size, 0, none⟩ 1 rfl HW.out H1.out (by omega) (by have := HB.out.size; have := HBA2.out.size; omega) ?_; intro g' c' w' ho' hg'; have HO2 := hide ho'; have HG2 := hide hg'; clear ho' hg')
      have HGR : Hid (wa.grownBy w' u.ownBlock) := by
        rcases HG2.out with ⟨e, g⟩ | ⟨e, g⟩
        · show wa.grownBy w' _; rw [e]; exact g
        · exact grown_any g _
      go_roundw
      case rel =>
        refine ⟨_, k + 1, rfl, hlt, by go_num, by rw [HPB.out], HO2.out, HEA.out.kept HGR.out (fun i hi e => ?_), fun i hi e => ?_, grown_own (below_trans HB.out HBA2.out) (HO.out.below HBA2.out) (Nat.le_refl _) HGR.out⟩
        · cases hi; exact HNE.out _ e rfl
        · cases hi
          rcases HG2.out with ⟨e1, _⟩ | ⟨e1, _⟩
          · exact HNE.out _ e1 e
          · have e2 : g' = g3 := e; have := (HEA.out.lt g3 rfl).2; omega
      case measure => simp [intOf]; omega
    · obtain rfl : k = len + 1 := by omega
      go_wp2_with fail
      go_ret2
      exact ⟨_, rfl, HO.out, HB.out⟩
end Go.Proofs.Ytmhebaknoginhaa.Ln
