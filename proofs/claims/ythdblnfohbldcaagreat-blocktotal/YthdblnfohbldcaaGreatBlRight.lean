/-
  isRight: whether each group is just its entries.
-/
import Derived.Test.YthdblnfohbldcaaGreatBlWalk
import Derived.Test.YthdblnfohbldcaaGreatBlNext
import Derived.Lib.MinMax
import Derived.Test.YthdblnfohbldcaaGreatBlStep
import Derived.Test.YthdblnfohbldcaaGreatBlCur
namespace Go.Proofs.YthdblnfohbldcaaGreat.Bl
open Go.ChangeShapes Go.WideShapes Go.ChangeAt Go.RowKit
open Go.Proofs.YthdblnfohbldcaaGreat.Base Go.Proofs.YthdblnfohbldcaaGreat.Nums Go.Proofs.YthdblnfohbldcaaGreat.Curs
open Go.Proofs.YthdblnfohbldcaaGreat.Fa (St Cst)
set_option linter.unusedVariables false
/-- What is still to be asked of a group. -/
def tailB (E : List (BitVec 8)) (ps : List Int) (r n f g d : Nat) (last key : ByteArray) (s : St) : Bool :=
  rises last (entsW d key s).1 && decide ((entsW d key s).2 = some []) && rightF E ps r n f (g + 1) (lastK last (entsW d key s).1)
theorem tailB_step (E : List (BitVec 8)) (ps : List Int) (r n f g d : Nat) (last key : ByteArray) (s : St) :
    tailB E ps r n f g (d + 1) last key s = (decide (0 ≤ order (txt (nextW key s).1.1) (txt last)) && tailB E ps r n f g d (nextW key s).1.1 (nextW key s).1.1 (nextW key s).2) := by
  unfold tailB
  rw [show entsW (d + 1) key s = ((nextW key s).1 :: (entsW d (nextW key s).1.1 (nextW key s).2).1, (entsW d (nextW key s).1.1 (nextW key s).2).2) from rfl]
  simp only [rises, lastK, Bool.and_assoc]
theorem tailB_zero (E : List (BitVec 8)) (ps : List Int) (r n f g : Nat) (last key : ByteArray) (s : St) :
    tailB E ps r n f g 0 last key s = (decide (s = some []) && rightF E ps r n f (g + 1) last) := by
  unfold tailB
  rw [show entsW 0 key s = ([], s) from rfl]
  simp only [rises, lastK, Bool.true_and]
theorem rightF_tail (E : List (BitVec 8)) (ps : List Int) (r n f g : Nat) (last : ByteArray) : rightF E ps r n (f + 1) g last = tailB E ps r n f g (gszN r n g) last ⟨#[]⟩ (some (grpL E ps g)) := rfl
set_option maxHeartbeats 4000000 in
set_option maxRecDepth 100000 in
theorem right_any (q : Nat) (E : List (BitVec 8)) (ps : List Int) (r n G : Nat) (w : World) (h : RX w q E ps r n) (hp : PsOk E ps) (hG : ps.length = G + 1) (hgr : ∀ g, g < G → g * r < n) (hE : E.length ≤ 65536) (hG2 : G ≤ 65536) (hr1 : 1 ≤ r) (hr2 : r ≤ 64) (hn : n ≤ 65536) :
    Calls Tryz.prog 38 #[.pointer (some ⟨q, 0, none⟩)] w fun e w' => e = .returned (.bool (rightF E ps r n G 0 ⟨#[]⟩)) ∧ Below w.heap.size w w' := by
  have HWL : Hid (∀ g W, g < G → Below w.heap.size w W → Calls Tryz.prog 57 #[.pointer (some ⟨q, 0, none⟩), .int .i64 (g : Int)] W fun e w' => ∃ k c, e = .returned (.pointer (some ⟨k, 0, none⟩)) ∧ WK w' k c ⟨#[]⟩ ∧ W.heap.size ≤ c ∧ c < k ∧ Cst w' c (some (grpL E ps g)) ∧ Below W.heap.size W w') := fun g W hg hW =>
    walk_any q g E ps r n W (h.below hW) hp (by omega) hE (by omega)
  have HGR : Hid (∀ W, Below w.heap.size w W → Calls Tryz.prog 87 #[.pointer (some ⟨q, 0, none⟩)] W fun e w' => e = .returned (.int .i64 (G : Nat)) ∧ w' = W) := fun W hW => by
    obtain ⟨ea, ec, pa, pc, h1, _⟩ := h.below hW
    rw [hG] at h1
    exact groups_any q _ pa G pc _ _ W h1 (by omega)
  have HRC : Hid (∀ W, Below w.heap.size w W → W.cell? ⟨q, 2, none⟩ = some (.int .i64 (r : Int)) ∧ W.cell? ⟨q, 3, none⟩ = some (.int .i64 (n : Int))) := fun W hW => by
    obtain ⟨ea, ec, pa, pc, h1, _⟩ := h.below hW
    exact ⟨h1.cells.2.2.1, h1.cells.2.2.2⟩
  have HLT := hide hgr
  clear h hp hgr hG hE
  go_enter Tryz.func38, Tryz.ntmps38
  go_wp2_with (go_at_call 87; refine (HGR.out _ (Below.refl _ _)).mono ?_; rintro e w ⟨rfl, rfl⟩)
  go_loopw [3, 10] (fun s3 s10 wr => ∃ (g : Nat) (last : ByteArray), g ≤ G ∧ s10 = .int .i64 (g : Int) ∧ s3 = .string last ∧ Hid (last.size ≤ 1024) ∧ Hid (rightF E ps r n G 0 ⟨#[]⟩ = rightF E ps r n (G - g) g last) ∧ Hid (Below w.heap.size w wr)) (fun _ s10 _ => G - (intOf s10).toNat)
  case atStart => exact ⟨0, ⟨#[]⟩, Nat.zero_le _, rfl, rfl, Nat.zero_le _, rfl, Below.refl _ _⟩
  case round =>
    rename World => V0
    obtain ⟨g, last, hg, rfl, rfl, HLS, HRF, HB⟩ := hrel
    by_cases hlt : g < G
    · obtain ⟨f, hf⟩ : ∃ f, G - g = f + 1 := ⟨G - g - 1, by omega⟩
      obtain ⟨m, hm⟩ : ∃ m, gszN r n g = m := ⟨_, rfl⟩
      have HT : Hid (rightF E ps r n G 0 ⟨#[]⟩ = tailB E ps r n f g m last ⟨#[]⟩ (some (grpL E ps g))) := by
        show _ = _
        rw [HRF.out, hf, rightF_tail, hm]
      have hgn := HLT.out g hlt
      obtain ⟨gr, hgr⟩ : ∃ gr, g * r = gr := ⟨_, rfl⟩
      have hgri : (g : Int) * (r : Int) = (gr : Int) := by rw [← hgr]; push_cast; rfl
      unfold gszN at hm
      rw [hgr] at hm hgn
      have hw1 : IntKind.i64.wrap ((g : Int) * (r : Int)) = (gr : Int) := by rw [hgri, IntKind.wrap_i64]; omega
      have hw2 : IntKind.i64.wrap ((n : Int) - (gr : Int)) = (n : Int) - (gr : Int) := by rw [IntKind.wrap_i64]; omega
      have hmm : min (r : Int) ((n : Int) - (gr : Int)) = (m : Int) := by omega
      have hm1 : m ≤ 64 := by omega
      have HF : Hid (f = G - (g + 1)) := by show _ = _; omega
      clear hgr hgri hm hgn hf
      go_upto_region 6 with (go_at_call 57; refine (HWL.out g _ hlt HB.out).mono ?_; rintro e w1 ⟨k, c, rfl, hk, hc1, hc2, hc3, hb⟩; have HK := hide hk; have H1 := hide (Nat.le_trans HB.out.size hc1); have H2 := hide hc2; have HC := hide hc3; have HB1 := hide (below_trans HB.out hb); clear hk hc1 hc2 hc3 hb)
      obtain ⟨rc2, rc3⟩ := HRC.out _ HB1.out
      go_cut [31, 32] from 16 to 32 (fun s31 s32 wx => s31 = .int .i64 (m : Int) ∧ s32 = .int .i64 0 ∧ Hid (Below w1.heap.size w1 wx))
      case first =>
        go_quiet (fail)
        go_wp2_with fail
        go_meet
        case rel => exact ⟨by first | rfl | rw [hmm], rfl, below_drewN' _ _ _⟩
      case rest =>
        obtain ⟨rfl, rfl, HBX⟩ := hcut
        clear hw1 hw2 hmm rc2 rc3
        go_wp2_with fail
        go_loopw [3, 32] (fun s3 s32 wr => ∃ (j : Nat) (lastj key : ByteArray) (s : St), j ≤ m ∧ s32 = .int .i64 (j : Int) ∧ s3 = .string lastj ∧ Hid (WK wr k c key) ∧ Hid (Cst wr c s) ∧ Hid (rightF E ps r n G 0 ⟨#[]⟩ = tailB E ps r n f g (m - j) lastj key s) ∧ Hid (lastj.size ≤ 1024) ∧ Hid (key.size ≤ 1024) ∧ Hid (Below w.heap.size w wr)) (fun _ s32 _ => m - (intOf s32).toNat)
        case atStart => exact ⟨0, last, ⟨#[]⟩, _, Nat.zero_le _, rfl, rfl, HK.out.below HBX.out, HC.out.below HBX.out, HT.out, HLS.out, Nat.zero_le _, below_trans HB1.out HBX.out⟩
        case round =>
          rename World => V1
          obtain ⟨j, lastj, key, s, hj, rfl, rfl, HKj, HCj, HTj, HLj, HKS, HBj⟩ := hrel
          by_cases hjm : j < m
          · obtain ⟨d, hd⟩ : ∃ d, m - j = d + 1 := ⟨m - j - 1, by omega⟩
            obtain ⟨X, hX⟩ : ∃ X, (nextW key s).1.1 = X := ⟨_, rfl⟩
            obtain ⟨Y, hY⟩ : ∃ Y, (nextW key s).1.2 = Y := ⟨_, rfl⟩
            obtain ⟨s', hs'⟩ : ∃ Y, (nextW key s).2 = Y := ⟨_, rfl⟩
            have HNX := hide (next_any k c key s V1 HKj.out HCj.out (by have := H2.out; omega) HKS.out)
            have HXS : Hid (X.size ≤ 1024) := by rw [← hX]; exact (next_small key s HKS.out).1
            have HTn : Hid (rightF E ps r n G 0 ⟨#[]⟩ = (decide (0 ≤ order (txt X) (txt lastj)) && tailB E ps r n f g d X X s')) := by
              show _ = _
              rw [HTj.out, hd, tailB_step, hX, hs']
            rw [hX, hY, hs'] at HNX
            have HCP := hide (fun W => compare_any X lastj W (by have := HXS.out; omega) (by have := HLj.out; omega))
            obtain ⟨od, hod⟩ : ∃ od, order (txt X) (txt lastj) = od := ⟨_, rfl⟩
            rw [hod] at HCP HTn
            have HD : Hid (d = m - (j + 1)) := by show _ = _; omega
            clear hX hY hs' hod hd
            by_cases hc : od < 0
            · have HF0 : Hid (rightF E ps r n G 0 ⟨#[]⟩ = false) := by show _ = _; rw [HTn.out, decide_eq_false (by omega)]; rfl
              go_wp2_with (first
                | (go_at_call 58; refine HNX.out.mono ?_; rintro e w2 ⟨rfl, hk2, hc2, hf2⟩; have HB2 : Hid (Below w.heap.size w w2) := hf2.toBelow HBj.out (fun i e => by have := H1.out; have := H2.out; omega); clear hk2 hc2 hf2)
                | (go_at_call 59; refine (HCP.out _).mono ?_; rintro e w3 ⟨rfl, hb3⟩; have HB3 := hide (below_trans HB2.out hb3); clear hb3))
              go_ret
              exact ⟨ret_bool HF0.out.symm, HB3.out⟩
            · have HTm : Hid (rightF E ps r n G 0 ⟨#[]⟩ = tailB E ps r n f g (m - (j + 1)) X X s') := by show _ = _; rw [HTn.out, decide_eq_true (by omega), Bool.true_and, HD.out]
              go_wp2_with (first
                | (go_at_call 58; refine HNX.out.mono ?_; rintro e w2 ⟨rfl, hk2, hc2, hf2⟩; have HB2 : Hid (Below w.heap.size w w2) := hf2.toBelow HBj.out (fun i e => by have := H1.out; have := H2.out; omega); have HK2 := hide hk2; have HC2 := hide hc2; clear hk2 hc2 hf2)
                | (go_at_call 59; refine (HCP.out _).mono ?_; rintro e w3 ⟨rfl, hb3⟩; have HB3 := hide (below_trans HB2.out hb3); have HK3 := hide (HK2.out.below hb3); have HC3 := hide (HC2.out.below hb3); clear hb3))
              go_roundw
              case rel => exact ⟨j + 1, X, X, s', by omega, by go_num, rfl, HK3.out, HC3.out, HTm.out, HXS.out, HXS.out, HB3.out⟩
              case measure => (simp [intOf] <;> omega)
          · obtain rfl : j = m := by omega
            have HTz : Hid (rightF E ps r n G 0 ⟨#[]⟩ = (decide (s = some []) && rightF E ps r n f (g + 1) lastj)) := by show _ = _; rw [HTj.out, Nat.sub_self, tailB_zero]
            have HE := hide (end_st c s V1 HCj.out)
            obtain ⟨k0, k1⟩ := HKj.out.cells
            by_cases hs : s = some []
            · have HD : Hid (decide (s = some []) = true) := decide_eq_true hs
              have HTy : Hid (rightF E ps r n G 0 ⟨#[]⟩ = rightF E ps r n (G - (g + 1)) (g + 1) lastj) := by show _ = _; rw [HTz.out, HD.out, Bool.true_and, HF.out]
              go_wp2_with (go_at_call 85; refine HE.out.mono ?_; rintro e w4 ⟨⟨er, p, rfl, her⟩, hb4⟩; rw [HD.out] at her; have hfd := field_spot er p; have HB4 := hide (below_trans HBj.out hb4); clear hb4)
              go_roundw
              case rel => exact ⟨g + 1, lastj, by omega, by go_num, rfl, HLj.out, HTy.out, HB4.out⟩
              case measure => (simp [intOf] <;> omega)
            · have HD : Hid (decide (s = some []) = false) := decide_eq_false hs
              have HTy : Hid (rightF E ps r n G 0 ⟨#[]⟩ = false) := by show _ = _; rw [HTz.out, HD.out, Bool.false_and]
              go_wp2_with (go_at_call 85; refine HE.out.mono ?_; rintro e w4 ⟨⟨er, p, rfl, her⟩, hb4⟩; rw [HD.out] at her; have hfd := field_spot er p; have HB4 := hide (below_trans HBj.out hb4); clear hb4)
              go_ret
              exact ⟨ret_bool HTy.out.symm, HB4.out⟩
    · obtain rfl : g = G := by omega
      have HF0 : Hid (rightF E ps r n g 0 ⟨#[]⟩ = true) := by show _ = _; rw [HRF.out, Nat.sub_self]; rfl
      go_wp2_with fail
      go_ret
      exact ⟨ret_bool HF0.out.symm, HB.out⟩
end Go.Proofs.YthdblnfohbldcaaGreat.Bl
