/-
  The document's Encode, of any filter.
-/
import Derived.Test.YtmndjgmlndpgaaaDoorFiEnc
import Derived.Test.YtmndjgmlndpgaaaDoorNumsRefC
import Derived.Test.YtmndjgmlndpgaaaDoorFiRefC
namespace Go.Proofs.YtmndjgmlndpgaaaDoor.Filt
open Go.ChangeShapes Go.WideShapes Go.ChangeAt Go.RowKit
open Go.Proofs.YtmndjgmlndpgaaaDoor.Base Go.Proofs.YtmndjgmlndpgaaaDoor.Nums
set_option linter.unusedVariables false
set_option maxHeartbeats 1000000 in
set_option maxRecDepth 100000 in
theorem refEncode_any (A : Bool) (H : Int) (a : Option Addr) (len cap : Nat) (bs : List (BitVec 8)) (w : World) (hr : Rd w a len bs) (hl : len ≤ 140737488351232) (hnil : a = none → len = 0 ∧ cap = 0) :
    Calls Tryd.prog 7 #[.agg #[.bool A, .int .i64 H, .slice a len cap]] w fun e w' => ∃ v, e = .returned (.tuple #[v, .int .i64 (encF ⟨A, H, bs⟩).2]) ∧ Own w' w.heap.size v (encF ⟨A, H, bs⟩).1 ∧ Below w.heap.size w w' := by
  obtain ⟨w1, hw1⟩ : ∃ w1, w.alloc (.cells #[.bool A, .int .i64 H, .slice a len cap] 24) = w1 := ⟨_, rfl⟩
  have hb1 : Below w.heap.size w w1 := by rw [← hw1]; exact (Below.refl _ _).alloc (Nat.le_refl _) _
  have hF : FB w1 w.heap.size A H (.slice a len cap) := by rw [← hw1]; exact FB.new _ _ _ _
  obtain ⟨p, hp0⟩ : ∃ p, w.heap.size = p := ⟨_, rfl⟩
  rw [hp0] at hF
  have HF := hide hF
  have f0 := hF.c0
  have f1 := hF.c1
  have f2 := hF.c2
  have HS := hide hp0
  have HB1 := hide hb1
  have HL := hide hr.1
  have HR1 := hide (hr.below hb1)
  obtain ⟨kk, hkk⟩ : ∃ kk, kindN A H len = kk := ⟨_, rfl⟩
  have HKI := hide (refCheck_any A H a len cap w1 (by omega))
  have HKR := hide (kind_range A H len)
  rw [hkk] at HKR
  have HE : Hid (encF ⟨A, H, bs⟩ = if kk = 0 then ([0], 0) else if kk = 1 then ([255], 0) else if kk = 2 then (B8 H.toNat :: (put len ++ bs), 0) else ([], 70)) := by
    show _ = _; unfold encF Fw.kind; simp only; rw [HL.out, hkk]
  obtain ⟨ck, hck⟩ : ∃ ck, checkN A H len = ck := ⟨_, rfl⟩
  rw [hck] at HKI
  have HCK : Hid (ck = if kk = 3 then 70 else 0) := by
    show _ = _
    rw [← hck, ← hkk]; rfl
  clear hr hF hb1 hkk hck
  go_enter Tryd.func7, Tryd.ntmps7
  go_wp2_with fail
  refine HKI.out.mono ?_
  rintro e w2 ⟨rfl, hb2⟩
  have HF2 := hide (HF.out.below hb2)
  have HB2 : Hid (Below w.heap.size w w2) := HB1.out.trans (hb2.mono HB1.out.size)
  have HR2 := hide (HR1.out.below hb2)
  clear hb2 f0 f1 f2
  have f0 := HF2.out.c0
  have f1 := HF2.out.c1
  have f2 := HF2.out.c2
  rcases HKR.out with ⟨rfl, rfl, rfl, rfl⟩ | ⟨rfl, rfl, rfl, rfl⟩ | ⟨rfl, rfl, h1, h8, hn1, hn2⟩ | rfl
  · have HE2 : Hid (encF ⟨false, 0, bs⟩ = ([0], 0)) := HE.out
    obtain rfl : ck = 0 := HCK.out
    have c0 : ((0 : Int) != 0) = false := rfl
    go_wp2_with fail
    go_ret2
    refine ⟨_, ret_b2 HE2.out, ?_, by first | exact HB2.out.alloc HB2.out.size _ | (rw [← HS.out]; exact HB2.out.alloc HB2.out.size _)⟩
    rw [HE2.out]
    exact (own_heap (base := w2.heap.size) (bs := [0]) (heap_alloc_new _ _) (Nat.le_refl _) (by unfold maxLen; simp)).mono (by first | exact HB2.out.size | (rw [← HS.out]; exact HB2.out.size))
  · have HE2 : Hid (encF ⟨true, 0, bs⟩ = ([255], 0)) := HE.out
    obtain rfl : ck = 0 := HCK.out
    have c0 : ((0 : Int) != 0) = false := rfl
    go_wp2_with fail
    go_ret2
    refine ⟨_, ret_b2 HE2.out, ?_, by first | exact HB2.out.alloc HB2.out.size _ | (rw [← HS.out]; exact HB2.out.alloc HB2.out.size _)⟩
    rw [HE2.out]
    exact (own_heap (base := w2.heap.size) (bs := [255]) (heap_alloc_new _ _) (Nat.le_refl _) (by unfold maxLen; simp)).mono (by first | exact HB2.out.size | (rw [← HS.out]; exact HB2.out.size))
  · obtain ⟨N, rfl⟩ : ∃ N : Nat, H = (N : Int) := ⟨H.toNat, by omega⟩
    obtain rfl : ck = 0 := HCK.out
    have c0 : ((0 : Int) != 0) = false := rfl
    have hl0 : ((len : Int) == 0) = false := by rw [beq_eq_false_iff_ne]; omega
    have HE2 : Hid (encF ⟨false, (N : Int), bs⟩ = (B8 N :: (put len ++ bs), 0)) := HE.out
    have hwl : (Lit.int .i64 (len : Int)).wf = true := WalkArith.wf_i64 ⟨by omega, by omega⟩
    obtain ⟨D, hD⟩ : ∃ D, B8 N = D := ⟨_, rfl⟩
    have hDN : IntKind.u8.wrap (N : Int) = (D.toNat : Int) := by rw [← hD, B8_toNat N (by omega), IntKind.wrap_u8]; omega
    rw [hD] at HE2
    have HPC : Hid (∀ W, Below w2.heap.size w2 W → Calls Tryd.prog 21 #[.int .i64 (len : Int)] W fun e w' => ∃ va vc, e = .returned (.slice va (put len).length vc) ∧ Own w' W.heap.size (.slice va (put len).length vc) (put len) ∧ Below W.heap.size W w') := fun W hW =>
      (refPut_any (len : Int) W hwl).mono fun e w' ⟨v, h1, h2, h3⟩ => by
        rw [putI_nat] at h2
        obtain ⟨va, vc, rfl⟩ := h2.shape
        exact ⟨va, vc, h1, h2, h3⟩
    go_wp2_with fail
    go_cut [5] (fun v wx => ∃ va n vc, v = .slice va n vc ∧ Hid (Own wx w2.heap.size (.slice va n vc) (D :: put len)) ∧ Hid (Below w2.heap.size w2 wx))
    case first =>
      have HW1 : Hid (Below w2.heap.size w2 (w2.alloc (.cells #[.int .u8 (D.toNat : Int)] 5)).drew) := ((Below.refl w2.heap.size w2).alloc (Nat.le_refl _) _).drew
      have HW2 : Hid (Below w2.heap.size w2 w2.drew) := (Below.refl w2.heap.size w2).drew
      have HS1 : Hid (Own (w2.alloc (.cells #[.int .u8 (D.toNat : Int)] 5)).drew w2.heap.size (.slice (some ⟨w2.heap.size, 0, none⟩) 1 1) [D]) := own_heap (base := w2.heap.size) (bs := [D]) (heap_alloc_new w2 _) (Nat.le_refl _) (by unfold maxLen; simp)
      have HPL : Hid ((put len).length ≤ 9) := (put_nine len (by omega)).2
      generalize (put len).length = PL at HPC HPL
      go_region_held_law (fun V => V.cell? ⟨p, 1, none⟩ = some (.int .i64 (N : Int)) ∧ V.cell? ⟨p, 2, none⟩ = some (.slice a len cap)) (first | go_keep | exact E8.out | exact E9.out) (first
        | (go_at_call 21; refine (HPC.out _ HW1.out).mono ?_; rintro e w6 ⟨va, vc, rfl, ho6, hb6⟩; have HB6 := hide (HW1.out.trans (hb6.mono HW1.out.size)); have HP6 := hide (ho6.mono HW1.out.size); have HS6 := hide (HS1.out.below hb6); have E8 := hide (And.intro (HF2.out.below HB6.out).c1 (HF2.out.below HB6.out).c2); clear ho6 hb6)
        | (go_at_call 21; refine (HPC.out _ HW2.out).mono ?_; rintro e w6 ⟨va, vc, rfl, ho6, hb6⟩; have HB6 := hide (HW2.out.trans (hb6.mono HW2.out.size)); have HP6 := hide (ho6.mono HW2.out.size); have E8 := hide (And.intro (HF2.out.below HB6.out).c1 (HF2.out.below HB6.out).c2); clear ho6 hb6)
        | (refine step_join_d rfl (.tmp 22) (.tmp 26) rfl 27 rfl w2.heap.size (.slice (some ⟨w2.heap.size, 0, none⟩) 1 1) [D] (by simp [Act.eval]) HS6.out va PL vc (put len) (by simp [Act.eval]) (Got.rd HP6.out (by have := (put_nine len (by omega)).2; omega)) (Got.nil HP6.out) (by have := HPL.out; simp; omega) HB6.out.size ?_; intro v7 w7 ho7 hg7; obtain ⟨va7, vc7, rfl⟩ := ho7.shape; have HO7 := hide ho7; have HB7 := hide (HB6.out.grown hg7 HB6.out.size (fun k e => by cases e; exact Nat.le_refl _)); have E9 := hide (And.intro (HF2.out.below HB7.out).c1 (HF2.out.below HB7.out).c2); clear ho7 hg7)
        | (refine step_join_d rfl (.tmp 22) (.tmp 26) rfl 27 rfl w2.heap.size (.slice (some ⟨w6.heap.size, 0, none⟩) 1 1) [D] (by simp [Act.eval]) (own_heap (base := w2.heap.size) (bs := [D]) (heap_alloc_new w6 _) HB6.out.size (by unfold maxLen; simp)) va PL vc (put len) (by simp [Act.eval]) (Got.rd (HP6.out.below ((Below.refl w6.heap.size w6).alloc (Nat.le_refl _) _)) (by have := (put_nine len (by omega)).2; omega)) (Got.nil HP6.out) (by have := HPL.out; simp; omega) (HB6.out.alloc HB6.out.size _).size ?_; intro v7 w7 ho7 hg7; obtain ⟨va7, vc7, rfl⟩ := ho7.shape; have HO7 := hide ho7; have HB7 := hide ((HB6.out.alloc HB6.out.size _).grown hg7 (HB6.out.alloc HB6.out.size _).size (fun k e => by cases e; exact HB6.out.size)); have E9 := hide (And.intro (HF2.out.below HB7.out).c1 (HF2.out.below HB7.out).c2); clear ho7 hg7))
      all_goals go_wp2_with fail
      all_goals go_meet
      all_goals exact ⟨_, _, _, rfl, HO7, HB7⟩
    case rest =>
      obtain ⟨va, n4, vc, rfl, HO4, HB4⟩ := hcut
      have HF4 := hide (HF2.out.below HB4.out)
      have HR4 := hide (HR2.out.below HB4.out)
      clear f0 f1 f2
      have f1 := HF4.out.c1
      have f2 := HF4.out.c2
      have HNL : Hid ((D :: put len).length ≤ 10) := by have := (put_nine len (by omega)).2; show _ ≤ _; simp; omega
      go_wp2_with (at_builtin; refine join _ rfl _ _ rfl w2.heap.size _ (D :: put len) rfl HO4.out a len cap bs rfl HR4.out hnil (by have := HNL.out; omega) HB4.out.size ?_
                   intro v8 w8 ho8 hg8
                   have HO8 := hide ho8
                   have HB8 := hide (HB4.out.grown hg8 HB4.out.size (fun k e => (blk HO4.out k e).1))
                   clear ho8 hg8)
      go_ret2
      refine ⟨_, ret_b2 HE2.out, ?_, by first | exact HB2.out.trans (HB8.out.mono HB2.out.size) | (rw [← HS.out]; exact HB2.out.trans (HB8.out.mono HB2.out.size))⟩
      rw [HE2.out]
      exact HO8.out.mono (by first | exact HB2.out.size | (rw [← HS.out]; exact HB2.out.size))
  · have HE2 : Hid (encF ⟨A, H, bs⟩ = ([], 70)) := HE.out
    obtain rfl : ck = 70 := HCK.out
    have c0 : ((70 : Int) != 0) = true := rfl
    go_wp2_with fail
    go_ret2
    exact ⟨_, ret_b2 HE2.out, by rw [HE2.out]; exact own_none _ _, by first | exact HB2.out | (rw [← HS.out]; exact HB2.out)⟩
end Go.Proofs.YtmndjgmlndpgaaaDoor.Filt
