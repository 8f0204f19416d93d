/-
  SortBuffers: the walk.
-/
import Derived.Test.YtlbplicafcoifaaSoState3
import Derived.Deep.CutBlock
namespace Go.Proofs.Ytlbplicafcoifaa.SortBuffers
open Go.ChangeShapes Go.WideShapes Go.ChangeAt Go.RowKit
open Go.Proofs.Ytlbplicafcoifaa.Base Go.Proofs.Ytlbplicafcoifaa.So
set_option linter.unusedVariables false
set_option maxHeartbeats 8000000 in
set_option maxRecDepth 100000 in
theorem walk (bud : Int) (a : Option Addr) (n c : Nat) (ac : List Ac) (w : World) (hR : RdA w a n ac) (hF : ∀ x ∈ ac, x.r.k.size ≤ 140737488355328 ∧ x.r.v.size ≤ 140737488355328) (hn : n ≤ 2932031007402) :
    Calls Try.prog 3 #[.int .i64 bud, .slice a n c] w fun e w' => e = .returned (.bool true) ∧ Below w.heap.size w w' := by
  have HR := hide hR
  have HF := hide hF
  have HL := hide (l_new w w.heap.size bud (Nat.le_refl _))
  clear hR hF
  go_enter Try.func3, Try.ntmps3
  go_upto_region 2 with (go_at_call 4; refine HL.out.mono ?_; rintro e w1 ⟨h1, rfl, hl1, hb1, hf1⟩; have HL1 := hide hl1; have HB1 := hide hb1; have HF1 := hide hf1; clear hl1 hb1 hf1)
  clear HL
  have HQ := hide (r_new w1 w.heap.size bud HB1.out.size)
  go_upto_region 3 with (go_at_call 5; refine HQ.out.mono ?_; rintro e w2 ⟨h2, rfl, hl2, hb2, hf2⟩; have HL2 := hide hl2; have HB2 := hide hb2; have HF2 := hide hf2; clear hl2 hb2 hf2)
  clear HQ
  obtain ⟨p1, hp1, hn1⟩ := ptr_l HL1.out
  obtain ⟨p2, hp2, hn2⟩ := ptr_r HL2.out
  have HP1 := hide hp1
  have HP2 := hide hp2
  rw [hp1, hp2]
  clear hp1 hp2
  generalize bcode bud = z
  have hpp : (!p1.isNone == p2.isNone) = false := by rw [hn1, hn2]; simp
  clear hn1 hn2
  go_wp2_with fail
  have HG : Hid (Bi w ((w2.alloc (.cells #[.pointer p1, .pointer none] 30)).alloc (.cells #[.pointer p2, .pointer none] 31)) ⟨w2.heap.size, w2.heap.size + 1, two ⟨h1, bad bud, [], nb bud⟩, two ⟨h2, bad bud, [], nb bud⟩, .slice none 0 0, []⟩ 0) := by
    have g := good_init (tA := 30) (tB := 31) (HL1.out.same (fun i hi => HB2.out.block i (HL1.out.lt i hi).2)) HL2.out (Nat.le_trans HB1.out.size HB2.out.size) (fun i h1 h2 => by have a1 := (HL1.out.lt i h1).2; have a2 := HF2.out i h2; omega)
    rw [HP1.out, HP2.out] at g
    refine ⟨g, ((below_trans HB1.out HB2.out).alloc (Nat.le_trans HB1.out.size HB2.out.size) _).alloc (by simp; have a1 := HB1.out.size; have a2 := HB2.out.size; omega) _, fun x hx => ?_, Nat.le_refl _⟩
    rcases hx with rfl | rfl
    · exact ⟨rfl, rfl, rfl, sm_new bud⟩
    · exact ⟨rfl, rfl, rfl, sm_nil (bud := 0) (by omega) (by omega)⟩
  obtain ⟨G, hG⟩ : ∃ G, w2.heap.size = G := ⟨_, rfl⟩
  rw [hG] at HG ⊢
  clear hG HL1 HL2 HB1 HB2 HF1 HF2 HP1 HP2
  go_loopw [11, 12] (fun s11 s12 wr => ∃ (s : St) (i : Nat), s.tv = s11 ∧ .int .i64 (i : Int) = s12 ∧ i ≤ n ∧ s.ga = G ∧ s.gb = G + 1 ∧ Hid (Bi w wr s i)) (fun _ s12 _ => n - (intOf s12).toNat)
  case atStart => exact ⟨_, 0, rfl, rfl, by omega, rfl, rfl, HG⟩
  case round =>
    clear HG
    obtain ⟨s, i, rfl, rfl, hi, hga, hgb, HI⟩ := hrel
    by_cases hin : i < n
    · have hii : (i : Int) < (n : Int) := by omega
      obtain ⟨b, off, rfl, hbl, hcs⟩ := HR.out.2 (by omega)
      obtain ⟨⟨c0, c1, c2⟩, c3, c4, c5⟩ := hcs i hin
      have q0 := (HI.out.bel.cell (p := ⟨b, off + i * 6, none⟩) hbl).trans c0
      have q1 := (HI.out.bel.cell (p := ⟨b, off + i * 6 + 1, none⟩) hbl).trans c1
      have q2 := (HI.out.bel.cell (p := ⟨b, off + i * 6 + 2, none⟩) hbl).trans c2
      have q3 := (HI.out.bel.cell (p := ⟨b, off + i * 6 + 3, none⟩) hbl).trans c3
      have q4 := (HI.out.bel.cell (p := ⟨b, off + i * 6 + 4, none⟩) hbl).trans c4
      have q5 := (HI.out.bel.cell (p := ⟨b, off + i * 6 + 5, none⟩) hbl).trans c5
      clear hcs c0 c1 c2 c3 c4 c5
      have HFI : Hid ((ac.getD i ac0).r.k.size ≤ 140737488355328 ∧ (ac.getD i ac0).r.v.size ≤ 140737488355328) := by
        have h1 : i < ac.length := by rw [HR.out.1]; exact hin
        rw [List.getD_eq_getElem?_getD, List.getElem?_eq_getElem h1]
        exact HF.out _ (List.getElem_mem h1)
      generalize ac.getD i ac0 = t at q0 q1 q2 q3 q4 q5 HFI
      obtain ⟨op, who, tb, r⟩ := t
      obtain ⟨rp, rk, rv⟩ := r
      simp only at q0 q1 q2 q3 q4 q5 HFI
      go_upto_region 14 with fail
      clear q0 q1 q2 q3 q4 q5
      obtain ⟨gt, hgt⟩ : ∃ gt, wr.heap.size = gt := ⟨_, rfl⟩
      obtain ⟨w4, hw4⟩ : ∃ w4, wr.alloc (.cells #[.int .i64 op, .int .i64 who, .int .i64 tb, .int .i64 rp, .string rk, .string rv] 36) = w4 := ⟨_, rfl⟩
      have HT : Hid (w4.heap[gt]? = some (.cells #[.int .i64 op, .int .i64 who, .int .i64 tb, .int .i64 rp, .string rk, .string rv] 36)) := by rw [← hw4, ← hgt]; exact heap_alloc_new _ _
      have HB4 : Hid (Below wr.heap.size wr w4) := by rw [← hw4]; exact (Below.refl _ _).alloc (Nat.le_refl _) _
      have HTF : Hid (∀ y j, s.F y j → j ≠ gt) := fun y j hj => by have := (St.P_lt y (HI.out.good.ok y) j hj).2; omega
      have HI4 : Hid (Bi w w4 s i) := HI.out.below HB4.out
      rw [hgt, hw4]
      clear hgt hw4 HB4 HI
      obtain ⟨t0, t1, t2, t3, t4, t5⟩ := six_of HT.out
      go_upto_if 59 with fail
      go_cut [14] from 46 to 184 (fun s14 wx => ∃ x : Nat, (x = 0 ∨ x = 1) ∧ .int .i64 (x : Int) = s14 ∧ w4 = wx)
      case first =>
        go_wp2_with fail
        all_goals
          go_meet
          case rel => first | exact ⟨0, .inl rfl, rfl, rfl⟩ | exact ⟨1, .inr rfl, rfl, rfl⟩
      case rest =>
        obtain ⟨x, hx, rfl, rfl⟩ := hcut
        go_upto_block 2 with fail
        go_cut [11] from 46 to 184 (fun s11 wx => ∃ s' : St, s'.tv = s11 ∧ s'.ga = G ∧ s'.gb = G + 1 ∧ Hid (Bi w wx s' (i + 1)))
        case first =>
          by_cases h0 : op = 0
          · subst h0
            have HSM := hide (HI4.out.same x hx)
            have HI5 : Hid (Bi w w4.drew s i) := HI4.out.below ((Below.refl _ _).drew)
            have HNL : Hid (¬ (s.l x).h.foot gt) := fun e => HTF.out (x + 2) gt (by rw [left_F0 s x hx]; exact e) rfl
            have HNR : Hid (¬ (s.r x).h.foot gt) := fun e => HTF.out (x + 4) gt (by rw [right_F0 s x hx]; exact e) rfl
            have HAD := hide (l_add w4.drew w.heap.size (s.l x).h (s.l x).nil (s.l x).rs (s.l x).bud ⟨rp, rk, rv⟩ (Good.lh HI5.out.good x hx) HSM.out.2.2.2 HFI.out.1 HFI.out.2)
            have HAR : Hid (∀ W, RH W w.heap.size (s.r x).h (s.r x).nil (s.r x).rs (s.r x).bud → Calls Try.prog 7 #[(s.r x).h.ptr, Rec.val ⟨rp, rk, rv⟩] W fun e w' => e = .returned (.int .i64 (code (s.l x).nil (s.l x).rs (s.l x).bud ⟨rp, rk, rv⟩)) ∧ ∃ h' : Hb, h'.b = (s.r x).h.b ∧ RH w' w.heap.size h' (s.r x).nil (aft (s.r x).nil (s.r x).rs (s.r x).bud ⟨rp, rk, rv⟩) (s.r x).bud ∧ Turn W w' (s.r x).h.foot ∧ ∀ i, h'.foot i → (s.r x).h.foot i ∨ W.heap.size ≤ i) := fun W hW => by
              obtain ⟨a1, a2, a3, a4⟩ := HSM.out
              rw [a1, a2, a3]
              exact r_add W _ _ _ _ _ _ hW (by rw [← a2, ← a3]; exact a4) HFI.out.1 HFI.out.2
            have HAF : Hid (aft (s.l x).nil (s.l x).rs (s.l x).bud ⟨rp, rk, rv⟩ = aft (s.r x).nil (s.r x).rs (s.r x).bud ⟨rp, rk, rv⟩) := by obtain ⟨a1, a2, a3, a4⟩ := HSM.out; show _ = _; rw [a1, a2, a3]
            generalize code (s.l x).nil (s.l x).rs (s.l x).bud ⟨rp, rk, rv⟩ = z at HAD HAR
            obtain ⟨pl, hpl, hnl⟩ := ptr_l (Good.lh HI4.out.good x hx)
            obtain ⟨pr, hpr, hnr⟩ := ptr_r (Good.rh HI4.out.good x hx)
            obtain ⟨cl, cr⟩ := HI4.out.cells x hx
            rw [hga, hpl] at cl
            rw [hgb, hpr] at cr
            rw [hpl] at HAD
            rw [hpr] at HAR
            unfold Rec.val at HAD HAR
            have HLT := hide (lt_row HT.out)
            have HCL : Hid (∀ (W : World) (k1 : Hb) (rs : List Rec), k1.b = (s.l x).h.b → LH W w.heap.size k1 (s.l x).nil rs (s.l x).bud → Turn w4.drew W (s.l x).h.foot → (∀ i, k1.foot i → (s.l x).h.foot i ∨ w4.drew.heap.size ≤ i) → RH W w.heap.size (s.r x).h (s.r x).nil (s.r x).rs (s.r x).bud ∧ W.heap[gt]? = w4.heap[gt]? ∧ W.cell? ⟨G, x, none⟩ = some (.pointer pl) ∧ W.cell? ⟨G + 1, x, none⟩ = some (.pointer pr)) := fun W k1 rs b1 l1 t1 f1 => by
              obtain ⟨_, _, q1, q2, q3⟩ := HI5.out.addl hx b1 l1 t1 f1
              rw [hgb, hpr] at q2
              rw [hga, hpl] at q3
              exact ⟨q1, t1.block gt HLT.out HNL.out, q3, q2⟩
            have HCR : Hid (∀ (W V : World) (k1 k2 : Hb) (rs rs2 : List Rec), k1.b = (s.l x).h.b → LH W w.heap.size k1 (s.l x).nil rs (s.l x).bud → Turn w4.drew W (s.l x).h.foot → (∀ i, k1.foot i → (s.l x).h.foot i ∨ w4.drew.heap.size ≤ i) → k2.b = (s.r x).h.b → RH V w.heap.size k2 (s.r x).nil rs2 (s.r x).bud → Turn W V (s.r x).h.foot → (∀ i, k2.foot i → (s.r x).h.foot i ∨ W.heap.size ≤ i) → rs = rs2 → Sm rs (s.l x).bud → V.heap[gt]? = w4.heap[gt]? ∧ V.cell? ⟨G, x, none⟩ = some (.pointer pl) ∧ V.cell? ⟨G + 1, x, none⟩ = some (.pointer pr) ∧ Bi w V { s with l := up s.l x ⟨k1, (s.l x).nil, rs, (s.l x).bud⟩, r := up s.r x ⟨k2, (s.r x).nil, rs2, (s.r x).bud⟩ } (i + 1)) := fun W V k1 k2 rs rs2 b1 l1 t1 f1 b2 l2 t2 f2 e1 e2 => by
              have q := HI5.out.both hx b1 l1 t1 f1 b2 l2 t2 f2 e1 e2
              obtain ⟨q2, q3⟩ := q.cells x hx
              simp only [up_same] at q2 q3
              rw [ptr_eq b1, hpl] at q2
              rw [ptr_eq b2, hpr] at q3
              rw [← hgb, ← hga]
              exact ⟨(t2.block gt (Nat.lt_of_lt_of_le HLT.out t1.size) HNR.out).trans (t1.block gt HLT.out HNL.out), q2, q3, q.next⟩
            have HSA : Hid (Sm (aft (s.l x).nil (s.l x).rs (s.l x).bud ⟨rp, rk, rv⟩) (s.l x).bud) := HSM.out.2.2.2.aft HFI.out.1 HFI.out.2
            clear hpl hpr hnl hnr HSM HNL HNR HFI HI4
            rcases hx with rfl | rfl
            · go_upto_region 19 with fail
              first | (go_region_held_law (fun V => (V.cell? ⟨G, 0, none⟩ = some (.pointer pl) ∧ V.cell? ⟨G + 1, 0, none⟩ = some (.pointer pr)) ∧ V.cell? ⟨gt, 3, none⟩ = some (.int .i64 rp) ∧ V.cell? ⟨gt, 4, none⟩ = some (.string rk) ∧ V.cell? ⟨gt, 5, none⟩ = some (.string rv)) (first | exact HS6.out | exact HS5.out | go_keep) (first
                | (go_at_call 6; refine HAD.out.mono ?_; rintro e w5 ⟨rfl, k1, b1, l1, t1, f1⟩
                   have HK1 : Hid (k1.b = (s.l 0).h.b ∧ LH w5 w.heap.size k1 (s.l 0).nil (aft (s.l 0).nil (s.l 0).rs (s.l 0).bud ⟨rp, rk, rv⟩) (s.l 0).bud ∧ Turn w4.drew w5 (s.l 0).h.foot ∧ ∀ i, k1.foot i → (s.l 0).h.foot i ∨ w4.drew.heap.size ≤ i) := ⟨b1, l1, t1, f1⟩
                   clear b1 l1 t1 f1
                   have HS5 : Hid ((w5.cell? ⟨G, 0, none⟩ = some (.pointer pl) ∧ w5.cell? ⟨G + 1, 0, none⟩ = some (.pointer pr)) ∧ w5.cell? ⟨gt, 3, none⟩ = some (.int .i64 rp) ∧ w5.cell? ⟨gt, 4, none⟩ = some (.string rk) ∧ w5.cell? ⟨gt, 5, none⟩ = some (.string rv)) := by
                     obtain ⟨b1, l1, t1, f1⟩ := HK1.out
                     obtain ⟨_, q1, q2, q3⟩ := HCL.out w5 k1 _ b1 l1 t1 f1
                     exact ⟨⟨q2, q3⟩, (cell_same q1).trans t3, (cell_same q1).trans t4, (cell_same q1).trans t5⟩
                   have HR5 : Hid (RH w5 w.heap.size (s.r 0).h (s.r 0).nil (s.r 0).rs (s.r 0).bud) := by
                     obtain ⟨b1, l1, t1, f1⟩ := HK1.out
                     exact (HCL.out w5 k1 _ b1 l1 t1 f1).1)
                | (go_at_call 7; refine (HAR.out _ HR5.out).mono ?_; rintro e w6 ⟨rfl, k2, b2, l2, t2, f2⟩
                   have HX6 := hide (HCR.out w5 w6 k1 k2 _ _ HK1.out.1 HK1.out.2.1 HK1.out.2.2.1 HK1.out.2.2.2 b2 l2 t2 f2 HAF.out HSA.out)
                   clear b2 l2 t2 f2
                   have HS6 : Hid ((w6.cell? ⟨G, 0, none⟩ = some (.pointer pl) ∧ w6.cell? ⟨G + 1, 0, none⟩ = some (.pointer pr)) ∧ w6.cell? ⟨gt, 3, none⟩ = some (.int .i64 rp) ∧ w6.cell? ⟨gt, 4, none⟩ = some (.string rk) ∧ w6.cell? ⟨gt, 5, none⟩ = some (.string rv)) := by
                     obtain ⟨q1, q2, q3, _⟩ := HX6.out
                     exact ⟨⟨q2, q3⟩, (cell_same q1).trans t3, (cell_same q1).trans t4, (cell_same q1).trans t5⟩))) | fail
              all_goals
                go_wp2_with fail
                go_meet
                case rel =>
                  refine ⟨_, ?_, ?_, ?_, HX6.out.2.2.2⟩
                  · rfl
                  · exact hga
                  · exact hgb
            · go_upto_region 19 with fail
              first | (go_region_held_law (fun V => (V.cell? ⟨G, 1, none⟩ = some (.pointer pl) ∧ V.cell? ⟨G + 1, 1, none⟩ = some (.pointer pr)) ∧ V.cell? ⟨gt, 3, none⟩ = some (.int .i64 rp) ∧ V.cell? ⟨gt, 4, none⟩ = some (.string rk) ∧ V.cell? ⟨gt, 5, none⟩ = some (.string rv)) (first | exact HS6.out | exact HS5.out | go_keep) (first
                | (go_at_call 6; refine HAD.out.mono ?_; rintro e w5 ⟨rfl, k1, b1, l1, t1, f1⟩
                   have HK1 : Hid (k1.b = (s.l 1).h.b ∧ LH w5 w.heap.size k1 (s.l 1).nil (aft (s.l 1).nil (s.l 1).rs (s.l 1).bud ⟨rp, rk, rv⟩) (s.l 1).bud ∧ Turn w4.drew w5 (s.l 1).h.foot ∧ ∀ i, k1.foot i → (s.l 1).h.foot i ∨ w4.drew.heap.size ≤ i) := ⟨b1, l1, t1, f1⟩
                   clear b1 l1 t1 f1
                   have HS5 : Hid ((w5.cell? ⟨G, 1, none⟩ = some (.pointer pl) ∧ w5.cell? ⟨G + 1, 1, none⟩ = some (.pointer pr)) ∧ w5.cell? ⟨gt, 3, none⟩ = some (.int .i64 rp) ∧ w5.cell? ⟨gt, 4, none⟩ = some (.string rk) ∧ w5.cell? ⟨gt, 5, none⟩ = some (.string rv)) := by
                     obtain ⟨b1, l1, t1, f1⟩ := HK1.out
                     obtain ⟨_, q1, q2, q3⟩ := HCL.out w5 k1 _ b1 l1 t1 f1
                     exact ⟨⟨q2, q3⟩, (cell_same q1).trans t3, (cell_same q1).trans t4, (cell_same q1).trans t5⟩
                   have HR5 : Hid (RH w5 w.heap.size (s.r 1).h (s.r 1).nil (s.r 1).rs (s.r 1).bud) := by
                     obtain ⟨b1, l1, t1, f1⟩ := HK1.out
                     exact (HCL.out w5 k1 _ b1 l1 t1 f1).1)
                | (go_at_call 7; refine (HAR.out _ HR5.out).mono ?_; rintro e w6 ⟨rfl, k2, b2, l2, t2, f2⟩
                   have HX6 := hide (HCR.out w5 w6 k1 k2 _ _ HK1.out.1 HK1.out.2.1 HK1.out.2.2.1 HK1.out.2.2.2 b2 l2 t2 f2 HAF.out HSA.out)
                   clear b2 l2 t2 f2
                   have HS6 : Hid ((w6.cell? ⟨G, 1, none⟩ = some (.pointer pl) ∧ w6.cell? ⟨G + 1, 1, none⟩ = some (.pointer pr)) ∧ w6.cell? ⟨gt, 3, none⟩ = some (.int .i64 rp) ∧ w6.cell? ⟨gt, 4, none⟩ = some (.string rk) ∧ w6.cell? ⟨gt, 5, none⟩ = some (.string rv)) := by
                     obtain ⟨q1, q2, q3, _⟩ := HX6.out
                     exact ⟨⟨q2, q3⟩, (cell_same q1).trans t3, (cell_same q1).trans t4, (cell_same q1).trans t5⟩))) | fail
              all_goals
                go_wp2_with fail
                go_meet
                case rel =>
                  refine ⟨_, ?_, ?_, ?_, HX6.out.2.2.2⟩
                  · rfl
                  · exact hga
                  · exact hgb
          · by_cases h1 : op = 1
            · subst h1
              have HSM := hide (HI4.out.same x hx)
              have HTL := hide (l_take w4 w.heap.size (s.l x).h (s.l x).nil (s.l x).rs (s.l x).bud (Good.lh HI4.out.good x hx) HSM.out.2.2.2)
              have HTR : Hid (∀ W, RH W w.heap.size (s.r x).h (s.r x).nil (s.r x).rs (s.r x).bud → Calls Try.prog 10 #[(s.r x).h.ptr] W fun e w' => ∃ v', e = .returned v' ∧ OwnR w' w.heap.size v' (isort (s.l x).rs) ∧ RH w' w.heap.size ⟨(s.r x).h.b, .slice none 0 0⟩ (s.r x).nil [] (s.r x).bud ∧ Turn W w' (s.r x).h.foot) := fun W hW => by
                obtain ⟨a1, a2, a3, a4⟩ := HSM.out
                rw [a2]
                exact r_take W _ _ _ _ _ hW (by rw [← a2, ← a3]; exact a4)
              have HIL : Hid ((isort (s.l x).rs).length ≤ 524288) := by
                have h1 := HSM.out.2.2.2.len
                rw [length_isort]
                exact h1
              obtain ⟨pl, hpl, hnl⟩ := ptr_l (Good.lh HI4.out.good x hx)
              obtain ⟨pr, hpr, hnr⟩ := ptr_r (Good.rh HI4.out.good x hx)
              obtain ⟨cl, cr⟩ := HI4.out.cells x hx
              rw [hga, hpl] at cl
              rw [hgb, hpr] at cr
              rw [hpl] at HTL
              rw [hpr] at HTR
              generalize hIS : isort (s.l x).rs = IS at HTL HTR HIL
              have HR5 : Hid (∀ (W : World), LH W w.heap.size ⟨(s.l x).h.b, .slice none 0 0⟩ (s.l x).nil [] (s.l x).bud → Turn w4 W (s.l x).h.foot → RH W w.heap.size (s.r x).h (s.r x).nil (s.r x).rs (s.r x).bud ∧ W.cell? ⟨G + 1, x, none⟩ = some (.pointer pr)) := fun W l1 t1 => by
                obtain ⟨_, _, q1, q2, _⟩ := HI4.out.addl hx (h1 := ⟨(s.l x).h.b, .slice none 0 0⟩) rfl l1 t1 (fun j hj => .inl (.inl (by rcases hj with e | e; exact e; cases e)))
                rw [hgb, hpr] at q2
                exact ⟨q1, q2⟩
              clear hIS hnl hnr hpl hpr HSM HFI
              rcases hx with rfl | rfl
              · go_upto_region 23 with (go_at_call 8; refine HTL.out.mono ?_; rintro e w5 ⟨v, rfl, ho, hl, ht, hv⟩; have HO5 := hide ho; have HL5 := hide hl; have HT5 := hide ht; have HV5 := hide hv; clear ho hl ht hv)
                obtain ⟨la, lc, rfl, hlc⟩ := own_shape HO5.out
                have q5 := (HR5.out w5 HL5.out HT5.out).2
                have HR6 := hide (HR5.out w5 HL5.out HT5.out).1
                go_wp2_with (first
                  | (go_at_call 10; refine (HTR.out _ HR6.out).mono ?_; rintro e w6 ⟨v2, rfl, ho2, hl2, ht2⟩; obtain ⟨lb, lc2, rfl, hlc2⟩ := own_shape ho2; have HQ6 := hide (HI4.out.took (x := 0) (.inl rfl) HL5.out HT5.out HV5.out HO5.out hl2 ht2); have HSR := hide (sameRecords_eq la lb IS.length lc lc2 IS w6 (own_rdr HQ6.out.2.2) (own_rdr ho2) (by have := HIL.out; omega)); clear ho2 hl2 ht2)
                  | (go_at_call 9; refine HSR.out.mono ?_; rintro e w7 ⟨rfl, hb7⟩; have HI7 := hide (HQ6.out.1.below hb7); have HO7 := hide (HQ6.out.2.2.below hb7); clear hb7))
                have HLO := hide HQ6.out.2.1
                clear HQ6 HSR HR6 q5 HL5 HT5 HV5 HO5 HTL HTR HR5 HI4
                have hwm : IntKind.i64.wrap (1000000 + (i : Int)) = 1000000 + (i : Int) := by rw [IntKind.wrap_i64]; omega
                go_loopw [16] (fun s16 wr => ∃ k : Nat, k ≤ IS.length ∧ .int .i64 (k : Int) = s16 ∧ Hid (OwnR wr w.heap.size (.slice la IS.length lc) (List.replicate k (ovR (1000000 + (i : Int))) ++ IS.drop k)) ∧ Hid (w7.grownBy wr (Value.slice la IS.length lc).ownBlock)) (fun s16 _ => IS.length - (intOf s16).toNat)
                case atStart => exact ⟨0, by omega, rfl, HO7, World.grownBy.refl _ _⟩
                case round =>
                  clear HO7
                  obtain ⟨k, hk, rfl, HO, HG⟩ := hrel
                  have hkl : (List.replicate k (ovR (1000000 + (i : Int))) ++ IS.drop k).length = IS.length := by simp; omega
                  by_cases hkn : k < IS.length
                  · have hkk : (k : Int) < (IS.length : Int) := by omega
                    obtain ⟨g, rfl⟩ : ∃ g, la = some ⟨g, 0, none⟩ := by
                      rcases HO.out.2 with ⟨q1, q2⟩ | ⟨g, cap, cur, q1, _⟩
                      · omega
                      · simp only [Value.slice.injEq] at q1; exact ⟨g, q1.1⟩
                    have hra := (own_ra HO.out).1
                    obtain ⟨rr, d0, d1, d2⟩ : ∃ rr : Rec, wr.cell? ⟨g, k * 3, none⟩ = some (.int .i64 rr.p) ∧ wr.cell? ⟨g, k * 3 + 1, none⟩ = some (.string rr.k) ∧ wr.cell? ⟨g, k * 3 + 2, none⟩ = some (.string rr.v) := ⟨_, hra.cells k hkn⟩
                    have f0 := hra.frozen (k * 3)
                    have f1 := hra.frozen (k * 3 + 1)
                    have f2 := hra.frozen (k * 3 + 2)
                    obtain ⟨w8, hw8⟩ : ∃ w8, ((wr.setCell ⟨g, k * 3, none⟩ (.int .i64 (1000000 + (i : Int)))).setCell ⟨g, k * 3 + 1, none⟩ (.string ⟨#[]⟩)).setCell ⟨g, k * 3 + 2, none⟩ (.string ⟨#[]⟩) = w8 := ⟨_, rfl⟩
                    have HO8 : Hid (OwnR w8 w.heap.size (.slice (some ⟨g, 0, none⟩) IS.length lc) (List.replicate (k + 1) (ovR (1000000 + (i : Int))) ++ IS.drop (k + 1))) := by rw [← hw8, ← mark_set _ _ _ hkn]; exact own_put HO.out k hkn (ovR (1000000 + (i : Int)))
                    have HG8 : Hid (w7.grownBy w8 (some g)) := by rw [← hw8]; exact grown_rec HG.out k _ _ _
                    have hkb : k ≤ 524288 := by have h1 := HIL.out; omega
                    clear hra hkl
                    go_wp2_with fail
                    go_roundw
                    case rel => exact ⟨k + 1, by omega, by go_num, HO8, HG8⟩
                    case measure => simp [intOf]; omega
                  · obtain rfl : k = IS.length := by omega
                    have HOF : Hid (OwnR wr w.heap.size (.slice la IS.length lc) (List.replicate IS.length (ovR (1000000 + (i : Int))))) := by
                      have h1 := HO.out
                      rw [List.drop_length, List.append_nil] at h1
                      exact h1
                    clear HO hkl
                    obtain ⟨g8, hg8⟩ : ∃ g, wr.heap.size = g := ⟨_, rfl⟩
                    obtain ⟨w8, hw8⟩ : ∃ w8, wr.alloc (.cells #[.slice la IS.length lc, .int .i64 (1000000 + (i : Int))] 42) = w8 := ⟨_, rfl⟩
                    have HB8 : Hid (Below wr.heap.size wr w8) := by rw [← hw8]; exact (Below.refl _ _).alloc (Nat.le_refl _) _
                    have HT8 : Hid (w8.heap[g8]? = some (.cells #[.slice la IS.length lc, .int .i64 (1000000 + (i : Int))] 42)) := by rw [← hw8, ← hg8]; exact heap_alloc_new _ _
                    have HW8 : Hid (w8.ownsRow w.heap.size 42 2 s.tv s.ts.length (tvals s.ts)) := by
                      have q6 := HI7.out.good.ok 6
                      refine row_same q6 (fun j hj => (HB8.out.block j ?_).trans (HG.out.block j ?_ (fun e => HLO.out 6 j hj e.symm)))
                      · have h1 := (row_blk q6 j hj).2
                        have h2 := HG.out.size
                        omega
                      · exact (row_blk q6 j hj).2
                    have HTS : Hid ((s.ts.length + 1) * 32 ≤ 140737488355328) := by have h1 := HI7.out.len; have h2 : s.ts.length ≤ i := h1; show _ * 32 ≤ _; omega
                    have HZ8 : Hid (w.heap.size ≤ w8.heap.size) := Nat.le_trans HI7.out.bel.size (Nat.le_trans HG.out.size HB8.out.size)
                    generalize htv : s.tv = tv0
                    rw [htv] at HW8
                    have HTV := hide htv
                    clear htv
                    rcases HOF.out.2 with ⟨hq, hn0⟩ | ⟨g, cap', cur, hq, hlg, hcu, hnc, hcm, hcz, _⟩
                    · simp only [Value.slice.injEq] at hq
                      obtain ⟨rfl, hIL, rfl⟩ := hq
                      have hsl : ∀ W, (Instr.sliceAt 38 (.slice none 0 0) (some (.int .i64 0)) none none).run Try.prog W = .ok (.slice none 0 0) W := fun W => by
                        rw [run_sliceAt_slice (h := elR), run_slice_l (ht := elR) (h0 := by omega) (h1 := by omega), szR]
                        rfl
                      have HLO2 : Hid (Loose { s with l := up s.l 0 ⟨⟨(s.l 0).h.b, .slice none 0 0⟩, (s.l 0).nil, [], (s.l 0).bud⟩, r := up s.r 0 ⟨⟨(s.r 0).h.b, .slice none 0 0⟩, (s.r 0).nil, [], (s.r 0).bud⟩ } (.slice none 0 0)) := fun y j _ e => by cases e
                      rw [hIL] at HT8 hw8 ⊢
                      have HSP := hide (fun W : World => spoil_any W.heap.size none 0 0 [] 5 W (own_nil _ _) (Nat.le_refl _) (by omega) (by omega) (by omega))
                      go_wp2_with (first
                        | (at_builtin; refine pushT _ rfl _ _ rfl w.heap.size tv0 s.ts rfl HW8.out g8 ⟨.slice none 0 0, 0, 1000000 + (i : Int)⟩ rfl HT8.out rfl HTS.out HZ8.out ?_; intro g9 c9 w9 hr9 hg9 hv9; have HQ9 := hide (HI7.out.told HLO2.out (L := 0) HG.out (own_nil _ _) HB8.out hr9 (by rw [HTV.out]; exact hg9) (fun j hj => by rw [HTV.out]; rcases hv9 with e | e; exact .inl (e.trans hj); right; have e2 : g9 = j := Option.some.inj hj; omega)); clear hr9 hg9 hv9)
                        | (go_at_call 11; refine (HSP.out _).mono ?_; rintro e w10 ⟨rfl, hg10⟩; have HQ10 := hide (HQ9.out.1.tail hg10 (own_nil _ _)); clear hg10))
                      go_meet
                      case rel =>
                        refine ⟨_, ?_, ?_, ?_, HQ10⟩
                        · rfl
                        · exact hga
                        · exact hgb
                    · simp only [Value.slice.injEq] at hq
                      obtain ⟨rfl, hnn, rfl⟩ := hq
                      obtain ⟨a', hsl, ha'⟩ := tail_cut g IS.length lc hlc
                      have HA' := hide ha'
                      clear hcu hcz hcm hlg hnn hnc ha'
                      go_wp2_with (first
                        | (at_builtin; refine pushT _ rfl _ _ rfl w.heap.size tv0 s.ts rfl HW8.out g8 ⟨.slice (some ⟨g, 0, none⟩) IS.length lc, IS.length, 1000000 + (i : Int)⟩ rfl HT8.out rfl HTS.out HZ8.out ?_; intro g9 c9 w9 hr9 hg9 hv9; have HQ9 := hide (HI7.out.told HLO.out HG.out HOF.out HB8.out hr9 (by rw [HTV.out]; exact hg9) (fun j hj => by rw [HTV.out]; rcases hv9 with e | e; exact .inl (e.trans hj); right; have e2 : g9 = j := Option.some.inj hj; omega)); clear hr9 hg9 hv9)
                        | (go_at_call 11; refine (spoil_tail g IS.length (lc - IS.length) a' 5 _ HA'.out (HQ9.out.2.blk g rfl).2 (fun _ => by rcases HQ9.out.2.2 with ⟨q, _⟩ | ⟨g', c', cur, q1, q2, q3, q4, q5, q6, q7⟩; cases q; simp only [Value.slice.injEq, Option.some.injEq, Addr.mk.injEq] at q1; obtain ⟨⟨rfl, _⟩, q8, rfl⟩ := q1; exact ⟨cur, q3, by omega⟩) (by omega) (by omega)).mono ?_; rintro e w10 ⟨rfl, hg10, hp10⟩; have HQ10 := hide (HQ9.out.1.tail hg10 (own_pre HQ9.out.2 hp10)); clear hg10 hp10))
                      go_meet
                      case rel =>
                        refine ⟨_, ?_, ?_, ?_, HQ10⟩
                        · rfl
                        · exact hga
                        · exact hgb
              · go_upto_region 23 with (go_at_call 8; refine HTL.out.mono ?_; rintro e w5 ⟨v, rfl, ho, hl, ht, hv⟩; have HO5 := hide ho; have HL5 := hide hl; have HT5 := hide ht; have HV5 := hide hv; clear ho hl ht hv)
                obtain ⟨la, lc, rfl, hlc⟩ := own_shape HO5.out
                have q5 := (HR5.out w5 HL5.out HT5.out).2
                have HR6 := hide (HR5.out w5 HL5.out HT5.out).1
                go_wp2_with (first
                  | (go_at_call 10; refine (HTR.out _ HR6.out).mono ?_; rintro e w6 ⟨v2, rfl, ho2, hl2, ht2⟩; obtain ⟨lb, lc2, rfl, hlc2⟩ := own_shape ho2; have HQ6 := hide (HI4.out.took (x := 1) (.inr rfl) HL5.out HT5.out HV5.out HO5.out hl2 ht2); have HSR := hide (sameRecords_eq la lb IS.length lc lc2 IS w6 (own_rdr HQ6.out.2.2) (own_rdr ho2) (by have := HIL.out; omega)); clear ho2 hl2 ht2)
                  | (go_at_call 9; refine HSR.out.mono ?_; rintro e w7 ⟨rfl, hb7⟩; have HI7 := hide (HQ6.out.1.below hb7); have HO7 := hide (HQ6.out.2.2.below hb7); clear hb7))
                have HLO := hide HQ6.out.2.1
                clear HQ6 HSR HR6 q5 HL5 HT5 HV5 HO5 HTL HTR HR5 HI4
                have hwm : IntKind.i64.wrap (1000000 + (i : Int)) = 1000000 + (i : Int) := by rw [IntKind.wrap_i64]; omega
                go_loopw [16] (fun s16 wr => ∃ k : Nat, k ≤ IS.length ∧ .int .i64 (k : Int) = s16 ∧ Hid (OwnR wr w.heap.size (.slice la IS.length lc) (List.replicate k (ovR (1000000 + (i : Int))) ++ IS.drop k)) ∧ Hid (w7.grownBy wr (Value.slice la IS.length lc).ownBlock)) (fun s16 _ => IS.length - (intOf s16).toNat)
                case atStart => exact ⟨0, by omega, rfl, HO7, World.grownBy.refl _ _⟩
                case round =>
                  clear HO7
                  obtain ⟨k, hk, rfl, HO, HG⟩ := hrel
                  have hkl : (List.replicate k (ovR (1000000 + (i : Int))) ++ IS.drop k).length = IS.length := by simp; omega
                  by_cases hkn : k < IS.length
                  · have hkk : (k : Int) < (IS.length : Int) := by omega
                    obtain ⟨g, rfl⟩ : ∃ g, la = some ⟨g, 0, none⟩ := by
                      rcases HO.out.2 with ⟨q1, q2⟩ | ⟨g, cap, cur, q1, _⟩
                      · omega
                      · simp only [Value.slice.injEq] at q1; exact ⟨g, q1.1⟩
                    have hra := (own_ra HO.out).1
                    obtain ⟨rr, d0, d1, d2⟩ : ∃ rr : Rec, wr.cell? ⟨g, k * 3, none⟩ = some (.int .i64 rr.p) ∧ wr.cell? ⟨g, k * 3 + 1, none⟩ = some (.string rr.k) ∧ wr.cell? ⟨g, k * 3 + 2, none⟩ = some (.string rr.v) := ⟨_, hra.cells k hkn⟩
                    have f0 := hra.frozen (k * 3)
                    have f1 := hra.frozen (k * 3 + 1)
                    have f2 := hra.frozen (k * 3 + 2)
                    obtain ⟨w8, hw8⟩ : ∃ w8, ((wr.setCell ⟨g, k * 3, none⟩ (.int .i64 (1000000 + (i : Int)))).setCell ⟨g, k * 3 + 1, none⟩ (.string ⟨#[]⟩)).setCell ⟨g, k * 3 + 2, none⟩ (.string ⟨#[]⟩) = w8 := ⟨_, rfl⟩
                    have HO8 : Hid (OwnR w8 w.heap.size (.slice (some ⟨g, 0, none⟩) IS.length lc) (List.replicate (k + 1) (ovR (1000000 + (i : Int))) ++ IS.drop (k + 1))) := by rw [← hw8, ← mark_set _ _ _ hkn]; exact own_put HO.out k hkn (ovR (1000000 + (i : Int)))
                    have HG8 : Hid (w7.grownBy w8 (some g)) := by rw [← hw8]; exact grown_rec HG.out k _ _ _
                    have hkb : k ≤ 524288 := by have h1 := HIL.out; omega
                    clear hra hkl
                    go_wp2_with fail
                    go_roundw
                    case rel => exact ⟨k + 1, by omega, by go_num, HO8, HG8⟩
                    case measure => simp [intOf]; omega
                  · obtain rfl : k = IS.length := by omega
                    have HOF : Hid (OwnR wr w.heap.size (.slice la IS.length lc) (List.replicate IS.length (ovR (1000000 + (i : Int))))) := by
                      have h1 := HO.out
                      rw [List.drop_length, List.append_nil] at h1
                      exact h1
                    clear HO hkl
                    obtain ⟨g8, hg8⟩ : ∃ g, wr.heap.size = g := ⟨_, rfl⟩
                    obtain ⟨w8, hw8⟩ : ∃ w8, wr.alloc (.cells #[.slice la IS.length lc, .int .i64 (1000000 + (i : Int))] 42) = w8 := ⟨_, rfl⟩
                    have HB8 : Hid (Below wr.heap.size wr w8) := by rw [← hw8]; exact (Below.refl _ _).alloc (Nat.le_refl _) _
                    have HT8 : Hid (w8.heap[g8]? = some (.cells #[.slice la IS.length lc, .int .i64 (1000000 + (i : Int))] 42)) := by rw [← hw8, ← hg8]; exact heap_alloc_new _ _
                    have HW8 : Hid (w8.ownsRow w.heap.size 42 2 s.tv s.ts.length (tvals s.ts)) := by
                      have q6 := HI7.out.good.ok 6
                      refine row_same q6 (fun j hj => (HB8.out.block j ?_).trans (HG.out.block j ?_ (fun e => HLO.out 6 j hj e.symm)))
                      · have h1 := (row_blk q6 j hj).2
                        have h2 := HG.out.size
                        omega
                      · exact (row_blk q6 j hj).2
                    have HTS : Hid ((s.ts.length + 1) * 32 ≤ 140737488355328) := by have h1 := HI7.out.len; have h2 : s.ts.length ≤ i := h1; show _ * 32 ≤ _; omega
                    have HZ8 : Hid (w.heap.size ≤ w8.heap.size) := Nat.le_trans HI7.out.bel.size (Nat.le_trans HG.out.size HB8.out.size)
                    generalize htv : s.tv = tv0
                    rw [htv] at HW8
                    have HTV := hide htv
                    clear htv
                    rcases HOF.out.2 with ⟨hq, hn0⟩ | ⟨g, cap', cur, hq, hlg, hcu, hnc, hcm, hcz, _⟩
                    · simp only [Value.slice.injEq] at hq
                      obtain ⟨rfl, hIL, rfl⟩ := hq
                      have hsl : ∀ W, (Instr.sliceAt 38 (.slice none 0 0) (some (.int .i64 0)) none none).run Try.prog W = .ok (.slice none 0 0) W := fun W => by
                        rw [run_sliceAt_slice (h := elR), run_slice_l (ht := elR) (h0 := by omega) (h1 := by omega), szR]
                        rfl
                      have HLO2 : Hid (Loose { s with l := up s.l 1 ⟨⟨(s.l 1).h.b, .slice none 0 0⟩, (s.l 1).nil, [], (s.l 1).bud⟩, r := up s.r 1 ⟨⟨(s.r 1).h.b, .slice none 0 0⟩, (s.r 1).nil, [], (s.r 1).bud⟩ } (.slice none 0 0)) := fun y j _ e => by cases e
                      rw [hIL] at HT8 hw8 ⊢
                      have HSP := hide (fun W : World => spoil_any W.heap.size none 0 0 [] 5 W (own_nil _ _) (Nat.le_refl _) (by omega) (by omega) (by omega))
                      go_wp2_with (first
                        | (at_builtin; refine pushT _ rfl _ _ rfl w.heap.size tv0 s.ts rfl HW8.out g8 ⟨.slice none 0 0, 0, 1000000 + (i : Int)⟩ rfl HT8.out rfl HTS.out HZ8.out ?_; intro g9 c9 w9 hr9 hg9 hv9; have HQ9 := hide (HI7.out.told HLO2.out (L := 0) HG.out (own_nil _ _) HB8.out hr9 (by rw [HTV.out]; exact hg9) (fun j hj => by rw [HTV.out]; rcases hv9 with e | e; exact .inl (e.trans hj); right; have e2 : g9 = j := Option.some.inj hj; omega)); clear hr9 hg9 hv9)
                        | (go_at_call 11; refine (HSP.out _).mono ?_; rintro e w10 ⟨rfl, hg10⟩; have HQ10 := hide (HQ9.out.1.tail hg10 (own_nil _ _)); clear hg10))
                      go_meet
                      case rel =>
                        refine ⟨_, ?_, ?_, ?_, HQ10⟩
                        · rfl
                        · exact hga
                        · exact hgb
                    · simp only [Value.slice.injEq] at hq
                      obtain ⟨rfl, hnn, rfl⟩ := hq
                      obtain ⟨a', hsl, ha'⟩ := tail_cut g IS.length lc hlc
                      have HA' := hide ha'
                      clear hcu hcz hcm hlg hnn hnc ha'
                      go_wp2_with (first
                        | (at_builtin; refine pushT _ rfl _ _ rfl w.heap.size tv0 s.ts rfl HW8.out g8 ⟨.slice (some ⟨g, 0, none⟩) IS.length lc, IS.length, 1000000 + (i : Int)⟩ rfl HT8.out rfl HTS.out HZ8.out ?_; intro g9 c9 w9 hr9 hg9 hv9; have HQ9 := hide (HI7.out.told HLO.out HG.out HOF.out HB8.out hr9 (by rw [HTV.out]; exact hg9) (fun j hj => by rw [HTV.out]; rcases hv9 with e | e; exact .inl (e.trans hj); right; have e2 : g9 = j := Option.some.inj hj; omega)); clear hr9 hg9 hv9)
                        | (go_at_call 11; refine (spoil_tail g IS.length (lc - IS.length) a' 5 _ HA'.out (HQ9.out.2.blk g rfl).2 (fun _ => by rcases HQ9.out.2.2 with ⟨q, _⟩ | ⟨g', c', cur, q1, q2, q3, q4, q5, q6, q7⟩; cases q; simp only [Value.slice.injEq, Option.some.injEq, Addr.mk.injEq] at q1; obtain ⟨⟨rfl, _⟩, q8, rfl⟩ := q1; exact ⟨cur, q3, by omega⟩) (by omega) (by omega)).mono ?_; rintro e w10 ⟨rfl, hg10, hp10⟩; have HQ10 := hide (HQ9.out.1.tail hg10 (own_pre HQ9.out.2 hp10)); clear hg10 hp10))
                      go_meet
                      case rel =>
                        refine ⟨_, ?_, ?_, ?_, HQ10⟩
                        · rfl
                        · exact hga
                        · exact hgb
            · by_cases h2 : op = 2
              · subst h2
                have HL := hide (l_new w4 w.heap.size tb HI4.out.bel.size)
                go_upto_region 33 with (go_at_call 4; refine HL.out.mono ?_; rintro e w5 ⟨k1, rfl, hl1, hb1, hf1⟩; have HL1 := hide hl1; have HB1 := hide hb1; have HF1 := hide hf1; clear hl1 hb1 hf1)
                clear HL t0 t1 t3 t4 t5
                have t2' := (HB1.out.cell (p := ⟨gt, 2, none⟩) (lt_row HT.out)).trans t2
                have HI5 := hide (HI4.out.below HB1.out)
                have HQ := hide (r_new w5 w.heap.size tb HI5.out.bel.size)
                clear t2
                go_upto_region 34 with (go_at_call 5; refine HQ.out.mono ?_; rintro e w6 ⟨k2, rfl, hl2, hb2, hf2⟩; have HL2 := hide hl2; have HB2 := hide hb2; have HF2 := hide hf2; clear hl2 hb2 hf2)
                clear HQ t2'
                have HI6 := hide (HI5.out.below HB2.out)
                obtain ⟨p3, hp3, hn3⟩ := ptr_l HL1.out
                obtain ⟨p4, hp4, hn4⟩ := ptr_r HL2.out
                have HP3 := hide hp3
                have HP4 := hide hp4
                rw [hp3, hp4]
                clear hp3 hp4
                generalize bcode tb = z2
                have hpq : (!p3.isNone == p4.isNone) = false := by rw [hn3, hn4]; simp
                clear hn3 hn4
                have hra := (HI6.out.good.ok 0).2
                have hrb := (HI6.out.good.ok 1).2
                rw [hga] at hra
                rw [hgb] at hrb
                have fa0 : w6.frozen? ⟨G, 0, none⟩ = false := frozen_of_row _ _ _ _ _ hra
                have fa1 : w6.frozen? ⟨G, 1, none⟩ = false := frozen_of_row _ _ _ _ _ hra
                have fb0 : w6.frozen? ⟨G + 1, 0, none⟩ = false := frozen_of_row _ _ _ _ _ hrb
                have fb1 : w6.frozen? ⟨G + 1, 1, none⟩ = false := frozen_of_row _ _ _ _ _ hrb
                have ca0 : w6.cell? ⟨G, 0, none⟩ = some (s.l 0).h.ptr := by rw [cell_of_row _ _ _ _ _ _ hra]; rfl
                have ca1 : w6.cell? ⟨G, 1, none⟩ = some (s.l 1).h.ptr := by rw [cell_of_row _ _ _ _ _ _ hra]; rfl
                have cb0 : w6.cell? ⟨G + 1, 0, none⟩ = some (s.r 0).h.ptr := by rw [cell_of_row _ _ _ _ _ _ hrb]; rfl
                have cb1 : w6.cell? ⟨G + 1, 1, none⟩ = some (s.r 1).h.ptr := by rw [cell_of_row _ _ _ _ _ _ hrb]; rfl
                have HSET : Hid (Bi w ((w6.setCell ⟨G, x, none⟩ (.pointer p3)).setCell ⟨G + 1, x, none⟩ (.pointer p4)) { s with l := up s.l x ⟨k1, bad tb, [], nb tb⟩, r := up s.r x ⟨k2, bad tb, [], nb tb⟩ } (i + 1)) := by
                  rw [← HP3.out, ← HP4.out, ← hgb, ← hga]
                  exact HI6.out.renew x hx (HL1.out.same (fun j hj => HB2.out.block j (HL1.out.lt j hj).2)) HL2.out (fun y j hj h => by have a1 := (St.P_lt y (HI4.out.good.ok y) j hj).2; have a2 := HF1.out j h; omega) (fun y j hj h => by have a1 := (St.P_lt y (HI5.out.good.ok y) j hj).2; have a2 := HF2.out j h; omega) (fun j h1 h2 => by have a1 := (HL1.out.lt j h1).2; have a2 := HF2.out j h2; omega) (sm_new tb)
                clear HL1 HL2 HB1 HB2 HF1 HF2 HP3 HP4 HI5 HI4 HT HTF hra hrb
                rcases hx with rfl | rfl
                all_goals
                  go_wp2_with fail
                  go_meet
                  case rel =>
                    refine ⟨_, ?_, ?_, ?_, HSET⟩
                    · rfl
                    · exact hga
                    · exact hgb
              · by_cases h4 : op = 4
                · subst h4
                  have hra := (HI4.out.good.ok 0).2
                  have hrb := (HI4.out.good.ok 1).2
                  rw [hga] at hra
                  rw [hgb] at hrb
                  have fa0 : w4.frozen? ⟨G, 0, none⟩ = false := frozen_of_row _ _ _ _ _ hra
                  have fa1 : w4.frozen? ⟨G, 1, none⟩ = false := frozen_of_row _ _ _ _ _ hra
                  have fb0 : w4.frozen? ⟨G + 1, 0, none⟩ = false := frozen_of_row _ _ _ _ _ hrb
                  have fb1 : w4.frozen? ⟨G + 1, 1, none⟩ = false := frozen_of_row _ _ _ _ _ hrb
                  have ca0 : w4.cell? ⟨G, 0, none⟩ = some (s.l 0).h.ptr := by rw [cell_of_row _ _ _ _ _ _ hra]; rfl
                  have ca1 : w4.cell? ⟨G, 1, none⟩ = some (s.l 1).h.ptr := by rw [cell_of_row _ _ _ _ _ _ hra]; rfl
                  have cb0 : w4.cell? ⟨G + 1, 0, none⟩ = some (s.r 0).h.ptr := by rw [cell_of_row _ _ _ _ _ _ hrb]; rfl
                  have cb1 : w4.cell? ⟨G + 1, 1, none⟩ = some (s.r 1).h.ptr := by rw [cell_of_row _ _ _ _ _ _ hrb]; rfl
                  have hl1 : G < w4.heap.size := lt_row hra
                  have hl2 : G + 1 < w4.heap.size := lt_row hrb
                  have HSET := hide (HI4.out.zero x hx)
                  rw [hga, hgb] at HSET
                  clear hra hrb
                  rcases hx with rfl | rfl
                  all_goals
                    go_wp2_with fail
                    go_meet
                    case rel =>
                      refine ⟨_, ?_, ?_, ?_, HSET⟩
                      · rfl
                      · rfl
                      · rfl
                · go_wp2_with fail
                  go_meet
                  case rel => exact ⟨s, rfl, hga, hgb, HI4.out.next⟩
        case rest =>
          clear HI4 HTF HT t0 t1 t2 t3 t4 t5 hga hgb
          obtain ⟨s', rfl, hga, hgb, HI⟩ := hcut
          have HID : Hid (Bi w wc.drew s' (i + 1)) := HI.out.below ((Below.refl _ _).drew)
          have HSM := hide (fun y hy => HI.out.same y hy)
          obtain ⟨PL, hPL⟩ : ∃ PL : Nat → Option Addr, ∀ y, y = 0 ∨ y = 1 → (s'.l y).h.ptr = .pointer (PL y) := by
            obtain ⟨l0, hl0, _⟩ := ptr_l (Good.lh HI.out.good 0 (.inl rfl))
            obtain ⟨l1, hl1, _⟩ := ptr_l (Good.lh HI.out.good 1 (.inr rfl))
            exact ⟨fun y => if y = 0 then l0 else l1, fun y hy => by rcases hy with rfl | rfl; exact hl0; exact hl1⟩
          obtain ⟨PR, hPR⟩ : ∃ PR : Nat → Option Addr, ∀ y, y = 0 ∨ y = 1 → (s'.r y).h.ptr = .pointer (PR y) := by
            obtain ⟨l0, hl0, _⟩ := ptr_r (Good.rh HI.out.good 0 (.inl rfl))
            obtain ⟨l1, hl1, _⟩ := ptr_r (Good.rh HI.out.good 1 (.inr rfl))
            exact ⟨fun y => if y = 0 then l0 else l1, fun y hy => by rcases hy with rfl | rfl; exact hl0; exact hl1⟩
          obtain ⟨NL, hNL⟩ : ∃ NL : Nat → Nat, ∀ y, y = 0 ∨ y = 1 → (s'.l y).rs.length = NL y := ⟨_, fun _ _ => rfl⟩
          obtain ⟨UL, hUL⟩ : ∃ UL : Nat → Int, ∀ y, y = 0 ∨ y = 1 → sumC (s'.l y).rs = UL y := ⟨_, fun _ _ => rfl⟩
          have HLL : Hid (∀ y, y = 0 ∨ y = 1 → Calls Try.prog 12 #[.pointer (PL y)] wc.drew fun e w' => e = .returned (.int .i64 (NL y : Int)) ∧ w' = wc.drew) := fun y hy => by rw [← hPL y hy, ← hNL y hy]; exact l_len wc.drew w.heap.size _ _ _ _ (Good.lh HID.out.good y hy)
          have HRL : Hid (∀ y, y = 0 ∨ y = 1 → Calls Try.prog 13 #[.pointer (PR y)] wc.drew fun e w' => e = .returned (.int .i64 (NL y : Int)) ∧ w' = wc.drew) := fun y hy => by rw [← hPR y hy, ← hNL y hy, (HSM.out y hy).2.1]; exact r_len wc.drew w.heap.size _ _ _ _ (Good.rh HID.out.good y hy)
          have HLU : Hid (∀ y, y = 0 ∨ y = 1 → Calls Try.prog 14 #[.pointer (PL y)] wc.drew fun e w' => e = .returned (.int .i64 (UL y)) ∧ w' = wc.drew) := fun y hy => by rw [← hPL y hy, ← hUL y hy]; exact l_used wc.drew w.heap.size _ _ _ _ (Good.lh HID.out.good y hy)
          have HRU : Hid (∀ y, y = 0 ∨ y = 1 → Calls Try.prog 15 #[.pointer (PR y)] wc.drew fun e w' => e = .returned (.int .i64 (UL y)) ∧ Below wc.drew.heap.size wc.drew w') := fun y hy => by
            obtain ⟨a1, a2, a3, a4⟩ := HSM.out y hy
            rw [← hPR y hy, ← hUL y hy, a2]
            exact r_used wc.drew w.heap.size _ _ _ _ (Good.rh HID.out.good y hy) (by rw [← a2, ← a3]; exact a4)
          obtain ⟨c0, d0⟩ := HI.out.cells 0 (.inl rfl)
          obtain ⟨c1, d1⟩ := HI.out.cells 1 (.inr rfl)
          rw [hga, hPL 0 (.inl rfl)] at c0
          rw [hga, hPL 1 (.inr rfl)] at c1
          rw [hgb, hPR 0 (.inl rfl)] at d0
          rw [hgb, hPR 1 (.inr rfl)] at d1
          clear hPL hPR hNL hUL
          have HG0 := hide (lt_row (HI.out.good.ok 0).2)
          have HG1 := hide (lt_row (HI.out.good.ok 1).2)
          rw [hga] at HG0
          rw [hgb] at HG1
          obtain ⟨ta, tc, htv⟩ := told_shape (HI.out.good.ok 6)
          have HTS : Hid (s'.ts.length ≤ 140737488355328) := by have h1 := HI.out.len; show s'.ts.length ≤ 140737488355328; omega
          have HWH : Hid (∀ W, Bi w W s' (i + 1) → Calls Try.prog 16 #[.slice ta s'.ts.length tc] W fun e w' => e = .returned (.bool true) ∧ Bi w w' s' (i + 1)) := fun W hW => by
            have q6 := hW.good.ok 6
            have q7 : W.ownsRow w.heap.size 42 2 (.slice ta s'.ts.length tc) s'.ts.length (tvals s'.ts) := by rw [← htv]; exact q6
            refine (whole_any w.heap.size ta s'.ts.length tc s'.ts W (told_rdt q7) (fun j _ => hW.good.ok (j + 7)) (fun y j _ _ hne b e1 e2 => hW.good.ap (y + 7) (j + 7) (by omega) b e1 e2) (fun j _ b off e e2 => hW.good.ap (j + 7) 6 (by omega) b e2 (by show s'.tv.ownBlock = some b; rw [htv, e]; rfl)) HTS.out hW.bel.size).mono ?_
            rintro e w' ⟨rfl, h1, h2⟩
            exact ⟨rfl, hW.whole h2 h1⟩
          clear HTS
          rw [htv]
          generalize hts : s'.ts.length = tn at HWH
          rw [hts] at htv
          have HTV := hide htv
          clear htv hts HSM
          rcases hx with rfl | rfl
          · go_upto_region 41 with fail
            first | (go_region_held_law (fun V => (V.cell? ⟨G, 0, none⟩ = some (.pointer (PL 0)) ∧ V.cell? ⟨G, 1, none⟩ = some (.pointer (PL 1))) ∧ V.cell? ⟨G + 1, 0, none⟩ = some (.pointer (PR 0)) ∧ V.cell? ⟨G + 1, 1, none⟩ = some (.pointer (PR 1))) (first | exact HC6.out | go_keep) (first
                | (go_at_call 12; refine (HLL.out _ (by first | exact .inl rfl | exact .inr rfl)).mono ?_; rintro e w5 ⟨rfl, rfl⟩)
                | (go_at_call 13; refine (HRL.out _ (by first | exact .inl rfl | exact .inr rfl)).mono ?_; rintro e w5 ⟨rfl, rfl⟩)
                | (go_at_call 14; refine (HLU.out _ (by first | exact .inl rfl | exact .inr rfl)).mono ?_; rintro e w5 ⟨rfl, rfl⟩)
                | (go_at_call 15; refine (HRU.out _ (by first | exact .inl rfl | exact .inr rfl)).mono ?_; rintro e w6 ⟨rfl, hb6⟩
                   have HC6 : Hid ((w6.cell? ⟨G, 0, none⟩ = some (.pointer (PL 0)) ∧ w6.cell? ⟨G, 1, none⟩ = some (.pointer (PL 1))) ∧ w6.cell? ⟨G + 1, 0, none⟩ = some (.pointer (PR 0)) ∧ w6.cell? ⟨G + 1, 1, none⟩ = some (.pointer (PR 1))) := ⟨⟨(hb6.cell (p := ⟨G, 0, none⟩) HG0.out).trans c0, (hb6.cell (p := ⟨G, 1, none⟩) HG0.out).trans c1⟩, (hb6.cell (p := ⟨G + 1, 0, none⟩) HG1.out).trans d0, (hb6.cell (p := ⟨G + 1, 1, none⟩) HG1.out).trans d1⟩
                   have HI6 := hide (HID.out.below hb6)
                   clear hb6))) | fail
            all_goals
              go_wp2_with (go_at_call 16; refine (HWH.out _ HI6.out).mono ?_; rintro e w7 ⟨rfl, hi7⟩; have HI7 := hide hi7; clear hi7)
              go_roundw
              case rel => exact ⟨s', i + 1, HTV.out, by go_num, by omega, hga, hgb, HI7⟩
              case measure => simp [intOf]; omega
          · go_upto_region 41 with fail
            first | (go_region_held_law (fun V => (V.cell? ⟨G, 0, none⟩ = some (.pointer (PL 0)) ∧ V.cell? ⟨G, 1, none⟩ = some (.pointer (PL 1))) ∧ V.cell? ⟨G + 1, 0, none⟩ = some (.pointer (PR 0)) ∧ V.cell? ⟨G + 1, 1, none⟩ = some (.pointer (PR 1))) (first | exact HC6.out | go_keep) (first
                | (go_at_call 12; refine (HLL.out _ (by first | exact .inl rfl | exact .inr rfl)).mono ?_; rintro e w5 ⟨rfl, rfl⟩)
                | (go_at_call 13; refine (HRL.out _ (by first | exact .inl rfl | exact .inr rfl)).mono ?_; rintro e w5 ⟨rfl, rfl⟩)
                | (go_at_call 14; refine (HLU.out _ (by first | exact .inl rfl | exact .inr rfl)).mono ?_; rintro e w5 ⟨rfl, rfl⟩)
                | (go_at_call 15; refine (HRU.out _ (by first | exact .inl rfl | exact .inr rfl)).mono ?_; rintro e w6 ⟨rfl, hb6⟩
                   have HC6 : Hid ((w6.cell? ⟨G, 0, none⟩ = some (.pointer (PL 0)) ∧ w6.cell? ⟨G, 1, none⟩ = some (.pointer (PL 1))) ∧ w6.cell? ⟨G + 1, 0, none⟩ = some (.pointer (PR 0)) ∧ w6.cell? ⟨G + 1, 1, none⟩ = some (.pointer (PR 1))) := ⟨⟨(hb6.cell (p := ⟨G, 0, none⟩) HG0.out).trans c0, (hb6.cell (p := ⟨G, 1, none⟩) HG0.out).trans c1⟩, (hb6.cell (p := ⟨G + 1, 0, none⟩) HG1.out).trans d0, (hb6.cell (p := ⟨G + 1, 1, none⟩) HG1.out).trans d1⟩
                   have HI6 := hide (HID.out.below hb6)
                   clear hb6))) | fail
            all_goals
              go_wp2_with (go_at_call 16; refine (HWH.out _ HI6.out).mono ?_; rintro e w7 ⟨rfl, hi7⟩; have HI7 := hide hi7; clear hi7)
              go_roundw
              case rel => exact ⟨s', i + 1, HTV.out, by go_num, by omega, hga, hgb, HI7⟩
              case measure => simp [intOf]; omega
    · obtain rfl : i = n := by omega
      go_wp2_with fail
      go_ret
      exact ⟨rfl, HI.out.bel⟩
end Go.Proofs.Ytlbplicafcoifaa.SortBuffers
