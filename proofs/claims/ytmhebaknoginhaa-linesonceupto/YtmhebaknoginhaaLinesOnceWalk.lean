/-
  LinesOnce: of any text and places, the pieces and the splits hold each line just once, in its place.
-/
import Derived.Test.YtmhebaknoginhaaLnOnce
import Derived.Deep.LoopGhost
namespace Go.Proofs.Ytmhebaknoginhaa.Ln
open Go.ChangeShapes Go.WideShapes Go.ChangeAt Go.RowKit Go.Shelf
open Go.Proofs.Ytmhebaknoginhaa.Base Go.Proofs.Ytmhebaknoginhaa.Rf Go.Proofs.Ytmhebaknoginhaa.Rg
set_option linter.unusedVariables false
attribute [local go_sem] Oper.semAt_some
theorem nums1 {C m t z p q : Nat} (h1 : m < C) (h2 : p + z = q) (h3 : q ≤ t) (h4 : t ≤ 1048576) (h5 : C ≤ 1048576) : (p : Int) + (z : Int) = (q : Int) ∧ decide ((C : Int) ≤ (m : Int)) = false ∧ decide (C ≤ m) = false ∧ (m : Int) < (C : Int) ∧ decide ((p : Int) < 0) = false ∧ decide ((t : Int) - (z : Int) < (p : Int)) = false ∧ (q : Int) ≤ (t : Int) ∧ (p : Int) ≤ (q : Int) ∧ (p : Int) ≤ 1048576 ∧ (m : Int) ≤ 1048576 :=
  ⟨by omega, decide_eq_false (by omega), decide_eq_false (by omega), by omega, decide_eq_false (by omega), decide_eq_false (by omega), by omega, by omega, by omega, by omega⟩
theorem nums2 {p r t : Nat} (h : p = r + 1) (h2 : p < t) : r < t ∧ (p : Int) - 1 = (r : Int) ∧ (r : Int) < (t : Int) ∧ (0 : Int) < (p : Int) ∧ decide ((0 : Int) < (p : Int)) = true ∧ decide (0 < p) = true :=
  ⟨by omega, by omega, by omega, by omega, decide_eq_true (by omega), decide_eq_true (by omega)⟩
set_option maxHeartbeats 8000000 in
set_option maxRecDepth 100000 in
theorem onceWalk (T : ByteArray) (a : Option Addr) (len cap : Nat) (xs : List Int) (w : World) (hs : T.size ≤ 1048576) (hr : RdI w a len xs) :
    Calls Try.prog 8 #[.string T, .slice a len cap] w fun e w' => e = .returned (.bool true) ∧ Below w.heap.size w w' := by
  have hfn := seq_nil
  have HLN := hide (fun W => lines_any T W (by omega))
  have HWK := hide works_any
  have HXL := hide hr.1
  have HRI := hide hr
  have hlm := hr.2.1
  have HCL := hide (cnt_le T)
  have hsi : (T.size : Int) ≤ 1048576 := by omega
  clear hr
  obtain ⟨w1, hw1⟩ : ∃ w1, w.alloc (.cells #[.string T] 9) = w1 := ⟨_, rfl⟩
  obtain ⟨w2, hw2⟩ : ∃ w2, w1.alloc (.cells #[.bool false] 4) = w2 := ⟨_, rfl⟩
  have HB1 : Hid (Below w.heap.size w w1) := by rw [← hw1]; exact (Below.refl _ _).alloc (Nat.le_refl _) _
  have HB2 : Hid (Below w1.heap.size w1 w2) := by rw [← hw2]; exact (Below.refl _ _).alloc (Nat.le_refl _) _
  have HX1 : Hid (Boxed w1 w.heap.size 9 (.string T)) := by rw [← hw1]; exact World.alloc_heap_new _ _
  have HR2 : Hid (Boxed w2 w1.heap.size 4 (.bool false)) := by rw [← hw2]; exact World.alloc_heap_new _ _
  obtain ⟨gx, hgx⟩ : ∃ b, w.heap.size = b := ⟨_, rfl⟩
  obtain ⟨gr, hgr⟩ : ∃ b, w1.heap.size = b := ⟨_, rfl⟩
  rw [hgx] at HX1
  rw [hgr] at HR2
  have HGX := hide hgx
  have HGR := hide hgr
  have HX2 := hide (boxed_below HX1.out HB2.out)
  have HXR : Hid (gx < gr) := by have := HX1.out.lt; show gx < gr; omega
  have x2 := HX2.out.cell
  refine calls_marks Try.func8 rfl ?_
  simp only [Try.ntmps8, List.size_toArray, List.length_cons, List.length_nil, Nat.reduceAdd, Nat.reduceSub, Array.replicate_succ, Array.replicate_zero, List.push_toArray, List.append_toArray, List.nil_append, List.cons_append]
  go_upto_region 2 with (go_at_call 11; refine (HLN.out _).mono ?_; rintro e w3 ⟨va, rfl, ho3', hb3⟩; have ho3 := owns_ownf ho3'; obtain ⟨la, lc, ea, hlc, _, _⟩ := ho3.shape; subst ea; have HO3 := hide ho3; have HB3 := hide hb3; clear ho3 ho3' hb3)
  clear hw1 hw2 x2 hgx hgr
  obtain ⟨C, hC⟩ : ∃ C, cnt T = C := ⟨_, rfl⟩
  rw [hC] at HO3 HCL hlc ⊢
  have HC := hide hC
  have hCl : C ≤ 1048576 := by have := HCL.out; omega
  have hCi : (C : Int) ≤ 1048576 := by omega
  clear hC
  obtain ⟨w4, hw4⟩ : ∃ w4, w3.alloc (.cells #[.slice la C lc] 34) = w4 := ⟨_, rfl⟩
  obtain ⟨ga, hga⟩ : ∃ b, w3.heap.size = b := ⟨_, rfl⟩
  have HB4 : Hid (Below w3.heap.size w3 w4) := by rw [← hw4]; exact (Below.refl _ _).alloc (Nat.le_refl _) _
  have HA4 : Hid (Boxed w4 ga 34 (.slice la C lc)) := by rw [← hw4, ← hga]; exact World.alloc_heap_new _ _
  have HGA := hide hga
  rw [hw4, hga]
  clear hw4 hga
  have HB24 := hide (below_trans HB3.out HB4.out)
  have HX4 := hide (boxed_below HX2.out HB24.out)
  have HR4 := hide (boxed_below HR2.out HB24.out)
  have HO4 := hide (HO3.out.below HB4.out)
  have HB04 := hide (below_trans HB1.out (below_trans HB2.out HB24.out))
  have HRG : Hid (w.heap.size ≤ gr) := by have := HB1.out.size; have := HGR.out; show w.heap.size ≤ gr; omega
  have HRL : Hid (gr < w4.heap.size) := HR4.out.lt
  have x4 := HX4.out.cell
  have hfr : Try.f8.results = #[.cell 4 4] := rfl
  by_cases hlong : 256 ≤ len
  · have HCU := hide (cut_long (T.size : Int) a len cap w4 (.inr hlong) (by omega))
    have hli : (256 : Int) ≤ (len : Int) := by omega
    have hld : decide ((256 : Int) ≤ (len : Int)) = true := by simp; omega
    have htd : decide ((4194304 : Int) < (T.size : Int)) = false := by simp; omega
    go_upto_region 4 with (go_at_call 19; refine HCU.out.mono ?_; rintro e w5 ⟨rfl, hb5⟩; have HB5 := hide hb5; clear hb5)
    clear x4
    have x5 := (boxed_below HX4.out HB5.out).cell
    have HR5 := hide (boxed_below HR4.out HB5.out)
    go_wp2_with (go_at_call 17; refine (HWK.out _).mono ?_; rintro e w6 ⟨rfl, hb6⟩; have HB6 := hide hb6; have HR6 := hide (boxed_below HR5.out hb6); have r1 := HR6.out.cell; have r2 := HR6.out.frozen; clear hb6)
    exact leave_true hfr rfl HR6.out HRG.out HRL.out (below_trans HB5.out HB6.out).size (below_trans HB04.out (below_trans HB5.out HB6.out)) trivial
  · have hl : len ≤ 255 := by omega
    have hli : (len : Int) ≤ 255 := by omega
    have HCU := hide (cut_ok T.size a cap xs w4 (by omega) (by rw [HXL.out]; exact HRI.out.below HB04.out) (by rw [HXL.out]; exact hl))
    rw [HXL.out] at HCU
    go_upto_region 3 with (go_at_call 19; refine HCU.out.mono ?_; rintro e w5 ⟨vp, rfl, ho5, hb5⟩; have HP5 := hide ho5; have HB5 := hide hb5; clear ho5 hb5)
    clear x4 HCU
    obtain ⟨gp, cp, ep, _, _, _⟩ := HP5.out.has (by omega)
    subst ep
    go_wp2_with fail
    obtain ⟨w6, hw6⟩ : ∃ w6, w5.alloc (.cells #[.int .i64 0] 3) = w6 := ⟨_, rfl⟩
    obtain ⟨gn, hgn⟩ : ∃ b, w5.heap.size = b := ⟨_, rfl⟩
    have HB6 : Hid (Below w5.heap.size w5 w6) := by rw [← hw6]; exact (Below.refl _ _).alloc (Nat.le_refl _) _
    have HN6 : Hid (Boxed w6 gn 3 (.int .i64 0)) := by rw [← hw6, ← hgn]; exact World.alloc_heap_new _ _
    have HGN := hide hgn
    rw [hw6, hgn]
    clear hw6 hgn
    have HB46 := hide (below_trans HB5.out HB6.out)
    have HX6 := hide (boxed_below HX4.out HB46.out)
    have HR6 := hide (boxed_below HR4.out HB46.out)
    have HA6 := hide (boxed_below HA4.out HB46.out)
    have HO6 := hide (HO4.out.below HB46.out)
    have HP6 := hide (HP5.out.below HB6.out)
    have HB06 := hide (below_trans HB04.out HB46.out)
    have HNX : Hid (∀ i, i < w5.heap.size → i ≠ gn) := fun i hi e => by have := HGN.out; omega
    have HXN : Hid (gx ≠ gn) := HNX.out gx (boxed_below HX4.out HB5.out).lt
    have HRN : Hid (gr ≠ gn) := HNX.out gr (boxed_below HR4.out HB5.out).lt
    have HAN : Hid (ga ≠ gn) := HNX.out ga (boxed_below HA4.out HB5.out).lt
    have HKX : Hid (∀ W, w6.grownBy W (some gn) → Boxed W gx 9 (.string T)) := fun W h => (h.block gx HX6.out.lt (fun e => HXN.out (Option.some.inj e))).trans HX6.out
    have HKR : Hid (∀ W, w6.grownBy W (some gn) → Boxed W gr 4 (.bool false)) := fun W h => (h.block gr HR6.out.lt (fun e => HRN.out (Option.some.inj e))).trans HR6.out
    have HKA : Hid (∀ W, w6.grownBy W (some gn) → Boxed W ga 34 (.slice la C lc)) := fun W h => (h.block ga HA6.out.lt (fun e => HAN.out (Option.some.inj e))).trans HA6.out
    have HKO : Hid (∀ W, w6.grownBy W (some gn) → OwnF W w2.heap.size 9 1 (.slice la C lc) C (sf T 0)) := fun W h => HO6.out.kept h (fun i hi e => by have q1 := (HO4.out.lt i hi).2; have q2 := HB5.out.size; exact HNX.out i (by omega) (Option.some.inj e).symm)
    have HKP : Hid (∀ W, w6.grownBy W (some gn) → OwnF W w4.heap.size 33 2 (.slice (some ⟨gp, 0, none⟩) (len + 1) cp) (len + 1) (pf T.size xs)) := fun W h => HP6.out.kept h (fun i hi e => HNX.out i (HP5.out.lt i hi).2 (Option.some.inj e).symm)
    have HKB : Hid (∀ W, w6.grownBy W (some gn) → Below w.heap.size w W) := fun W h => HB06.out.grown h HB06.out.size (fun i e => by cases e; have := HGN.out; have := HB5.out.size; have := HB04.out.size; omega)
    have HKM : Hid (∀ W, w6.grownBy W (some gn) → w4.heap.size ≤ W.heap.size) := fun W h => Nat.le_trans HB46.out.size h.size
    have hlcc : C ≤ lc := hlc
    go_loopw [8, 10] (fun at' i wr => ∃ k : Nat, k ≤ len + 1 ∧ i = .int .i64 (k : Int) ∧ at' = .int .i64 (pb T.size xs k : Nat) ∧ Hid (Boxed wr gn 3 (.int .i64 (ix T (pb T.size xs k) : Nat))) ∧ Hid (w6.grownBy wr (some gn))) (fun _ i _ => len + 1 - (intOf i).toNat)
    case atStart => exact ⟨0, Nat.zero_le _, rfl, rfl, by rw [show pb T.size xs 0 = 0 from rfl, ix_zero]; exact HN6, World.grownBy.refl _ _⟩
    case round =>
      obtain ⟨k, hk, rfl, rfl, HN, HG⟩ := hrel
      by_cases hlt : k < len + 1
      · have hki : (k : Int) < (len : Int) + 1 := by omega
        have hkx : k ≤ xs.length := by rw [HXL.out]; omega
        have HPW := hide (HKP.out wr HG.out)
        have p0 : wr.cell? ⟨gp, k * 2, none⟩ = some (.int .i64 (pb T.size xs k : Nat)) := HPW.out.cellAt (fun _ => rfl) k 0 _ hlt (by omega) rfl
        have p1 : wr.cell? ⟨gp, k * 2 + 1, none⟩ = some (.int .i64 (pe T.size xs k : Nat)) := HPW.out.cellAt (fun _ => rfl) k 1 _ hlt (by omega) rfl
        have hEB := (pe_int T.size xs k hkx).2
        have hPE := pb_le T.size xs k hkx
        have HPS := hide (pb_succ T.size xs k)
        have hIM := ix_mono T _ _ hPE
        have hIL := ix_le T (pe T.size xs k)
        rw [HC.out] at hIL
        obtain ⟨P, hP⟩ : ∃ P, pb T.size xs k = P := ⟨_, rfl⟩
        obtain ⟨E, hE⟩ : ∃ E, pe T.size xs k = E := ⟨_, rfl⟩
        rw [hP] at p0 hPE hIM HN ⊢
        rw [hE] at p1 hEB hPE HPS hIM hIL
        have HOF : Hid (∀ V, Below wr.heap.size wr V → Calls Try.prog 13 #[.string T, .agg #[.int .i64 (P : Int), .int .i64 (E : Int)]] V fun e w' => ∃ v, e = .returned (.tuple #[v, .int .i64 0]) ∧ OwnF w' wr.heap.size 9 1 v (ix T E - ix T P) (sf T (ix T P)) ∧ Below wr.heap.size wr w') := fun V hV => (of_ok T P E V (by omega) hPE hEB).mono fun e w' ⟨v, h1, h2, h3⟩ => ⟨v, h1, (owns_ownf h2).mono hV.size, hV.trans (h3.mono hV.size)⟩
        obtain ⟨A, hA⟩ : ∃ A, ix T P = A := ⟨_, rfl⟩
        obtain ⟨B, hB⟩ : ∃ B, ix T E = B := ⟨_, rfl⟩
        rw [hA] at hIM HOF HN
        rw [hB] at hIM hIL HOF
        have HBB := hide hB
        clear hP hE hA hB
        obtain ⟨D, hD⟩ : ∃ D, B - A = D := ⟨_, rfl⟩
        have hDi : (A : Int) + (D : Int) = (B : Int) := by omega
        have HSL := hide (slice_lh_s la C lc A B hIM (by omega))
        rw [hD] at HOF HSL
        have HD := hide hD
        have hDD : D ≤ 1048576 := by omega
        clear hD
        have xx := (HKX.out wr HG.out).cell
        have HCC : Hid (∀ V, Below wr.heap.size wr V → V.cell? ⟨gx, 0, none⟩ = some (.string T) ∧ V.cell? ⟨gp, k * 2, none⟩ = some (.int .i64 (P : Int)) ∧ V.cell? ⟨gp, k * 2 + 1, none⟩ = some (.int .i64 (E : Int))) := fun V hV => by
          refine ⟨(boxed_below (HKX.out wr HG.out) hV).cell, ?_, ?_⟩
          · exact (hV.cell (p := ⟨gp, k * 2, none⟩) (HPW.out.lt gp rfl).2).trans p0
          · exact (hV.cell (p := ⟨gp, k * 2 + 1, none⟩) (HPW.out.lt gp rfl).2).trans p1
        have hq1 : ((P : Int) != (P : Int)) = false := by simp
        have hq2 : decide ((E : Int) < (P : Int)) = false := by simp; omega
        have hPEi : (P : Int) ≤ (E : Int) := by omega
        go_upto_region 15 with (fail)
        refine only_normal ?_
        go_region_held (fun V => V.cell? ⟨gx, 0, none⟩ = some (.string T) ∧ V.cell? ⟨gp, k * 2, none⟩ = some (.int .i64 (P : Int)) ∧ V.cell? ⟨gp, k * 2 + 1, none⟩ = some (.int .i64 (E : Int))) (first | go_keep | exact E8.out) (first
          | (go_at_call 13; refine (HOF.out _ (by first | exact Below.refl _ _ | exact (Below.refl _ _).drew | exact below_drewN' _ _ _)).mono ?_; rintro e w7 ⟨v, rfl, ho7, hb7⟩; obtain ⟨va, vc, ev, _, _, _⟩ := ho7.shape; subst ev; have HO7 := hide ho7; have HB7 := hide hb7; have E8 := hide (HCC.out _ hb7); clear hb7 ho7))
        all_goals
          simp only [onlyNormal]
          have HN7 := hide (boxed_below HN.out HB7.out)
          have n7 := HN7.out.cell
          have a7 := (boxed_below (HKA.out wr HG.out) HB7.out).cell
          have HS7 := hide (same_true D (fun k => ln T (A + k)) va (laE la lc A) vc (lc - A) w7 (by omega) (HO7.out.rdf (fun _ => rfl)) (by have h := rdf_part (((HKO.out wr HG.out).below HB7.out).rdf (fun _ => rfl)) hIM hIL hlcc; rw [HD.out] at h; exact h))
          have hsl := HSL.out
          have hcb : decide ((C : Int) < (B : Int)) = false := by simp; omega
          have hBi : (B : Int) ≤ 1048576 := by omega
          have hABi : (A : Int) ≤ (B : Int) := by omega
          clear p0 p1 xx
          go_wp2_with (go_at_call 15; refine HS7.out.mono ?_; rintro e w8 ⟨rfl, hb8⟩; have HB8 := hide hb8; have HN8 := hide (boxed_below HN7.out hb8); have n8 := HN8.out.cell; have z8 := HN8.out.frozen; clear hb8 n7 a7)
          go_roundw
          case rel => exact ⟨k + 1, hlt, by go_num, by rw [HPS.out], by rw [HPS.out, HBB.out]; exact HN8.out.set _, grown_trans HG.out (grown_trans (grown_below' (below_trans HB7.out HB8.out) gn) (grownBy_setCell' _ _ _))⟩
          case measure => simp [intOf]; omega
      · obtain rfl : k = len + 1 := by omega
        have hpe : pb T.size xs (len + 1) = T.size := by rw [pb_succ]; have h := pe_last T.size xs; rw [HXL.out] at h; exact h
        rw [hpe, ix_size, HC.out] at HN
        rw [hpe]
        clear hpe hlt hk
        have x9 := (HKX.out wr HG.out).cell
        have n9 := HN.out.cell
        have a9 := (HKA.out wr HG.out).cell
        have HBW := hide (HKB.out wr HG.out)
        have hq1 : ((T.size : Int) != (T.size : Int)) = false := by simp
        have hq2 : ((C : Int) != (C : Int)) = false := by simp
        by_cases hfit : fits T xs (len + 1)
        · have HSP : Hid (Calls Try.prog 24 #[.string T, .slice a len cap] wr fun e w' => ∃ v, e = .returned (.tuple #[v, .int .i64 0]) ∧ OwnF w' wr.heap.size 23 2 v (len + 1) (xf T xs) ∧ Below wr.heap.size wr w') := by
            have h := splits_walk T a cap xs wr (by omega) (by rw [HXL.out]; exact HRI.out.below HBW.out) (by rw [HXL.out]; exact hl)
            rw [HXL.out] at h
            refine h.mono fun e w' ⟨h1, h2⟩ => ?_
            rcases h1 with ⟨v, h3, h4, h5⟩ | ⟨h3, h4⟩
            · exact ⟨v, h3, h5, h2⟩
            · exact absurd hfit h4
          go_upto_region 22 with (go_at_call 24; refine HSP.out.mono ?_; rintro e w9 ⟨vs, rfl, ho9, hb9⟩; have HS9 := hide ho9; have HB9 := hide hb9; clear ho9 hb9)
          obtain ⟨gs, cs, es, _, _, _⟩ := HS9.out.has (by omega)
          subst es
          have HN9 := hide (boxed_below HN.out HB9.out)
          have n10 := HN9.out.cell
          have z10 := HN9.out.frozen
          clear x9 n9 a9
          go_wp2_with fail
          obtain ⟨w10, hw10⟩ : ∃ w10, w9.setCell ⟨gn, 0, none⟩ (.int .i64 0) = w10 := ⟨_, rfl⟩
          rw [hw10]
          have HN10 : Hid (Boxed w10 gn 3 (.int .i64 0)) := by rw [← hw10]; exact HN9.out.set _
          have HG10 : Hid (w9.grownBy w10 (some gn)) := by rw [← hw10]; exact grownBy_setCell' _ _ _
          have HG610 := hide (grown_trans HG.out (grown_trans (grown_below' HB9.out gn) HG10.out))
          have HS10 : Hid (OwnF w10 wr.heap.size 23 2 (.slice (some ⟨gs, 0, none⟩) (len + 1) cs) (len + 1) (xf T xs)) := HS9.out.kept HG10.out (fun i hi e => by have q1 := (HS9.out.lt i hi).1; have q2 := HN.out.lt; have q3 : gn = i := Option.some.inj e; omega)
          have HSN : Hid (gs ≠ gn) := fun e => by have q1 := (HS9.out.lt gs rfl).1; have q2 := HN.out.lt; omega
          clear hw10 n10 z10
          refine wp_loop_ghost_k (fun n ac W => ∃ k, n + k = len + 1 ∧ Frm gx gr ga gn gs cs len (lo T xs k) k ac.tmps ∧ Marks w4.heap.size W ac.defers ∧ Boxed W gn 3 (.int .i64 (ix T (pb T.size xs k) : Nat)) ∧ w10.grownBy W (some gn)) (len + 1) ?start2 ?round2
          case start2 => exact ⟨0, rfl, ⟨rfl, rfl, rfl, rfl, rfl, rfl, rfl, rfl⟩, trivial, by rw [show pb T.size xs 0 = 0 from rfl, ix_zero]; exact HN10.out, World.grownBy.refl _ _⟩
          case round2 =>
            rintro gk ⟨t, ds⟩ wk ⟨k, hgk, ⟨hsz, f2, f4, f5, f9, f13, f15, f16⟩, hmk, hnk, hwk⟩ J K hJ hK
            have HJ := hide hJ
            have HM := hide hmk
            have HNK := hide hnk
            have HWK2 := hide hwk
            have HGK := hide hgk
            have HG6K := hide (grown_trans HG610.out hwk)
            obtain ⟨U, hU, ht⟩ := spread t hsz
            have u2 := (hU 2).trans f2
            have u4 := (hU 4).trans f4
            have u5 := (hU 5).trans f5
            have u9 := (hU 9).trans f9
            have u13 := (hU 13).trans f13
            have u15 := (hU 15).trans f15
            have u16 := (hU 16).trans f16
            rw [u2, u4, u5, u9, u13, u15, u16] at ht
            clear hU f2 f4 f5 f9 f13 f15 f16 hsz u2 u4 u5 u9 u13 u15 u16 hJ hmk hnk hwk hgk
            subst ht
            by_cases hlt : k < len + 1
            · have hki : (k : Int) < (len : Int) + 1 := by omega
              have hkx : k ≤ xs.length := by rw [HXL.out]; omega
              have HIN := hide (in_split T xs k hkx)
              have HLH := hide (lo_hi T xs k hkx)
              have HLS := hide (lo_succ T xs k)
              have HPS := hide (pb_succ T.size xs k)
              have HSK := hide (HS10.out.kept HWK2.out (fun i hi e => by have q1 : gn = i := Option.some.inj e; cases hi; exact HSN.out q1.symm))
              have s0 : wk.cell? ⟨gs, k * 2, none⟩ = some (.int .i64 (so T xs k : Nat)) := HSK.out.cellAt (fun _ => rfl) k 0 _ hlt (by omega) rfl
              have s1 : wk.cell? ⟨gs, k * 2 + 1, none⟩ = some (.string (T.extract (lo T xs k) (hi T xs k))) := HSK.out.cellAt (fun _ => rfl) k 1 _ hlt (by omega) rfl
              have HSO : Hid (so T xs k = if lo T xs k = hi T xs k then pb T.size xs k else lo T xs k) := rfl
              have hgsw := (HSK.out.lt gs rfl).2
              obtain ⟨A, hA⟩ : ∃ A, ix T (pb T.size xs k) = A := ⟨_, rfl⟩
              obtain ⟨B, hB⟩ : ∃ B, ix T (pe T.size xs k) = B := ⟨_, rfl⟩
              obtain ⟨L, hL⟩ : ∃ L, lo T xs k = L := ⟨_, rfl⟩
              obtain ⟨H, hH⟩ : ∃ H, hi T xs k = H := ⟨_, rfl⟩
              obtain ⟨O, hO⟩ : ∃ O, so T xs k = O := ⟨_, rfl⟩
              obtain ⟨PB, hPB⟩ : ∃ PB, pb T.size xs k = PB := ⟨_, rfl⟩
              have HBB := hide hB
              rw [hA] at HNK HIN
              rw [hB] at HIN
              rw [hL, hH, hO] at HIN
              rw [hO, hL, hH, hPB] at HSO
              rw [hO] at s0
              rw [hL, hH] at s1 HLH
              rw [hH] at HLS
              rw [hL]
              have hOT : O ≤ 1048576 := by
                have q1 := HSO.out
                have q2 := HLH.out
                have q3 := pb_le T.size xs k hkx
                have q4 := (pe_int T.size xs k hkx).2
                by_cases e : L = H
                · rw [if_pos e] at q1; omega
                · rw [if_neg e] at q1; omega
              clear hA hB hL hH hO hPB
              obtain ⟨hLH, hHT⟩ := HLH.out
              obtain ⟨S, hS⟩ : ∃ S, T.extract L H = S := ⟨_, rfl⟩
              rw [hS] at s1 HIN
              obtain ⟨Z, hZ⟩ : ∃ Z, S.size = Z := ⟨_, rfl⟩
              have hZH : L + Z = H := by rw [← hZ, ← hS, ByteArray.size_extract]; omega
              have hZi : (L : Int) + (Z : Int) = (H : Int) := by omega
              have hHw : IntKind.i64.wrap (H : Int) = (H : Int) := by rw [IntKind.wrap_i64]; omega
              have hHTi : (H : Int) ≤ (T.size : Int) := by omega
              have hLHi : (L : Int) ≤ (H : Int) := by omega
              have hd1 : decide ((T.size : Int) < (H : Int)) = false := by simp; omega
              have hd2 : decide (T.size < H) = false := by simp; omega
              have x30 := (HKX.out wk HG6K.out).cell
              have HXK := hide (HKX.out wk HG6K.out)
              go_upto_region 30 with (fail)
              obtain ⟨v1, hv1⟩ : ∃ v1, wk.alloc (.cells #[.int .i64 (O : Int), .string S] 23) = v1 := ⟨_, rfl⟩
              obtain ⟨gb, hgb⟩ : ∃ b, wk.heap.size = b := ⟨_, rfl⟩
              have HBV1 : Hid (Below wk.heap.size wk v1) := by rw [← hv1]; exact (Below.refl _ _).alloc (Nat.le_refl _) _
              have HC1 : Hid (v1.heap[gb]? = some (.cells #[.int .i64 (O : Int), .string S] 23)) := by rw [← hv1, ← hgb]; exact World.alloc_heap_new _ _
              rw [hv1, hgb]
              clear hv1 hgb s0 s1 x30
              obtain ⟨b0, b1⟩ := cell2 HC1.out
              have x31 := (boxed_below HXK.out HBV1.out).cell
              have HEQ : Hid (S = ⟨#[]⟩ ↔ L = H) := by
                constructor
                · intro e
                  have : S.size = 0 := by rw [e]; rfl
                  omega
                · intro e
                  rw [← hS, e]
                  apply ByteArray.ext
                  rw [ByteArray.data_extract]
                  simp
                  omega
              have HNL : Hid (S.toList = [] ↔ L = H) := by
                constructor
                · intro e
                  rw [ByteArray.toList_eq] at e
                  have e2 : S.data = #[] := Array.toList_eq_nil_iff.1 e
                  have e3 : S.size = 0 := by show S.data.size = 0; rw [e2]; rfl
                  omega
                · intro e
                  rw [HEQ.out.2 e, ByteArray.toList_eq]
              by_cases hemp : L = H
              · have hSl2 : (S.toList == []) = true := by rw [HNL.out.2 hemp]; rfl
                have hSl3 : S.toList.isEmpty = true := by rw [HNL.out.2 hemp]; rfl
                have HEMP := hide hemp
                clear hemp
                refine only_normal ?_
                go_quiet (fail)
                simp only [onlyNormal]
                clear hSl2 hSl3
                obtain ⟨v2, hv2⟩ : ∃ v2, v1.drewN nq = v2 := ⟨_, rfl⟩
                rw [hv2]
                have HBV2 : Hid (Below v1.heap.size v1 v2) := by rw [← hv2]; exact below_drewN' _ _ _
                clear hv2 b0 b1 x31
                have HC2 := hide ((HBV2.out.block gb (Array.getElem?_eq_some_iff.1 HC1.out).1).trans HC1.out)
                obtain ⟨b0, b1⟩ := cell2 HC2.out
                obtain ⟨v3, hv3⟩ : ∃ v3, v2.alloc (.cells #[.int .i64 (O : Int), .string S] 23) = v3 := ⟨_, rfl⟩
                obtain ⟨gc, hgc⟩ : ∃ b, v2.heap.size = b := ⟨_, rfl⟩
                have HBV3 : Hid (Below v2.heap.size v2 v3) := by rw [← hv3]; exact (Below.refl _ _).alloc (Nat.le_refl _) _
                have HC3 : Hid (v3.heap[gc]? = some (.cells #[.int .i64 (O : Int), .string S] 23)) := by rw [← hv3, ← hgc]; exact World.alloc_heap_new _ _
                have HGC := hide hgc
                have HAA : Hid (∀ W, Calls Try.prog 10 #[.agg #[.int .i64 (O : Int), .string S]] W fun e w' => e = .returned (.func (.func 25) #[] #[.pointer (some ⟨W.heap.size, 0, none⟩)]) ∧ w' = W.alloc (.cells #[.int .i64 (O : Int), .string S] 23)) := fun W => all_any (O : Int) S W
                go_upto_region 34 with (go_at_call 10; refine (HAA.out _).mono ?_; rintro e v3 ⟨rfl, e9⟩; rw [hv3] at e9; subst e9)
                clear hv3 hgc b0 b1
                have HBK3 := hide (below_trans HBV1.out (below_trans HBV2.out HBV3.out))
                have HN3 := hide (boxed_below HNK.out HBK3.out)
                have HGCN : Hid (gc ≠ gn) := fun e => by have q1 := (boxed_below HNK.out (below_trans HBV1.out HBV2.out)).lt; have q2 := HGC.out; omega
                have HMK3 := hide (HM.out.below HBK3.out)
                have HW4 : Hid (w4.heap.size ≤ v3.heap.size) := Nat.le_trans (HKM.out wk HG6K.out) HBK3.out.size
                have HSS : Hid (S.size ≤ 281474976710656) := by show S.size ≤ _; omega
                go_wp2_with fail
                refine wp_range_t (gf := 25) (lb := #[.pointer (some ⟨gc, 0, none⟩)]) (N := cnt S) (E := given (O : Int) S) rfl (enter_fn Try.func25 (by kernel_rfl) rfl) (all_iter gc (O : Int) S HSS.out) keeps_below (fun _ _ => rfl)
                  (fun j t => (((t.setIfInBounds 196 (.int .i64 (wrap64 ((O : Int) + (pl S j : Nat))))).setIfInBounds 197 (.string (ln S j))).setIfInBounds 19 (.int .i64 (wrap64 ((O : Int) + (pl S j : Nat))))).setIfInBounds 20 (.string (ln S j)))
                  (fun j W => Cnt v3 gn (A + j) W) (fun _ _ _ => False) (fun j => Cnt.lasts HN3.out.lt) (fun _ _ _ _ _ _ h _ _ _ => h) (fun j V V' h hb => h.below hb) (fun _ _ _ _ h _ => h)
                  (fun j V h => h.at HC3.out HGCN.out) (fun V hb => ⟨boxed_below HN3.out hb, grown_below' hb gn⟩) ?assign3 ?body3 ?done3 ?stop3
                case assign3 =>
                  intro l j W K hj hK
                  unfold given
                  gi_wp2
                  exact hK
                case body3 =>
                  rintro l j W hl hj ⟨rr, hr⟩ hI
                  have HI := hide hI
                  have HG6W := hide (grown_trans HG6K.out (grown_trans (grown_below' HBK3.out gn) hI.2))
                  have hj2 : j < B - A := by have h := HIN.out.1; omega
                  obtain ⟨hX0, hY0⟩ := HIN.out.2.2.2 j hj2
                  have hmC : A + j < C := by have h1 := HIN.out.2.2.1; have h2 := HC.out; omega
                  have hlp := line_place T (A + j) (by rw [HC.out]; exact hmC)
                  have hCnt := HI.out.1.cell
                  have hxW := (HKX.out W HG6W.out).cell
                  have haW := (HKA.out W HG6W.out).cell
                  obtain ⟨gl, gc2, egl, _, _, _⟩ := (HKO.out W HG6W.out).has (by omega)
                  simp only [Value.slice.injEq] at egl
                  obtain ⟨rfl, _, rfl⟩ := egl
                  have hcl := (HKO.out W HG6W.out).cellAt (fun _ => rfl) (A + j) 0 _ hmC (by omega) rfl
                  simp only [Nat.mul_one, Nat.add_zero, Nat.zero_add] at hcl
                  rw [hY0]
                  have HE : Hid (A + (j + 1) = A + j + 1) := rfl
                  obtain ⟨m, hm⟩ : ∃ m, A + j = m := ⟨_, rfl⟩
                  rw [hm] at hX0 hmC hlp hCnt hcl HI HE ⊢
                  obtain ⟨p, hp⟩ : ∃ p, pl T m = p := ⟨_, rfl⟩
                  obtain ⟨Y, hY⟩ : ∃ Y, ln T m = Y := ⟨_, rfl⟩
                  rw [hp] at hX0 hlp
                  rw [hY] at hlp hcl ⊢
                  obtain ⟨l1, l2, l3, l4⟩ := hlp
                  have hX : wrap64 ((O : Int) + (pl S j : Nat)) = (p : Int) := by rw [show (O : Int) + (pl S j : Nat) = (p : Int) by omega]; unfold wrap64; omega
                  rw [hX]
                  obtain ⟨z, hz⟩ : ∃ z, Y.size = z := ⟨_, rfl⟩
                  rw [hz] at l1 l2
                  obtain ⟨q, hq⟩ : ∃ q, p + z = q := ⟨_, rfl⟩
                  rw [hq] at l1 l2
                  obtain ⟨hqi, g1, g2, g3, g4, g5, g6, g7, g8, g9⟩ := nums1 hmC hq l1 hs hCl
                  have hfz := HI.out.1.frozen
                  clear hm hp hY hX hX0 hY0 hq hI
                  by_cases hp0 : p = 0
                  · have hpd : decide ((0 : Int) < (p : Int)) = false := decide_eq_false (by rw [hp0]; decide)
                    have hpi : ¬ (0 : Int) < (p : Int) := by rw [hp0]; decide
                    clear hp0
                    gi_wp2
                    refine ⟨keeps_grown (grownBy_setCell' _ _ _) HI.out.1, ?_⟩
                    show Cnt v3 gn (A + (j + 1)) _
                    rw [HE.out]
                    exact ⟨HI.out.1.set _, grown_trans HI.out.2 (grownBy_setCell' _ _ _)⟩
                  · obtain ⟨r, hr⟩ : ∃ r, p = r + 1 := ⟨p - 1, (Nat.succ_pred_eq_of_pos (Nat.pos_of_ne_zero hp0)).symm⟩
                    obtain ⟨hrT, hri, hrTi, hpi, hpd, hpn⟩ := nums2 hr l4
                    have hbt : bt T r = 10 := by have h := l3 (Nat.pos_of_ne_zero hp0); rw [hr, Nat.add_sub_cancel] at h; exact h
                    have hget : (T[r]'hrT).toNat = 10 := by rw [← bt_get T r hrT, hbt]; rfl
                    clear hbt hr
                    gi_wp2
                    refine ⟨keeps_grown (grownBy_setCell' _ _ _) HI.out.1, ?_⟩
                    show Cnt v3 gn (A + (j + 1)) _
                    rw [HE.out]
                    exact ⟨HI.out.1.set _, grown_trans HI.out.2 (grownBy_setCell' _ _ _)⟩
                case done3 =>
                  intro D V hD hV hDV
                  have HV := hide hV
                  have HDV := hide hDV
                  have HMV : Hid (Marks w4.heap.size V ({ target := .collected D, args := #[] } :: ds)) := by
                    refine Marks.more HMK3.out HW4.out hD hDV (HMK3.out.kept (fun E hE h => (hV.2.block E (Array.getElem?_eq_some_iff.1 h).1 (fun e => ?_)).trans h))
                    have e2 : E = gn := Option.some.inj e
                    rw [e2, show v3.heap[gn]? = _ from HN3.out] at h
                    cases h
                  have HNV : Hid (Boxed V gn 3 (.int .i64 (ix T (pb T.size xs (k + 1)) : Nat))) := by
                    rw [HPS.out, HBB.out, show B = A + cnt S by have h1 := HIN.out.1; have h2 := HIN.out.2.1; omega]
                    exact hV.1
                  have HGV := hide (grown_trans HWK2.out (grown_trans (grown_below' HBK3.out gn) hV.2))
                  clear hV hDV
                  go_wp2_with fail
                  refine Handed.intro (gk - 1) (by have := HGK.out; omega) (HJ.out _ _ _ ⟨k + 1, by have := HGK.out; omega, ⟨rfl, rfl, rfl, rfl, rfl, rfl, by rw [HLS.out]; rfl, by rfl⟩, HMV.out, HNV.out, HGV.out⟩)
                case stop3 => intro _ _ _ _ _ _ h; exact h.elim
              · have hSl : ¬ S.toList = [] := fun e => hemp (HNL.out.1 e)
                have hSl2 : (S.toList == []) = false := by simpa using hSl
                have hSl3 : S.toList.isEmpty = false := by simpa using hSl
                have hOL : O = L := by rw [HSO.out, if_neg hemp]
                have hOi : ((O : Int) != (L : Int)) = false := by simp [hOL]
                have hOe : (O : Int) = (L : Int) := by omega
                clear hOL
                refine only_normal ?_
                go_quiet (fail)
                simp only [onlyNormal]
                clear hSl hSl2 hSl3 hOi hOe
                obtain ⟨v2, hv2⟩ : ∃ v2, v1.drewN nq = v2 := ⟨_, rfl⟩
                rw [hv2]
                have HBV2 : Hid (Below v1.heap.size v1 v2) := by rw [← hv2]; exact below_drewN' _ _ _
                clear hv2 b0 b1 x31
                have HC2 := hide ((HBV2.out.block gb (Array.getElem?_eq_some_iff.1 HC1.out).1).trans HC1.out)
                obtain ⟨b0, b1⟩ := cell2 HC2.out
                obtain ⟨v3, hv3⟩ : ∃ v3, v2.alloc (.cells #[.int .i64 (O : Int), .string S] 23) = v3 := ⟨_, rfl⟩
                obtain ⟨gc, hgc⟩ : ∃ b, v2.heap.size = b := ⟨_, rfl⟩
                have HBV3 : Hid (Below v2.heap.size v2 v3) := by rw [← hv3]; exact (Below.refl _ _).alloc (Nat.le_refl _) _
                have HC3 : Hid (v3.heap[gc]? = some (.cells #[.int .i64 (O : Int), .string S] 23)) := by rw [← hv3, ← hgc]; exact World.alloc_heap_new _ _
                have HGC := hide hgc
                have HAA : Hid (∀ W, Calls Try.prog 10 #[.agg #[.int .i64 (O : Int), .string S]] W fun e w' => e = .returned (.func (.func 25) #[] #[.pointer (some ⟨W.heap.size, 0, none⟩)]) ∧ w' = W.alloc (.cells #[.int .i64 (O : Int), .string S] 23)) := fun W => all_any (O : Int) S W
                go_upto_region 34 with (go_at_call 10; refine (HAA.out _).mono ?_; rintro e v3 ⟨rfl, e9⟩; rw [hv3] at e9; subst e9)
                clear hv3 hgc b0 b1
                have HBK3 := hide (below_trans HBV1.out (below_trans HBV2.out HBV3.out))
                have HN3 := hide (boxed_below HNK.out HBK3.out)
                have HGCN : Hid (gc ≠ gn) := fun e => by have q1 := (boxed_below HNK.out (below_trans HBV1.out HBV2.out)).lt; have q2 := HGC.out; omega
                have HMK3 := hide (HM.out.below HBK3.out)
                have HW4 : Hid (w4.heap.size ≤ v3.heap.size) := Nat.le_trans (HKM.out wk HG6K.out) HBK3.out.size
                have HSS : Hid (S.size ≤ 281474976710656) := by show S.size ≤ _; omega
                go_wp2_with fail
                refine wp_range_t (gf := 25) (lb := #[.pointer (some ⟨gc, 0, none⟩)]) (N := cnt S) (E := given (O : Int) S) rfl (enter_fn Try.func25 (by kernel_rfl) rfl) (all_iter gc (O : Int) S HSS.out) keeps_below (fun _ _ => rfl)
                  (fun j t => (((t.setIfInBounds 196 (.int .i64 (wrap64 ((O : Int) + (pl S j : Nat))))).setIfInBounds 197 (.string (ln S j))).setIfInBounds 19 (.int .i64 (wrap64 ((O : Int) + (pl S j : Nat))))).setIfInBounds 20 (.string (ln S j)))
                  (fun j W => Cnt v3 gn (A + j) W) (fun _ _ _ => False) (fun j => Cnt.lasts HN3.out.lt) (fun _ _ _ _ _ _ h _ _ _ => h) (fun j V V' h hb => h.below hb) (fun _ _ _ _ h _ => h)
                  (fun j V h => h.at HC3.out HGCN.out) (fun V hb => ⟨boxed_below HN3.out hb, grown_below' hb gn⟩) ?assign3 ?body3 ?done3 ?stop3
                case assign3 =>
                  intro l j W K hj hK
                  unfold given
                  gi_wp2
                  exact hK
                case body3 =>
                  rintro l j W hl hj ⟨rr, hr⟩ hI
                  have HI := hide hI
                  have HG6W := hide (grown_trans HG6K.out (grown_trans (grown_below' HBK3.out gn) hI.2))
                  have hj2 : j < B - A := by have h := HIN.out.1; omega
                  obtain ⟨hX0, hY0⟩ := HIN.out.2.2.2 j hj2
                  have hmC : A + j < C := by have h1 := HIN.out.2.2.1; have h2 := HC.out; omega
                  have hlp := line_place T (A + j) (by rw [HC.out]; exact hmC)
                  have hCnt := HI.out.1.cell
                  have hxW := (HKX.out W HG6W.out).cell
                  have haW := (HKA.out W HG6W.out).cell
                  obtain ⟨gl, gc2, egl, _, _, _⟩ := (HKO.out W HG6W.out).has (by omega)
                  simp only [Value.slice.injEq] at egl
                  obtain ⟨rfl, _, rfl⟩ := egl
                  have hcl := (HKO.out W HG6W.out).cellAt (fun _ => rfl) (A + j) 0 _ hmC (by omega) rfl
                  simp only [Nat.mul_one, Nat.add_zero, Nat.zero_add] at hcl
                  rw [hY0]
                  have HE : Hid (A + (j + 1) = A + j + 1) := rfl
                  obtain ⟨m, hm⟩ : ∃ m, A + j = m := ⟨_, rfl⟩
                  rw [hm] at hX0 hmC hlp hCnt hcl HI HE ⊢
                  obtain ⟨p, hp⟩ : ∃ p, pl T m = p := ⟨_, rfl⟩
                  obtain ⟨Y, hY⟩ : ∃ Y, ln T m = Y := ⟨_, rfl⟩
                  rw [hp] at hX0 hlp
                  rw [hY] at hlp hcl ⊢
                  obtain ⟨l1, l2, l3, l4⟩ := hlp
                  have hX : wrap64 ((O : Int) + (pl S j : Nat)) = (p : Int) := by rw [show (O : Int) + (pl S j : Nat) = (p : Int) by omega]; unfold wrap64; omega
                  rw [hX]
                  obtain ⟨z, hz⟩ : ∃ z, Y.size = z := ⟨_, rfl⟩
                  rw [hz] at l1 l2
                  obtain ⟨q, hq⟩ : ∃ q, p + z = q := ⟨_, rfl⟩
                  rw [hq] at l1 l2
                  obtain ⟨hqi, g1, g2, g3, g4, g5, g6, g7, g8, g9⟩ := nums1 hmC hq l1 hs hCl
                  have hfz := HI.out.1.frozen
                  clear hm hp hY hX hX0 hY0 hq hI
                  by_cases hp0 : p = 0
                  · have hpd : decide ((0 : Int) < (p : Int)) = false := decide_eq_false (by rw [hp0]; decide)
                    have hpi : ¬ (0 : Int) < (p : Int) := by rw [hp0]; decide
                    clear hp0
                    gi_wp2
                    refine ⟨keeps_grown (grownBy_setCell' _ _ _) HI.out.1, ?_⟩
                    show Cnt v3 gn (A + (j + 1)) _
                    rw [HE.out]
                    exact ⟨HI.out.1.set _, grown_trans HI.out.2 (grownBy_setCell' _ _ _)⟩
                  · obtain ⟨r, hr⟩ : ∃ r, p = r + 1 := ⟨p - 1, (Nat.succ_pred_eq_of_pos (Nat.pos_of_ne_zero hp0)).symm⟩
                    obtain ⟨hrT, hri, hrTi, hpi, hpd, hpn⟩ := nums2 hr l4
                    have hbt : bt T r = 10 := by have h := l3 (Nat.pos_of_ne_zero hp0); rw [hr, Nat.add_sub_cancel] at h; exact h
                    have hget : (T[r]'hrT).toNat = 10 := by rw [← bt_get T r hrT, hbt]; rfl
                    clear hbt hr
                    gi_wp2
                    refine ⟨keeps_grown (grownBy_setCell' _ _ _) HI.out.1, ?_⟩
                    show Cnt v3 gn (A + (j + 1)) _
                    rw [HE.out]
                    exact ⟨HI.out.1.set _, grown_trans HI.out.2 (grownBy_setCell' _ _ _)⟩
                case done3 =>
                  intro D V hD hV hDV
                  have HV := hide hV
                  have HDV := hide hDV
                  have HMV : Hid (Marks w4.heap.size V ({ target := .collected D, args := #[] } :: ds)) := by
                    refine Marks.more HMK3.out HW4.out hD hDV (HMK3.out.kept (fun E hE h => (hV.2.block E (Array.getElem?_eq_some_iff.1 h).1 (fun e => ?_)).trans h))
                    have e2 : E = gn := Option.some.inj e
                    rw [e2, show v3.heap[gn]? = _ from HN3.out] at h
                    cases h
                  have HNV : Hid (Boxed V gn 3 (.int .i64 (ix T (pb T.size xs (k + 1)) : Nat))) := by
                    rw [HPS.out, HBB.out, show B = A + cnt S by have h1 := HIN.out.1; have h2 := HIN.out.2.1; omega]
                    exact hV.1
                  have HGV := hide (grown_trans HWK2.out (grown_trans (grown_below' HBK3.out gn) hV.2))
                  clear hV hDV
                  go_wp2_with fail
                  refine Handed.intro (gk - 1) (by have := HGK.out; omega) (HJ.out _ _ _ ⟨k + 1, by have := HGK.out; omega, ⟨rfl, rfl, rfl, rfl, rfl, rfl, by rw [HLS.out]; rfl, by rfl⟩, HMV.out, HNV.out, HGV.out⟩)
                case stop3 => intro _ _ _ _ _ _ h; exact h.elim
            · have hk1 : k = len + 1 := by have := HGK.out; omega
              subst hk1
              have HIL : Hid (ix T (pb T.size xs (len + 1)) = C) := by show _ = C; rw [pb_succ, show pe T.size xs len = T.size by have h := pe_last T.size xs; rw [HXL.out] at h; exact h, ix_size]; exact HC.out
              have HLL : Hid (lo T xs (len + 1) = T.size) := by
                show lf T (pb T.size xs (len + 1)) = T.size
                rw [pb_succ, show pe T.size xs len = T.size by have h := pe_last T.size xs; rw [HXL.out] at h; exact h, lf_ix T _ (Nat.le_refl _), ix_size, pl_cnt]
              rw [HIL.out] at HNK
              rw [HLL.out]
              have x20 := (HKX.out wk HG6K.out).cell
              have n20 := HNK.out.cell
              have a20 := (HKA.out wk HG6K.out).cell
              have HR20 := hide (HKR.out wk HG6K.out)
              have hq3 : ((T.size : Int) == (T.size : Int)) = true := by simp
              have hq4 : ((C : Int) == (C : Int)) = true := by simp
              go_wp2_with (go_at_call 17; refine (HWK.out _).mono ?_; rintro e w20 ⟨rfl, hb20⟩; have HB20 := hide hb20; have HR21 := hide (boxed_below HR20.out hb20); have r1 := HR21.out.cell; have r2 := HR21.out.frozen; clear hb20)
              exact leave_true hfr rfl HR21.out HRG.out HRL.out (Nat.le_trans (HKM.out wk HG6K.out) HB20.out.size) (below_trans (HKB.out wk HG6K.out) HB20.out) (HM.out.below HB20.out)
        · have HSP : Hid (Calls Try.prog 24 #[.string T, .slice a len cap] wr fun e w' => e = .returned (.tuple #[.slice none 0 0, .int .i64 2]) ∧ Below wr.heap.size wr w') := by
            have h := splits_walk T a cap xs wr (by omega) (by rw [HXL.out]; exact HRI.out.below HBW.out) (by rw [HXL.out]; exact hl)
            rw [HXL.out] at h
            refine h.mono fun e w' ⟨h1, h2⟩ => ?_
            rcases h1 with ⟨v, h3, h4, h5⟩ | ⟨h3, h4⟩
            · exact absurd h4 hfit
            · exact ⟨h3, h2⟩
          have hbig : 65536 < T.size := by
            by_cases hb : 65536 < T.size
            · exact hb
            · refine absurd (fun j hj => ?_) hfit
              have := lo_hi T xs j (by rw [HXL.out]; omega)
              omega
          have hbi : (65536 : Int) < (T.size : Int) := by omega
          have hbd : decide ((65536 : Int) < (T.size : Int)) = true := by simp; omega
          go_upto_region 23 with (go_at_call 24; refine HSP.out.mono ?_; rintro e w9 ⟨rfl, hb9⟩; have HB9 := hide hb9; clear hb9)
          clear x9 n9 a9
          have x10 := (boxed_below (HKX.out wr HG.out) HB9.out).cell
          have HR9 := hide (boxed_below (HKR.out wr HG.out) HB9.out)
          go_wp2_with (go_at_call 17; refine (HWK.out _).mono ?_; rintro e w10 ⟨rfl, hb10⟩; have HB10 := hide hb10; have HR10 := hide (boxed_below HR9.out hb10); have r1 := HR10.out.cell; have r2 := HR10.out.frozen; clear hb10)
          exact leave_true hfr rfl HR10.out HRG.out HRL.out (Nat.le_trans (HKM.out wr HG.out) (below_trans HB9.out HB10.out).size) (below_trans HBW.out (below_trans HB9.out HB10.out)) trivial
theorem walk (T : ByteArray) (a : Option Addr) (len cap : Nat) (xs : List Int) (w : World) (hs : T.size ≤ 1048576) (hr : RdI w a len xs) (_l : len ≤ cap) (_m : cap ≤ 1048576) :
    Calls Try.prog 8 #[.string T, .slice a len cap] w fun e w' => e = .returned (.bool true) ∧ Below w.heap.size w w' := onceWalk T a len cap xs w hs hr
end Go.Proofs.Ytmhebaknoginhaa.Ln
