/-
  Two sorted lists merged into a third.
-/
import Derived.Test.YtlbplicafcoifaaSoCut
import Derived.Deep.RegionHeldLaw
import Derived.Deep.RegionWith
import Derived.Deep.Cut
import Derived.Deep.CutRange
import Derived.Deep.QuietTactic
import Derived.BigQuiet
namespace Go.Proofs.Ytlbplicafcoifaa.So
open Go.ChangeShapes Go.WideShapes Go.ChangeAt Go.RowKit
open Go.Proofs.Ytlbplicafcoifaa.Base
set_option linter.unusedVariables false
theorem six_cells {W V : World} {g o1 o2 : Nat} {a0 a1 a2 b0 b1 b2 : Option Value} (hg : g < W.heap.size) (hV : Below W.heap.size W V) (h : (W.cell? ⟨g, o1, none⟩ = a0 ∧ W.cell? ⟨g, o1 + 1, none⟩ = a1 ∧ W.cell? ⟨g, o1 + 2, none⟩ = a2) ∧ W.cell? ⟨g, o2, none⟩ = b0 ∧ W.cell? ⟨g, o2 + 1, none⟩ = b1 ∧ W.cell? ⟨g, o2 + 2, none⟩ = b2) :
    (V.cell? ⟨g, o1, none⟩ = a0 ∧ V.cell? ⟨g, o1 + 1, none⟩ = a1 ∧ V.cell? ⟨g, o1 + 2, none⟩ = a2) ∧ V.cell? ⟨g, o2, none⟩ = b0 ∧ V.cell? ⟨g, o2 + 1, none⟩ = b1 ∧ V.cell? ⟨g, o2 + 2, none⟩ = b2 := by
  obtain ⟨⟨h0, h1, h2⟩, h3, h4, h5⟩ := h
  exact ⟨⟨(hV.cell (p := ⟨g, o1, none⟩) hg).trans h0, (hV.cell (p := ⟨g, o1 + 1, none⟩) hg).trans h1, (hV.cell (p := ⟨g, o1 + 2, none⟩) hg).trans h2⟩, (hV.cell (p := ⟨g, o2, none⟩) hg).trans h3, (hV.cell (p := ⟨g, o2 + 1, none⟩) hg).trans h4, (hV.cell (p := ⟨g, o2 + 2, none⟩) hg).trans h5⟩
theorem six_cells2 {W V : World} {g g' o1 o2 : Nat} {a0 a1 a2 b0 b1 b2 : Option Value} (hg : g < W.heap.size) (hg' : g' < W.heap.size) (hV : Below W.heap.size W V) (h : (W.cell? ⟨g, o1, none⟩ = a0 ∧ W.cell? ⟨g, o1 + 1, none⟩ = a1 ∧ W.cell? ⟨g, o1 + 2, none⟩ = a2) ∧ W.cell? ⟨g', o2, none⟩ = b0 ∧ W.cell? ⟨g', o2 + 1, none⟩ = b1 ∧ W.cell? ⟨g', o2 + 2, none⟩ = b2) :
    (V.cell? ⟨g, o1, none⟩ = a0 ∧ V.cell? ⟨g, o1 + 1, none⟩ = a1 ∧ V.cell? ⟨g, o1 + 2, none⟩ = a2) ∧ V.cell? ⟨g', o2, none⟩ = b0 ∧ V.cell? ⟨g', o2 + 1, none⟩ = b1 ∧ V.cell? ⟨g', o2 + 2, none⟩ = b2 := by
  obtain ⟨⟨h0, h1, h2⟩, h3, h4, h5⟩ := h
  exact ⟨⟨(hV.cell (p := ⟨g, o1, none⟩) hg).trans h0, (hV.cell (p := ⟨g, o1 + 1, none⟩) hg).trans h1, (hV.cell (p := ⟨g, o1 + 2, none⟩) hg).trans h2⟩, (hV.cell (p := ⟨g', o2, none⟩) hg').trans h3, (hV.cell (p := ⟨g', o2 + 1, none⟩) hg').trans h4, (hV.cell (p := ⟨g', o2 + 2, none⟩) hg').trans h5⟩
theorem grown_below {w w1 w2 : World} {q : Option Nat} (h : w.grownBy w1 q) (hb : Below w1.heap.size w1 w2) : w.grownBy w2 q :=
  ⟨hb.os.trans h.os, hb.tape.trans h.tape, hb.output.trans h.output, Nat.le_trans h.size hb.size, fun i hi hne => (hb.block i (Nat.lt_of_lt_of_le hi h.size)).trans (h.block i hi hne)⟩
theorem drop_cons {M r : List Rec} {i : Nat} {x : Rec} (h : x :: r = M.drop i) : M[i]? = some x ∧ r = M.drop (i + 1) := by
  have h1 : (M.drop i)[0]? = some x := by rw [← h]; rfl
  rw [List.getElem?_drop] at h1
  refine ⟨by simpa using h1, ?_⟩
  have h2 : (M.drop i).drop 1 = M.drop (i + 1) := by rw [List.drop_drop]
  rw [← h2, ← h]
  rfl
theorem addr_eq {g a b : Nat} (h : a = b) : (⟨g, a, none⟩ : Addr) = ⟨g, b, none⟩ := by rw [h]
theorem RA.drew {w : World} {g n : Nat} {F : Nat → Rec} (h : RA w g n F) : RA w.drew g n F := h.below (Below.refl _ _).drew h.lt
set_option maxHeartbeats 8000000 in
set_option maxRecDepth 100000 in
theorem mergeInto_any (gL gR N f m e co cl cr : Nat) (la ra : Addr) (F G : Nat → Rec) (w : World) (hL : RA w gL N F) (hR : RA w gR N G) (hne : gL ≠ gR) (hfm : f ≤ m) (hme : m ≤ e) (heN : e ≤ N) (hN : N ≤ 140737488355328)
    (hls : la.spot = none) (hla : f < m → la = ⟨gL, f * 3, none⟩) (hrs : ra.spot = none) (hra : m < e → ra = ⟨gL, m * 3, none⟩) (hcl : m - f ≤ cl) (hcr : e - m ≤ cr) (hK : ∀ j, j < N → (F j).k.size ≤ 9223372036854775807) (fn : Value) (hfn : fn = .func (.func 22) #[] #[]) :
    Calls Try.prog 25 #[.slice (some ⟨gR, f * 3, none⟩) (e - f) co, .slice (some la) (m - f) cl, .slice (some ra) (e - m) cr, fn] w fun e' w' => e' = .returned (.tuple #[]) ∧ RA w' gR N (putF G f (mrg (seg F f m) (seg F m e)) (e - f)) ∧ w.grownBy w' (some gR) ∧ Shp w w' gR := by
  subst hfn
  obtain ⟨n, hn⟩ : ∃ n, e - f = n := ⟨_, rfl⟩
  obtain ⟨M, hM⟩ : ∃ M, mrg (seg F f m) (seg F m e) = M := ⟨_, rfl⟩
  rw [hM]
  have HM := hide hM
  have HN := hide hn
  rw [hn]
  clear hM hn
  go_enter Try.func25, Try.ntmps25
  go_wp2_with fail
  go_loopw [1, 2, 11] (fun sl sr si wr => ∃ (a b : Nat) (la ra : Addr), f + a ≤ m ∧ m + b ≤ e ∧ .slice (some la) (m - (f + a)) (cl - a) = sl ∧ .slice (some ra) (e - (m + b)) (cr - b) = sr ∧ .int .i64 ((a + b : Nat) : Int) = si ∧
      la.spot = none ∧ ra.spot = none ∧ Hid (f + a < m → la = ⟨gL, (f + a) * 3, none⟩) ∧ Hid (m + b < e → ra = ⟨gL, (m + b) * 3, none⟩) ∧ Hid (mrg (seg F (f + a) m) (seg F (m + b) e) = M.drop (a + b)) ∧
      Hid (RA wr gL N F) ∧ Hid (RA wr gR N (putF G f M (a + b))) ∧ Hid (w.grownBy wr (some gR)) ∧ Hid (Shp w wr gR)) (fun _ _ si _ => n - (intOf si).toNat)
  case atStart => exact ⟨0, 0, la, ra, by omega, by omega, rfl, rfl, rfl, hls, hrs, hla, hra, by rw [List.drop_zero]; exact HM.out, hL, by rw [putF_zero]; exact hR, World.grownBy.refl _ _, Shp.refl _ _⟩
  case round =>
    obtain ⟨a, b, la2, ra2, ha, hb, rfl, rfl, rfl, hs1, hs2, HA, HB, HD, HL, HR, HG, HSP⟩ := hrel
    by_cases hi : a + b < n
    · have hii : ((a + b : Nat) : Int) < (n : Int) := by omega
      obtain ⟨i, hiab⟩ : ∃ i, a + b = i := ⟨_, rfl⟩
      obtain ⟨nl, hnl⟩ : ∃ nl, m - (f + a) = nl := ⟨_, rfl⟩
      obtain ⟨nr, hnr⟩ : ∃ nr, e - (m + b) = nr := ⟨_, rfl⟩
      obtain ⟨c1, hc1⟩ : ∃ c, cl - a = c := ⟨_, rfl⟩
      obtain ⟨c2, hc2⟩ : ∃ c, cr - b = c := ⟨_, rfl⟩
      rw [hiab] at hii hi HR HD
      rw [hiab, hnl, hnr, hc1, hc2]
      have HE := hide (And.intro hiab (And.intro hnl (And.intro hnr (And.intro hc1 hc2))))
      clear hiab hnl hnr hc1 hc2
      obtain ⟨o1, ho1⟩ : ∃ o, (f + a) * 3 = o := ⟨_, rfl⟩
      obtain ⟨o2, ho2⟩ : ∃ o, (m + b) * 3 = o := ⟨_, rfl⟩
      rw [ho1] at HA
      rw [ho2] at HB
      have HO1 := hide ho1
      have HO2 := hide ho2
      clear ho1 ho2
      have hlen : nl + nr + i = n := by obtain ⟨e1, e2, e3, e4, e5⟩ := HE.out; have := HN.out; omega
      have hnb : n ≤ 140737488355328 := by have := HN.out; omega
      go_upto_region 3 with fail
      go_cut [11, 32] from 11 to 49 (fun s11 s32 wx => .int .i64 (i : Int) = s11 ∧ ∃ tk : Bool, .bool tk = s32 ∧ Hid (tk = true → f + a < m ∧ (e ≤ m + b ∨ le (F (f + a)) (F (m + b)) = true)) ∧ Hid (tk = false → m + b < e ∧ (m ≤ f + a ∨ le (F (f + a)) (F (m + b)) = false)) ∧ Hid (Below wr.heap.size wr wx))
      case first =>
        by_cases hr0 : nr = 0
        · subst hr0
          have hT : Hid (f + a < m ∧ (e ≤ m + b ∨ le (F (f + a)) (F (m + b)) = true)) := by obtain ⟨e1, e2, e3, e4, e5⟩ := HE.out; exact ⟨by omega, .inl (by omega)⟩
          go_quiet (fail)
          go_wp2_with fail
          go_meet
          case rel => exact ⟨rfl, true, rfl, (fun _ => hT.out), (fun h => nomatch h), by first | exact (below_drewN' _ _ _) | exact (Below.refl _ _).drew⟩
        · have hrb : ((nr : Int) == 0) = false := by rw [beq_eq_false_iff_ne]; omega
          by_cases hl0 : nl = 0
          · subst hl0
            have hT : Hid (m + b < e ∧ (m ≤ f + a ∨ le (F (f + a)) (F (m + b)) = false)) := by obtain ⟨e1, e2, e3, e4, e5⟩ := HE.out; exact ⟨by omega, .inl (by omega)⟩
            go_quiet (fail)
            go_wp2_with fail
            go_meet
            case rel => exact ⟨rfl, false, rfl, (fun h => nomatch h), (fun _ => hT.out), by first | exact (below_drewN' _ _ _) | exact (Below.refl _ _).drew⟩
          · have hlb : decide ((0 : Int) < (nl : Int)) = true := by simp; omega
            have hli : (0 : Int) < (nl : Int) := by omega
            have hri : (0 : Int) < (nr : Int) := by omega
            obtain ⟨hfa, hmb⟩ : f + a < m ∧ m + b < e := by obtain ⟨e1, e2, e3, e4, e5⟩ := HE.out; omega
            have hl2 := HA.out hfa
            have hr2 := HB.out hmb
            subst hl2 hr2
            obtain ⟨p0, p1, p2⟩ := HL.out.cells (f + a) (by omega)
            obtain ⟨q0, q1, q2⟩ := HL.out.cells (m + b) (by omega)
            have HC := hide (fun W => cmp_any (F (f + a)) (F (m + b)) W (hK _ (by omega)) (hK _ (by omega)))
            obtain ⟨z, hz⟩ : ∃ z, cmpR (F (f + a)) (F (m + b)) = z := ⟨_, rfl⟩
            rw [hz] at HC
            have HZ := hide hz
            have HZ2 := hide hz
            clear hz
            unfold Rec.val at HC
            generalize F (f + a) = x at p0 p1 p2 HC HZ
            generalize F (m + b) = y at q0 q1 q2 HC HZ
            rw [HO1.out] at p0 p1 p2
            rw [HO2.out] at q0 q1 q2
            have HS : Hid ((wr.cell? ⟨gL, o1, none⟩ = some (.int .i64 x.p) ∧ wr.cell? ⟨gL, o1 + 1, none⟩ = some (.string x.k) ∧ wr.cell? ⟨gL, o1 + 2, none⟩ = some (.string x.v)) ∧ wr.cell? ⟨gL, o2, none⟩ = some (.int .i64 y.p) ∧ wr.cell? ⟨gL, o2 + 1, none⟩ = some (.string y.k) ∧ wr.cell? ⟨gL, o2 + 2, none⟩ = some (.string y.v)) := ⟨⟨p0, p1, p2⟩, q0, q1, q2⟩
            by_cases hz : z ≤ 0
            · have hzd : decide (z ≤ 0) = true := by simpa using hz
              first | (go_region_held_law (fun V => (V.cell? ⟨gL, o1, none⟩ = some (.int .i64 x.p) ∧ V.cell? ⟨gL, o1 + 1, none⟩ = some (.string x.k) ∧ V.cell? ⟨gL, o1 + 2, none⟩ = some (.string x.v)) ∧ V.cell? ⟨gL, o2, none⟩ = some (.int .i64 y.p) ∧ V.cell? ⟨gL, o2 + 1, none⟩ = some (.string y.k) ∧ V.cell? ⟨gL, o2 + 2, none⟩ = some (.string y.v)) (first | exact E6.out | go_keep) (first
                | (go_at_call 22; refine (HC.out _).mono ?_; rintro e w6 ⟨rfl, hb6⟩; have hbw : Below wr.heap.size wr w6 := below_trans ((Below.refl _ _).drew) hb6; have HB6 := hide hbw; have E6 := hide (six_cells HL.out.lt hbw HS.out); clear hb6 hbw))) | fail
              all_goals
                go_wp2_with fail
                go_meet
                case rel => exact ⟨rfl, true, rfl, (fun _ => ⟨hfa, .inr ((le_iff _ _).2 (by have := HZ2.out; omega))⟩), (fun h => nomatch h), HB6.out⟩
            · have hzd : decide (z ≤ 0) = false := by simpa using hz
              first | (go_region_held_law (fun V => (V.cell? ⟨gL, o1, none⟩ = some (.int .i64 x.p) ∧ V.cell? ⟨gL, o1 + 1, none⟩ = some (.string x.k) ∧ V.cell? ⟨gL, o1 + 2, none⟩ = some (.string x.v)) ∧ V.cell? ⟨gL, o2, none⟩ = some (.int .i64 y.p) ∧ V.cell? ⟨gL, o2 + 1, none⟩ = some (.string y.k) ∧ V.cell? ⟨gL, o2 + 2, none⟩ = some (.string y.v)) (first | exact E6.out | go_keep) (first
                | (go_at_call 22; refine (HC.out _).mono ?_; rintro e w6 ⟨rfl, hb6⟩; have hbw : Below wr.heap.size wr w6 := below_trans ((Below.refl _ _).drew) hb6; have HB6 := hide hbw; have E6 := hide (six_cells HL.out.lt hbw HS.out); clear hb6 hbw))) | fail
              all_goals
                go_wp2_with fail
                go_meet
                case rel => exact ⟨rfl, false, rfl, (fun h => nomatch h), (fun _ => ⟨hmb, .inr ((le_not _ _).2 (by have := HZ2.out; omega))⟩), HB6.out⟩
      case rest =>
        obtain ⟨rfl, tk, rfl, HT1, HT2, HBX⟩ := hcut
        have HL2 := hide (HL.out.below HBX.out HL.out.lt)
        have HR2 := hide (HR.out.below HBX.out HR.out.lt)
        have HG2 : Hid (w.grownBy wc (some gR)) := grown_below HG.out HBX.out
        have HSP2 := hide (HSP.out.same (HBX.out.block gR HR.out.lt))
        clear HL HR HG HSP
        have hin : i < n := by omega
        have e3 : (f + i) * 3 = f * 3 + i * 3 := by omega
        obtain ⟨r0, r1, r2⟩ := HR2.out.cells (f + i) (by have := HN.out; omega)
        have g0 := HR2.out.frozen (f * 3 + i * 3)
        have g1 := HR2.out.frozen (f * 3 + i * 3 + 1)
        have g2 := HR2.out.frozen (f * 3 + i * 3 + 2)
        rw [e3] at r0 r1 r2
        have HE3 := hide e3
        clear e3
        generalize putF G f M i (f + i) = old at r0 r1 r2
        obtain ⟨o3, ho3⟩ : ∃ o, f * 3 + i * 3 = o := ⟨_, rfl⟩
        rw [ho3] at r0 r1 r2 g0 g1 g2 HE3
        have HE := HE
        cases tk with
        | true =>
          obtain ⟨hfa, hle⟩ := HT1.out rfl
          have hl2 := HA.out hfa
          subst hl2
          have HLE := hide hle
          clear hle
          obtain ⟨p0, p1, p2⟩ := HL2.out.cells (f + a) (by omega)
          rw [HO1.out] at p0 p1 p2
          obtain ⟨la3, hsl, hla3, hls3⟩ := cutR_l ⟨gL, o1, none⟩ rfl nl c1 1 (by obtain ⟨e1, e2, e3, e4, e5⟩ := HE.out; omega) (by obtain ⟨e1, e2, e3, e4, e5⟩ := HE.out; omega)
          have hsl1 : ∀ W, (Instr.sliceAt 38 (.slice (some ⟨gL, o1, none⟩) nl c1) (some (.int .i64 1)) none none).run Try.prog W = .ok (.slice (some la3) (nl - 1) (c1 - 1)) W := fun W => hsl W
          have HLA3 := hide hla3
          clear hsl hla3
          have hnl0 : (0 : Int) < (nl : Int) := by obtain ⟨e1, e2, e3, e4, e5⟩ := HE.out; omega
          generalize hx : F (f + a) = x at p0 p1 p2
          have HX := hide hx
          clear hx
          have HST := hide (drop_cons ((mrg_left F (f + a) m (m + b) e hfa HLE.out).symm.trans HD.out))
          have HRN : Hid (RA (((wc.setCell ⟨gR, o3, none⟩ (.int .i64 x.p)).setCell ⟨gR, o3 + 1, none⟩ (.string x.k)).setCell ⟨gR, o3 + 2, none⟩ (.string x.v)) gR N (putF G f M (i + 1))) := by
            have h1 := HR2.out.set (f + i) (by have := HN.out; omega) x
            rw [HE3.out] at h1
            rw [← putF_next G f M i x (by rw [← HX.out]; exact HST.out.1)]
            exact h1
          have HGC : Hid (wc.grownBy (((wc.setCell ⟨gR, o3, none⟩ (.int .i64 x.p)).setCell ⟨gR, o3 + 1, none⟩ (.string x.k)).setCell ⟨gR, o3 + 2, none⟩ (.string x.v)) (some gR)) := grown_cell (grown_cell (grown_cell (World.grownBy.refl _ _) _ _) _ _) _ _
          have HLN := hide (HL2.out.grown HGC.out (by simpa using fun q => hne q.symm))
          have HGN := hide (HG2.out.trans HGC.out)
          have HSN := hide (((HSP2.out.set o3 (.int .i64 x.p)).set (o3 + 1) (.string x.k)).set (o3 + 2) (.string x.v))
          clear HL2 HR2 HG2
          go_wp2_with fail
          go_region_with (fail)
          all_goals
            go_wp2_with fail
            go_roundw
            case rel =>
              obtain ⟨e1, e2, e3, e4, e5⟩ := HE.out
              exact ⟨a + 1, b, la3, ra2, by omega, by omega, by rw [show m - (f + (a + 1)) = nl - 1 by omega, show cl - (a + 1) = c1 - 1 by omega], by rw [e3, e5], by rw [show ((a + 1 + b : Nat) : Int) = (i : Int) + 1 by omega], hls3, hs2, (fun h => (HLA3.out (by omega)).trans (addr_eq (by have := HO1.out; omega))), (fun h => by rw [HB.out h, HO2.out]), (by rw [show a + 1 + b = i + 1 by omega]; exact HST.out.2), HLN.out.drew, (by rw [show a + 1 + b = i + 1 by omega]; exact HRN.out.drew), grown_below HGN.out (Below.refl _ _).drew, HSN.out.same ((Below.refl _ _).drew.block gR HRN.out.lt)⟩
            case measure => simp [intOf]; omega
        | false =>
          obtain ⟨hmb, hle⟩ := HT2.out rfl
          have hl2 := HB.out hmb
          subst hl2
          have HLE := hide hle
          clear hle
          obtain ⟨p0, p1, p2⟩ := HL2.out.cells (m + b) (by omega)
          rw [HO2.out] at p0 p1 p2
          obtain ⟨la3, hsl, hla3, hls3⟩ := cutR_l ⟨gL, o2, none⟩ rfl nr c2 1 (by obtain ⟨e1, e2, e3, e4, e5⟩ := HE.out; omega) (by obtain ⟨e1, e2, e3, e4, e5⟩ := HE.out; omega)
          have hsl1 : ∀ W, (Instr.sliceAt 38 (.slice (some ⟨gL, o2, none⟩) nr c2) (some (.int .i64 1)) none none).run Try.prog W = .ok (.slice (some la3) (nr - 1) (c2 - 1)) W := fun W => hsl W
          have HLA3 := hide hla3
          clear hsl hla3
          have hnl0 : (0 : Int) < (nr : Int) := by obtain ⟨e1, e2, e3, e4, e5⟩ := HE.out; omega
          generalize hx : F (m + b) = x at p0 p1 p2
          have HX := hide hx
          clear hx
          have HST := hide (drop_cons ((mrg_right F (f + a) m (m + b) e hmb HLE.out).symm.trans HD.out))
          have HRN : Hid (RA (((wc.setCell ⟨gR, o3, none⟩ (.int .i64 x.p)).setCell ⟨gR, o3 + 1, none⟩ (.string x.k)).setCell ⟨gR, o3 + 2, none⟩ (.string x.v)) gR N (putF G f M (i + 1))) := by
            have h1 := HR2.out.set (f + i) (by have := HN.out; omega) x
            rw [HE3.out] at h1
            rw [← putF_next G f M i x (by rw [← HX.out]; exact HST.out.1)]
            exact h1
          have HGC : Hid (wc.grownBy (((wc.setCell ⟨gR, o3, none⟩ (.int .i64 x.p)).setCell ⟨gR, o3 + 1, none⟩ (.string x.k)).setCell ⟨gR, o3 + 2, none⟩ (.string x.v)) (some gR)) := grown_cell (grown_cell (grown_cell (World.grownBy.refl _ _) _ _) _ _) _ _
          have HLN := hide (HL2.out.grown HGC.out (by simpa using fun q => hne q.symm))
          have HGN := hide (HG2.out.trans HGC.out)
          have HSN := hide (((HSP2.out.set o3 (.int .i64 x.p)).set (o3 + 1) (.string x.k)).set (o3 + 2) (.string x.v))
          clear HL2 HR2 HG2
          go_wp2_with fail
          go_region_with (fail)
          all_goals
            go_wp2_with fail
            go_roundw
            case rel =>
              obtain ⟨e1, e2, e3, e4, e5⟩ := HE.out
              exact ⟨a, b + 1, la2, la3, by omega, by omega, by rw [e2, e4], by rw [show e - (m + (b + 1)) = nr - 1 by omega, show cr - (b + 1) = c2 - 1 by omega], by rw [show ((a + (b + 1) : Nat) : Int) = (i : Int) + 1 by omega], hs1, hls3, (fun h => by rw [HA.out h, HO1.out]), (fun h => (HLA3.out (by omega)).trans (addr_eq (by have := HO2.out; omega))), (by rw [show a + (b + 1) = i + 1 by omega]; exact HST.out.2), HLN.out.drew, (by rw [show a + (b + 1) = i + 1 by omega]; exact HRN.out.drew), grown_below HGN.out (Below.refl _ _).drew, HSN.out.same ((Below.refl _ _).drew.block gR HRN.out.lt)⟩
            case measure => simp [intOf]; omega
    · obtain rfl : n = a + b := by have := HN.out; omega
      go_wp2_with fail
      refine bodyPost_end (results_none rfl _ _ _) rfl ?_
      exact ⟨rfl, HR.out, HG.out, HSP.out⟩
end Go.Proofs.Ytlbplicafcoifaa.So
