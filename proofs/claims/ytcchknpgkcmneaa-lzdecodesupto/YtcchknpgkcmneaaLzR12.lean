/-
  The document's own answer: Tokens.
-/
import Derived.Test.YtcchknpgkcmneaaLzR11
import Derived.Test.YtcchknpgkcmneaaLzR8
import Derived.Test.YtcchknpgkcmneaaLzR1
import Derived.Test.YtcchknpgkcmneaaLzC8
namespace Go.Proofs.Ytcchknpgkcmneaa.Lz
open Go.ChangeShapes Go.WideShapes Go.ChangeAt Go.RowKit
open Go.Proofs.Ytcchknpgkcmneaa.Base Go.Proofs.Ytcchknpgkcmneaa.Nums
set_option linter.unusedVariables false
theorem refNum_cases (bs : List (BitVec 8)) (p : Nat) (hp : p ≤ bs.length) : refNum bs p = (-1, p) ∨ ∃ u k : Nat, refNum bs p = ((u : Int), p + k) ∧ u ≤ 65536 ∧ 1 ≤ k ∧ p + k ≤ bs.length := by
  rcases get_good (bs.drop p) with g | ⟨u, k, g, k1, k2⟩
  · exact .inl (refNum_bad g)
  · rw [List.length_drop] at k2
    rw [refNum_get g]
    by_cases hu : 65536 < u
    · rw [if_pos hu]; exact .inl rfl
    · rw [if_neg hu]; exact .inr ⟨u, k, rfl, by omega, k1, by omega⟩
theorem get_nine (b : List (BitVec 8)) : (get b).2.1 ≤ 9 := by
  rcases get_cases b with ⟨u, m, g1, g2, g3, _⟩ | ⟨g1, _⟩ | ⟨g1, _⟩ <;> rw [g1] <;> simp
  exact g3
theorem first_none {bs : List (BitVec 8)} {p h n : Nat} (hp : p ≤ bs.length) (hh : h < n) (hn : n ≤ 65536) (e : refTok bs p h n = none) : first (bs.drop p) h n = none := by
  rw [first_ref bs p h n hp hh hn] at e
  cases hf : first (bs.drop p) h n with
  | none => rfl
  | some r => rw [hf] at e; cases e
theorem first_took {bs : List (BitVec 8)} {p h n q : Nat} {t : Tok} (hp : p ≤ bs.length) (hh : h < n) (hn : n ≤ 65536) (e : refTok bs p h n = some (t, q)) : ∃ s, first (bs.drop p) h n = some (t, s) ∧ q = p + s := by
  rw [first_ref bs p h n hp hh hn] at e
  cases hf : first (bs.drop p) h n with
  | none => rw [hf] at e; cases e
  | some r =>
    rw [hf] at e
    obtain ⟨t', s⟩ := r
    simp only [Option.map_some, Option.some.injEq, Prod.mk.injEq] at e
    obtain ⟨rfl, rfl⟩ := e
    exact ⟨s, rfl, rfl⟩
/-- One token more is read. -/
theorem read_more {bs : List (BitVec 8)} {p h n q : Nat} {t : Tok} {ts : List Tok} (hp : p ≤ bs.length) (hh : h < n) (hn : n ≤ 65536) (e : refTok bs p h n = some (t, q)) (hr : read bs 0 n = (ts ++ (read (bs.drop p) h n).1, (read (bs.drop p) h n).2)) :
    read bs 0 n = ((ts ++ [t]) ++ (read (bs.drop q) (h + t.lit.length + t.len.toNat) n).1, (read (bs.drop q) (h + t.lit.length + t.len.toNat) n).2) := by
  obtain ⟨s, e2, rfl⟩ := first_took hp hh hn e
  rw [read_next _ _ _ _ _ hh hn e2, List.drop_drop] at hr
  rw [hr, List.append_assoc]; rfl
theorem read_stop {bs : List (BitVec 8)} {p h n : Nat} {ts : List Tok} (hp : p ≤ bs.length) (hh : h < n) (hn : n ≤ 65536) (e : refTok bs p h n = none) (hr : read bs 0 n = (ts ++ (read (bs.drop p) h n).1, (read (bs.drop p) h n).2)) : (read bs 0 n).2 = 30 := by
  rw [read_fail _ _ _ hh hn (first_none hp hh hn e)] at hr
  rw [hr]
theorem toked_bad {bs : List (BitVec 8)} {n : Nat} (hn : n ≤ 65536) (h : (read bs 0 n).2 = 30) : toked bs (n : Int) = ([], 30) := by
  unfold toked
  rw [if_neg (by omega), Int.toNat_natCast, if_neg (by omega), h]
theorem toked_good {bs : List (BitVec 8)} {n : Nat} {ts : List Tok} (hn : n ≤ 65536) (h : read bs 0 n = (ts, 0)) : toked bs (n : Int) = (ts, 0) := by
  unfold toked
  rw [if_neg (by omega), Int.toNat_natCast, h, if_pos rfl]
theorem slice_lh2 (b off len cap p c e : Nat) (he : p + c = e) (h : e ≤ cap) : ∃ la : Addr, (∀ W, (Instr.sliceAt 22 (.slice (some ⟨b, off, none⟩) len cap) (some (.int .i64 (p : Int))) (some (.int .i64 (e : Int))) none).run Try.prog W = .ok (.slice (some la) c (cap - p)) W) ∧ (0 < c → la = ⟨b, off + p, none⟩) := by
  by_cases h0 : 0 < cap - p
  · exact ⟨_, slice_lh b off len cap p c e (cap - p) he h (by omega) h0, fun _ => rfl⟩
  · refine ⟨⟨b, off, none⟩, fun W => ?_, fun hc => by omega⟩
    have e1 : p = cap := by omega
    have e2 : c = 0 := by omega
    subst e1 e2
    have e3 : e = p := by omega
    subst e3
    rw [run_sliceAt_slice (h := elem8), run_slice_lh (ht := elem8) (h0 := by omega) (h1 := by omega) (h2 := by omega), size8]
    simp [Result.andThen, sliced]
theorem RToks.apart {w w' : World} {base g : Nat} {v : Value} {ps : List (Value × Tok)} (h : RToks w base v ps) (hg : w.grownBy w' (some g)) (h1 : (∀ i, v.ownBlock = some i → i ≠ g) ∧ ∀ p, p ∈ ps → ∀ i, p.1.ownBlock = some i → i ≠ g) : RToks w' base v ps := by
  refine ⟨World.ownsRow.kept (row := some g) h.row hg ?_, fun p hp => Base.keep (h.lits p hp) hg (fun i j e1 e2 e => h1.2 p hp i e1 (by have := Option.some.inj e2; omega))⟩
  cases hv : v.ownBlock with
  | none => exact .inl rfl
  | some i => exact .inr (fun e => h1.1 i hv (Option.some.inj e))
theorem RToks.old {w : World} {base : Nat} {v : Value} {ps : List (Value × Tok)} (h : RToks w base v ps) : (∀ i, v.ownBlock = some i → i ≠ w.heap.size) ∧ ∀ p, p ∈ ps → ∀ i, p.1.ownBlock = some i → i ≠ w.heap.size :=
  ⟨fun i e => Nat.ne_of_lt (World.ownsRow.lt h.row i e).2, fun p hp i e => Nat.ne_of_lt (blk (h.lits p hp) i e).2⟩
theorem own_ne_trow {w : World} {base g : Nat} {u v : Value} {d l : Int} {xs : List (BitVec 8)} (h : Own w base u xs) (hf : TRow w g v d l) : ∀ i, u.ownBlock = some i → i ≠ g := by
  rintro i e rfl
  rcases h.2 with ⟨rfl, _⟩ | ⟨g', cap, cur, rfl, h2, h3, _⟩
  · cases e
  · have e3 : g' = i := Option.some.inj e
    subst e3
    unfold TRow at hf
    rw [h3] at hf
    have := Option.some.inj hf
    simp only [Obj.cells.injEq] at this
    exact absurd this.2.1 (by decide)
theorem set_cell_grown (w : World) (g k : Nat) (u : Value) : w.grownBy (w.setCell ⟨g, k, none⟩ u) (some g) := ⟨rfl, rfl, rfl, by simp [World.setCell], fun i _ hi => heap_setCell_other w ⟨g, k, none⟩ i u (fun e => hi (by rw [e]))⟩
theorem set_lit {w w5 : World} {g : Nat} {u x : Value} {d l : Int} {lit : List (BitVec 8)} {v : Value} {ps : List (Value × Tok)} (hT : TRow w5 g x d l) (hO : Own w5 w.heap.size u lit) (hS : RToks w5 w.heap.size v ps) (hB : Below w.heap.size w w5) (hv : (∀ i, v.ownBlock = some i → i ≠ g) ∧ ∀ p, p ∈ ps → ∀ i, p.1.ownBlock = some i → i ≠ g) (hg : w.heap.size ≤ g) :
    ∃ w6, w5.setCell ⟨g, 0, none⟩ u = w6 ∧ Hid (TRow w6 g u d l) ∧ Hid (Own w6 w.heap.size u lit) ∧ Hid (RToks w6 w.heap.size v ps) ∧ Hid (Below w.heap.size w w6) := by
  have hG := set_cell_grown w5 g 0 u
  exact ⟨_, rfl, heap_setCell_same _ _ _ _ _ _ hT, Base.keep hO hG (fun i j e1 e2 e => own_ne_trow hO hT i e1 (by have := Option.some.inj e2; omega)), hS.apart hG hv, hB.grown hG hB.size (fun i e => by have := Option.some.inj e; omega)⟩
theorem set_num {w w8 : World} {g : Nat} {u : Value} {lit : List (BitVec 8)} {v : Value} {ps : List (Value × Tok)} (hT : TRow w8 g u 0 0) (hO : Own w8 w.heap.size u lit) (hS : RToks w8 w.heap.size v ps) (hB : Below w.heap.size w w8) (hv : (∀ i, v.ownBlock = some i → i ≠ g) ∧ ∀ p, p ∈ ps → ∀ i, p.1.ownBlock = some i → i ≠ g) (hg : w.heap.size ≤ g) (m d : Int) :
    ∃ w9, (w8.setCell ⟨g, 2, none⟩ (.int .i64 (m + 4))).setCell ⟨g, 1, none⟩ (.int .i64 d) = w9 ∧ Hid (TRow (w8.setCell ⟨g, 2, none⟩ (.int .i64 (m + 4))) g u 0 (m + 4)) ∧ Hid (TRow w9 g u d (m + 4)) ∧ Hid (Own w9 w.heap.size u lit) ∧ Hid (RToks w9 w.heap.size v ps) ∧ Hid (Below w.heap.size w w9) := by
  have hG := grown_trans (set_cell_grown w8 g 2 (.int .i64 (m + 4))) (set_cell_grown _ g 1 (.int .i64 d))
  have h1 : TRow (w8.setCell ⟨g, 2, none⟩ (.int .i64 (m + 4))) g u 0 (m + 4) := heap_setCell_same _ _ _ _ _ _ hT
  exact ⟨_, rfl, h1, heap_setCell_same _ _ _ _ _ _ h1, Base.keep hO hG (fun i j e1 e2 e => own_ne_trow hO hT i e1 (by have := Option.some.inj e2; omega)), hS.apart hG hv, hB.grown hG hB.size (fun i e => by have := Option.some.inj e; omega)⟩
set_option maxHeartbeats 2000000 in
set_option maxRecDepth 100000 in
theorem refTokens_some (bb off len cap : Nat) (bs : List (BitVec 8)) (N : Nat) (w : World) (hr : Rd w (some ⟨bb, off, none⟩) len bs) (hcap : len ≤ cap) (hm : cap ≤ 9223372036854775807) (hN : N ≤ 65536) :
    Calls Try.prog 27 #[.slice (some ⟨bb, off, none⟩) len cap, .int .i64 (N : Int)] w fun e w' => ∃ v ps, e = .returned (.tuple #[v, .int .i64 ((toked bs (N : Int)).2 : Nat)]) ∧ RToks w' w.heap.size v ps ∧ ps.map (·.2) = (toked bs (N : Int)).1 ∧ Below w.heap.size w w' := by
  have HR := hide hr
  have HL := hide hr.1
  have hlm := hr.2.1
  have hlmi : (len : Int) ≤ 140737488355328 := by omega
  have hNi : (N : Int) ≤ 65536 := by omega
  obtain ⟨T, hT⟩ : ∃ T, toked bs (N : Int) = T := ⟨_, rfl⟩
  have HBADT : Hid ((read bs 0 N).2 = 30 → T = ([], 30)) := fun h => hT.symm.trans (toked_bad hN h)
  have HGOODT : Hid (∀ ts, read bs 0 N = (ts, 0) → T = (ts, 0)) := fun ts h => hT.symm.trans (toked_good hN h)
  rw [hT]
  obtain ⟨iT, hiT, hT0, hT1, hT2⟩ := info_parts infoT
  clear hr hT
  go_enter Try.func27, Try.ntmps27
  go_wp2_with fail
  go_loopw [6, 7, 8] (fun v i j wr => ∃ (p h : Nat) (va : Option Addr) (vn vc : Nat) (ps : List (Value × Tok)), v = .slice va vn vc ∧ i = .int .i64 (p : Int) ∧ j = .int .i64 (h : Int) ∧ p ≤ len ∧ h ≤ N ∧ ps.length ≤ h ∧ Hid (vn = ps.length) ∧ Hid (RToks wr w.heap.size (.slice va vn vc) ps) ∧ Hid (read bs 0 N = (ps.map (·.2) ++ (read (bs.drop p) h N).1, (read (bs.drop p) h N).2)) ∧ Hid (Below w.heap.size w wr)) (fun _ _ j _ => N - (intOf j).toNat)
  case atStart => exact ⟨0, 0, none, 0, 0, [], rfl, rfl, rfl, Nat.zero_le _, Nat.zero_le _, Nat.zero_le _, rfl, rtoks_none _ _, rfl, Below.refl _ _⟩
  case round =>
    obtain ⟨p, h, va, vn, vc, ps, rfl, rfl, rfl, hp, hhN, hpl, HVN, HTS, HRE, HB⟩ := hrel
    by_cases hlt : h < N
    · have hhi : (h : Int) < (N : Int) := by omega
      obtain ⟨w1, hw1⟩ : ∃ w1, wr.alloc (.cells #[.slice none 0 0, .int .i64 0, .int .i64 0] 61) = w1 := ⟨_, rfl⟩
      have HT1 : Hid (TRow w1 wr.heap.size (.slice none 0 0) 0 0) := by rw [← hw1]; exact TRow.new _ _ _ _
      have HBr1 : Hid (Below wr.heap.size wr w1) := by rw [← hw1]; exact (Below.refl _ _).alloc (Nat.le_refl _) _
      have HWR : Hid (w.heap.size ≤ wr.heap.size) := HB.out.size
      obtain ⟨g, hg⟩ : ∃ g, wr.heap.size = g := ⟨_, rfl⟩
      have HG := hide hg
      rw [hg] at HT1
      have HB1 := hide (below_trans HB.out HBr1.out)
      have HTS1 := hide (HTS.out.below HBr1.out)
      have HNC : Hid (∀ p', p' ≤ len → ∀ W, Below w.heap.size w W → Calls Try.prog 68 #[.slice (some ⟨bb, off, none⟩) len cap, .int .i64 (p' : Int)] W fun e w' => e = .returned (.tuple #[.int .i64 (refNum bs p').1, .int .i64 ((refNum bs p').2 : Nat)]) ∧ Below W.heap.size W w') := fun p' h1 W hW =>
        refNumber_some bb off len cap p' bs W (HR.out.below hW) hcap hm h1 (get_nine _)
      have HVB := hide HTS.out.old
      rw [hg] at HVB
      have HGW : Hid (w.heap.size ≤ g) := by show _ ≤ _; rw [← hg]; exact HWR.out
      have HPL : Hid (p ≤ bs.length) := by show _ ≤ _; have := HL.out; omega
      have HSTOP : Hid (refTok bs p h N = none → T = ([], 30)) := fun e => HBADT.out (read_stop HPL.out hlt hN e HRE.out)
      have HMORE : Hid (∀ t q, refTok bs p h N = some (t, q) → read bs 0 N = ((ps.map (·.2) ++ [t]) ++ (read (bs.drop q) (h + t.lit.length + t.len.toNat) N).1, (read (bs.drop q) (h + t.lit.length + t.len.toNat) N).2)) := fun t q e => read_more HPL.out hlt hN e HRE.out
      have HC1 := hide (HNC.out p hp w1 HB1.out)
      go_wp2_with fail
      refine HC1.out.mono ?_
      rintro e w2 ⟨rfl, hb2⟩
      have HB2 := hide (below_trans HB1.out hb2)
      have HTS2 := hide (HTS1.out.below hb2)
      have HT2 := hide (HT1.out.below hb2)
      have HBr2 := hide (below_trans HBr1.out hb2)
      clear hb2 HC1
      rcases refNum_cases bs p HPL.out with hrn | ⟨u, k, hrn, hu, hk1, hk2⟩
      · rw [hrn]
        have HE2 := hide (HSTOP.out (refTok1 hrn))
        have hneg : (-1 : Int) < 0 := by decide
        clear hrn
        go_wp2_with fail
        go_ret2
        rw [HE2.out]
        first | exact ⟨_, [], rfl, rtoks_none _ _, rfl, HB2.out⟩ | exact ⟨_, rfl, [], rtoks_none _ _, rfl, HB2.out⟩ | exact ⟨_, rfl, ⟨[], rtoks_none _ _, rfl⟩, HB2.out⟩ | (refine ⟨_, rfl, [], rtoks_none _ _, ?_, HB2.out⟩; first | rfl | simp)
      · have HRN := hide hrn
        rw [hrn]
        simp only
        have hk2' : p + k ≤ len := by have := HL.out; omega
        have hui : (u : Int) ≤ 65536 := by omega
        have hnn : ¬ (u : Int) < 0 := by omega
        have hpki : ((p + k : Nat) : Int) ≤ (len : Int) := by omega
        clear hrn
        obtain ⟨q, hq⟩ : ∃ q, p + k = q := ⟨_, rfl⟩
        have HQ := hide hq
        rw [hq] at hpki hk2' ⊢
        by_cases hbad : (len : Int) - (q : Int) < (u : Int) ∨ (N : Int) < (h : Int) + (u : Int)
        · have HE2 := hide (HSTOP.out (refTok2 HRN.out (by rw [HL.out, hq]; exact hbad)))
          clear hq
          by_cases hb1 : (len : Int) - (q : Int) < (u : Int)
          · skip
            go_wp2_with fail
            go_ret2
            rw [HE2.out]
            first | exact ⟨_, [], rfl, rtoks_none _ _, rfl, HB2.out⟩ | exact ⟨_, rfl, [], rtoks_none _ _, rfl, HB2.out⟩ | exact ⟨_, rfl, ⟨[], rtoks_none _ _, rfl⟩, HB2.out⟩ | (refine ⟨_, rfl, [], rtoks_none _ _, ?_, HB2.out⟩; first | rfl | simp)
          · have hb2 : (N : Int) < (h : Int) + (u : Int) := by omega
            go_wp2_with fail
            go_ret2
            rw [HE2.out]
            first | exact ⟨_, [], rfl, rtoks_none _ _, rfl, HB2.out⟩ | exact ⟨_, rfl, [], rtoks_none _ _, rfl, HB2.out⟩ | exact ⟨_, rfl, ⟨[], rtoks_none _ _, rfl⟩, HB2.out⟩ | (refine ⟨_, rfl, [], rtoks_none _ _, ?_, HB2.out⟩; first | rfl | simp)
        · have hb1 : ¬ (len : Int) - (q : Int) < (u : Int) := by omega
          have hb2 : ¬ (N : Int) < (h : Int) + (u : Int) := by omega
          have hqu : q + u ≤ len := by omega
          have HQU : Hid (p + k + u ≤ bs.length) := by show _ ≤ _; rw [HL.out]; omega
          obtain ⟨la, hsl0, hla⟩ := slice_lh2 bb off len cap q u (q + u) rfl (by omega)
          have hsl : ∀ W, (Instr.sliceAt 22 (.slice (some ⟨bb, off, none⟩) len cap) (some (.int .i64 (q : Int))) (some (.int .i64 ((q : Int) + (u : Int)))) none).run Try.prog W = .ok (.slice (some la) u (cap - q)) W := fun W => by
            have e := hsl0 W
            rw [show ((q + u : Nat) : Int) = (q : Int) + (u : Int) by omega] at e
            exact e
          obtain ⟨lit, hlit⟩ : ∃ lit, (bs.drop q).take u = lit := ⟨_, rfl⟩
          have HLIT := hide hlit
          have HLEN : Hid (lit.length = u) := by show _ = _; rw [← hlit, List.length_take, List.length_drop, HL.out]; omega
          have HO0 : Hid (Own (w2.alloc (.cells #[] 5)) w.heap.size (.slice (some ⟨w2.heap.size, 0, none⟩) 0 0) []) := own_empty w2 _ HB2.out.size
          have HLA0 : Hid (Rd (w2.alloc (.cells #[] 5)) (some la) u lit) := by
            have h1 := rd_sub ((HR.out.below HB2.out).below ((Below.refl _ _).alloc (Nat.le_refl _) (.cells #[] 5))) (p := q) (c := u) (la := la) hqu hla
            rw [hlit] at h1
            exact h1
          have hS2 : w.heap.size ≤ w2.heap.size := HB2.out.size
          obtain ⟨cq, hcq⟩ : ∃ cq, cap - q = cq := ⟨_, rfl⟩
          rw [hcq] at hsl
          have hqi : (q : Int) + (u : Int) ≤ (len : Int) := by omega
          clear hsl0 hla hlit hcq hq
          have t0 := HT2.out.c0
          have t1 := HT2.out.c1
          have t2 := HT2.out.c2
          have z0 := HT2.out.fr 0
          have z1 := HT2.out.fr 1
          have z2 := HT2.out.fr 2
          have hHU : h + u ≤ N := by omega
          obtain ⟨hu, hhu⟩ : ∃ hu : Nat, h + u = hu := ⟨_, rfl⟩
          have i1 : (h : Int) + (u : Int) = (hu : Int) := by omega
          have i2 : (hu : Int) - (u : Int) = (h : Int) := by omega
          have HHU := hide hhu
          by_cases hend : hu = N
          · have HTK := hide (HMORE.out _ _ (refTok3 HRN.out HQU.out (by omega)))
            rw [HQ.out, HLIT.out] at HTK
            have hend2 : ¬ (hu : Int) < (N : Int) := by omega
            have hend3 : ((hu : Int) == (N : Int)) = true := by rw [beq_iff_eq]; omega
            clear HMORE HSTOP
            go_wp2_with (first
              | (at_builtin; refine join2 _ rfl _ _ rfl w.heap.size (.slice (some ⟨w2.heap.size, 0, none⟩) 0 0) [] rfl HO0.out (some la) u cq lit rfl HLA0.out (fun h => by cases h) (by simp; omega) (by simp; omega) ?_
                 intro v5 w5 ho5 hg5 _
                 obtain ⟨v5a, v5n, v5c, rfl, hv5⟩ := own_named ho5
                 rw [List.nil_append] at ho5 hv5
                 have HV5 : Hid (v5n = u) := hv5.out.trans HLEN.out
                 have HBW : Hid (Below w2.heap.size w2 w5) := ((Below.refl _ _).alloc (Nat.le_refl _) _).grown hg5 (by simp) (fun q e => by cases e; exact Nat.le_refl _)
                 have HT5 := hide (HT2.out.below HBW.out)
                 have HTS5 := hide (HTS2.out.below HBW.out)
                 have HB5 := hide (below_trans HB2.out HBW.out)
                 obtain ⟨w6, hw6, HT6, HO6, HTS6, HB6⟩ := set_lit HT5.out ho5 HTS5.out HB5.out HVB.out HGW.out
                 have y0 := HT6.out.c0
                 have y1 := HT6.out.c1
                 have y2 := HT6.out.c2
                 have x0 := HT6.out.fr 0
                 have x1 := HT6.out.fr 1
                 have x2 := HT6.out.fr 2
                 have o0 := HT5.out.c0
                 have o3 := HT5.out.fr 0
                 clear ho5 hg5 hv5))
            have i3 : (N : Int) - (u : Int) = (h : Int) := by omega
            have HFC : Hid (Calls Try.prog 69 #[.agg #[.slice v5a v5n v5c, .int .i64 0, .int .i64 0], .int .i64 ((N : Int) - (u : Int)), .bool true] w6 fun e w' => e = .returned (.bool true) ∧ Below w6.heap.size w6 w') := by
              have h1 := fits_any v5a v5c ⟨lit, 0, 0⟩ h true w6 (by simp only; rw [HLEN.out]; omega)
              have h2 : right ⟨lit, 0, 0⟩ (h + lit.length) true = true := by
                unfold right
                rw [if_pos (⟨rfl, rfl⟩ : Tok.bare ⟨lit, 0, 0⟩)]
                simp only [Bool.true_and, decide_eq_true_eq]
                rw [HLEN.out]; omega
              simp only at h1
              rw [h2, HLEN.out] at h1
              show Calls _ _ _ _ _
              rw [i3, HV5.out]
              exact h1
            refine HFC.out.mono ?_
            rintro e w7 ⟨rfl, hb7⟩
            have HT7 := hide (HT6.out.below hb7)
            have HO7 := hide (HO6.out.below hb7)
            have HTS7 := hide (HTS6.out.below hb7)
            have HB7 := hide (below_trans HB6.out hb7)
            have hS7 : w.heap.size ≤ w7.heap.size := HB7.out.size
            clear hb7 HFC y0 y1 y2 x0 x1 x2 o0 o3 t0 t1 t2 z0 z1 z2
            have t0 := HT7.out.c0
            have t1 := HT7.out.c1
            have t2 := HT7.out.c2
            have HNEWS : Hid (∀ (j : Nat) (u : Value), [Value.slice v5a v5n v5c, .int .i64 0, .int .i64 0][j]? = some u → (w7.alloc (.cells #[.slice v5a v5n v5c, .int .i64 0, .int .i64 0] 61)).cell? ((⟨w7.heap.size, 0, none⟩ : Addr).add j) = some u) := by
              have hT := TRow.new w7 (.slice v5a v5n v5c) 0 0
              intro j u hu
              rcases j with _ | _ | _ | j
              · cases hu; exact hT.c0
              · cases hu; exact hT.c1
              · cases hu; exact hT.c2
              · simp at hu
            go_wp2_with (first
              | (at_builtin; refine wpList_append_own _ rfl _ _ 51 rfl w.heap.size 61 iT (.agg #[.slice none 0 0, .int .i64 0, .int .i64 0]) 3 40 Try.underlying51 hiT hT0 hT1 hT2 rfl (by omega) (.slice va vn vc) ps.length (cellsOf ps) rfl (HTS7.out.below ((Below.refl _ _).alloc (Nat.le_refl _) _)).row ⟨w7.heap.size, 0, none⟩ 1 1 [.slice v5a v5n v5c, .int .i64 0, .int .i64 0] rfl rfl ?_ ?_ (by unfold maxLen; omega) (by omega) (by simp; omega) ?_
                 · exact HNEWS.out
                 · intro u hu
                   simp only [List.mem_cons, List.not_mem_nil, or_false] at hu
                   rcases hu with rfl | rfl | rfl <;> rfl
                 intro v6 w9 hrow6 hgrow6 _
                 obtain ⟨g6, c6, rfl⟩ : ∃ g c, v6 = .slice (some ⟨g, 0, none⟩) (ps.length + 1) c := by
                   rcases hrow6.2 with ⟨_, h2⟩ | ⟨g, c, cur, h1, _⟩
                   · omega
                   · exact ⟨g, c, h1⟩
                 have HT9 : Hid (RToks w9 w.heap.size (.slice (some ⟨g6, 0, none⟩) (ps.length + 1) c6) (ps ++ [(.slice v5a v5n v5c, ⟨lit, 0, 0⟩)])) :=
                   RToks.add (t := ⟨lit, 0, 0⟩) (HTS7.out.below ((Below.refl _ _).alloc (Nat.le_refl _) _)) hrow6 rfl hgrow6 (HO7.out.below ((Below.refl _ _).alloc (Nat.le_refl _) _))
                 have HB9 : Hid (Below w.heap.size w w9) := (HB7.out.alloc HB7.out.size (.cells #[.slice v5a v5n v5c, .int .i64 0, .int .i64 0] 61)).grown hgrow6 (HB7.out.alloc HB7.out.size (.cells #[.slice v5a v5n v5c, .int .i64 0, .int .i64 0] 61)).size (fun q e => (World.ownsRow.lt HTS7.out.row q e).1)
                 clear hrow6 hgrow6))
            go_roundw
            case measure => (simp [intOf] <;> omega)
            case rel =>
              have HR2 : Hid (read bs 0 N = ((ps ++ [((.slice v5a v5n v5c : Value), (⟨lit, 0, 0⟩ : Tok))]).map (·.2) ++ (read (bs.drop (q + u)) N N).1, (read (bs.drop (q + u)) N N).2)) := by
                have h1 := HTK.out
                rw [HLEN.out, show h + u + (0 : Int).toNat = N by simp; omega] at h1
                rw [List.map_append]
                exact h1
              exact ⟨q + u, N, _, _, _, ps ++ [(.slice v5a v5n v5c, ⟨lit, 0, 0⟩)], rfl, by first | rfl | go_num, rfl, hqu, Nat.le_refl _, by simp; omega, by show _ = _; simp, HT9, HR2, HB9⟩
          · have hend2 : (hu : Int) < (N : Int) := by omega
            have HQN : Hid (p + k + u = q + u) := by show _ = _; rw [HQ.out]
            go_wp2_with (first
              | (at_builtin; refine join2 _ rfl _ _ rfl w.heap.size (.slice (some ⟨w2.heap.size, 0, none⟩) 0 0) [] rfl HO0.out (some la) u cq lit rfl HLA0.out (fun h => by cases h) (by simp; omega) (by simp; omega) ?_
                 intro v5 w5 ho5 hg5 _
                 obtain ⟨v5a, v5n, v5c, rfl, hv5⟩ := own_named ho5
                 rw [List.nil_append] at ho5 hv5
                 have HV5 : Hid (v5n = u) := hv5.out.trans HLEN.out
                 have HBW : Hid (Below w2.heap.size w2 w5) := ((Below.refl _ _).alloc (Nat.le_refl _) _).grown hg5 (by simp) (fun q e => by cases e; exact Nat.le_refl _)
                 have HT5 := hide (HT2.out.below HBW.out)
                 have HTS5 := hide (HTS2.out.below HBW.out)
                 have HB5 := hide (below_trans HB2.out HBW.out)
                 obtain ⟨w6, hw6, HT6, HO6, HTS6, HB6⟩ := set_lit HT5.out ho5 HTS5.out HB5.out HVB.out HGW.out
                 have y0 := HT6.out.c0
                 have y1 := HT6.out.c1
                 have y2 := HT6.out.c2
                 have x0 := HT6.out.fr 0
                 have x1 := HT6.out.fr 1
                 have x2 := HT6.out.fr 2
                 have o0 := HT5.out.c0
                 have o3 := HT5.out.fr 0
                 clear ho5 hg5 hv5))
            have HC2 : Hid (Calls Try.prog 68 #[.slice (some ⟨bb, off, none⟩) len cap, .int .i64 ((q : Int) + (u : Int))] w6 fun e w' => e = .returned (.tuple #[.int .i64 (refNum bs (q + u)).1, .int .i64 ((refNum bs (q + u)).2 : Nat)]) ∧ Below w6.heap.size w6 w') := by
              show Calls _ _ _ _ _
              rw [show (q : Int) + (u : Int) = ((q + u : Nat) : Int) by omega]
              exact HNC.out (q + u) hqu w6 HB6.out
            refine HC2.out.mono ?_
            rintro e w7 ⟨rfl, hb7⟩
            have HT7 := hide (HT6.out.below hb7)
            have HO7 := hide (HO6.out.below hb7)
            have HTS7 := hide (HTS6.out.below hb7)
            have HB7 := hide (below_trans HB6.out hb7)
            clear hb7 HC2 y0 y1 y2 x0 x1 x2 o0 o3 t0 t1 t2 z0 z1 z2
            rcases refNum_cases bs (q + u) (by rw [HL.out]; exact hqu) with hrn2 | ⟨m, k2, hrn2, hm2, hk3, hk4⟩
            · rw [hrn2]
              have HE2 := hide (HSTOP.out (refTok4 HRN.out HQU.out (by omega) (by rw [HQN.out]; exact hrn2)))
              have hneg : (-1 : Int) < 0 := by decide
              clear hrn2 HMORE HSTOP
              go_wp2_with fail
              go_ret2
              rw [HE2.out]
              first | exact ⟨_, [], rfl, rtoks_none _ _, rfl, HB7.out⟩ | exact ⟨_, rfl, [], rtoks_none _ _, rfl, HB7.out⟩ | exact ⟨_, rfl, ⟨[], rtoks_none _ _, rfl⟩, HB7.out⟩ | (refine ⟨_, rfl, [], rtoks_none _ _, ?_, HB7.out⟩; first | rfl | simp)
            · have HRN2 := hide hrn2
              rw [hrn2]
              simp only
              obtain ⟨q2, hq2⟩ : ∃ q2, q + u + k2 = q2 := ⟨_, rfl⟩
              have HQ2 := hide hq2
              rw [hq2]
              have hq2l : q2 ≤ len := by rw [← hq2]; have := HL.out; omega
              have hmn : ¬ (m : Int) < 0 := by omega
              have hmi : (m : Int) ≤ 65536 := by omega
              have HC3 := hide (HNC.out q2 hq2l w7 HB7.out)
              clear hrn2 hq2
              go_wp2_with fail
              refine HC3.out.mono ?_
              rintro e w8 ⟨rfl, hb8⟩
              have HT8 := hide (HT7.out.below hb8)
              have HO8 := hide (HO7.out.below hb8)
              have HTS8 := hide (HTS7.out.below hb8)
              have HB8 := hide (below_trans HB7.out hb8)
              clear hb8 HC3
              rcases refNum_cases bs q2 (by rw [HL.out]; exact hq2l) with hrn3 | ⟨d, k5, hrn3, hd2, hk6, hk7⟩
              · rw [hrn3]
                have HE2 := hide (HSTOP.out (refTok5 HRN.out HQU.out (by omega) (m := m) (k2 := k2) (by rw [HQN.out]; exact HRN2.out) (.inl (by rw [HQN.out, HQ2.out, hrn3]; show (-1 : Int) < 0; decide))))
                have hneg : (-1 : Int) < 0 := by decide
                clear hrn3 HMORE HSTOP
                go_wp2_with fail
                go_ret2
                rw [HE2.out]
                first | exact ⟨_, [], rfl, rtoks_none _ _, rfl, HB8.out⟩ | exact ⟨_, rfl, [], rtoks_none _ _, rfl, HB8.out⟩ | exact ⟨_, rfl, ⟨[], rtoks_none _ _, rfl⟩, HB8.out⟩ | (refine ⟨_, rfl, [], rtoks_none _ _, ?_, HB8.out⟩; first | rfl | simp)
              · have HRN3 := hide hrn3
                rw [hrn3]
                simp only
                obtain ⟨q3, hq3⟩ : ∃ q3, q2 + k5 = q3 := ⟨_, rfl⟩
                have HQ3 := hide hq3
                rw [hq3]
                have hq3l : q3 ≤ len := by rw [← hq3]; have := HL.out; omega
                have hdn : ¬ (d : Int) < 0 := by omega
                have hdi : (d : Int) ≤ 65536 := by omega
                have i4 : (hu : Int) + (m : Int) ≤ 200000 := by omega
                clear hrn3 hq3
                by_cases hover : N < hu + m + 4
                · have HE2 := hide (HSTOP.out (refTok5 HRN.out HQU.out (by omega) (m := m) (k2 := k2) (by rw [HQN.out]; exact HRN2.out) (.inr (by omega))))
                  have hov : (N : Int) < (hu : Int) + (m : Int) + 4 := by omega
                  clear HMORE HSTOP
                  go_wp2_with fail
                  go_ret2
                  rw [HE2.out]
                  first | exact ⟨_, [], rfl, rtoks_none _ _, rfl, HB8.out⟩ | exact ⟨_, rfl, [], rtoks_none _ _, rfl, HB8.out⟩ | exact ⟨_, rfl, ⟨[], rtoks_none _ _, rfl⟩, HB8.out⟩ | (refine ⟨_, rfl, [], rtoks_none _ _, ?_, HB8.out⟩; first | rfl | simp)
                · have hov : ¬ (N : Int) < (hu : Int) + (m : Int) + 4 := by omega
                  obtain ⟨w9, hw9, HTm, HT9, HO9, HTS9, HB9⟩ := set_num HT8.out HO8.out HTS8.out HB8.out HVB.out HGW.out (m : Int) (d : Int)
                  have t0 := HT8.out.c0
                  have t1 := HT8.out.c1
                  have t2 := HT8.out.c2
                  have z1 := HT8.out.fr 1
                  have z2 := HT8.out.fr 2
                  have s0 := HTm.out.c0
                  have s1 := HTm.out.c1
                  have s2 := HTm.out.c2
                  have s3 := HTm.out.fr 1
                  have r0 := HT9.out.c0
                  have r1 := HT9.out.c1
                  have r2 := HT9.out.c2
                  go_wp2_with fail
                  have HR0 : Hid (right ⟨lit, (d : Int), (m : Int) + 4⟩ (h + u) ((hu : Int) + ((m : Int) + 4) == (N : Int)) = decide ((m : Int) + 4 ≤ 259 ∧ 1 ≤ (d : Int) ∧ (d : Int) ≤ 32768 ∧ (d : Int) ≤ (h : Int) + (u : Int))) := by
                    have hnb : ¬ Tok.bare ⟨lit, (d : Int), (m : Int) + 4⟩ := not_bare _ (by simp only; omega)
                    show _ = _
                    unfold right
                    rw [if_neg hnb]
                    simp only
                    apply decide_eq_decide.2
                    omega
                  have HFC : Hid (Calls Try.prog 69 #[.agg #[.slice v5a v5n v5c, .int .i64 (d : Int), .int .i64 ((m : Int) + 4)], .int .i64 ((hu : Int) + ((m : Int) + 4) - (u : Int) - ((m : Int) + 4)), .bool ((hu : Int) + ((m : Int) + 4) == (N : Int))] w9 fun e w' => e = .returned (.bool (decide ((m : Int) + 4 ≤ 259 ∧ 1 ≤ (d : Int) ∧ (d : Int) ≤ 32768 ∧ (d : Int) ≤ (h : Int) + (u : Int)))) ∧ Below w9.heap.size w9 w') := by
                    have h1 := fits_any v5a v5c ⟨lit, (d : Int), (m : Int) + 4⟩ h ((hu : Int) + ((m : Int) + 4) == (N : Int)) w9 (by simp only; rw [HLEN.out]; omega)
                    simp only at h1
                    rw [HLEN.out, HR0.out] at h1
                    show Calls _ _ _ _ _
                    rw [show (hu : Int) + ((m : Int) + 4) - (u : Int) - ((m : Int) + 4) = (h : Int) by omega, HV5.out]
                    exact h1
                  refine HFC.out.mono ?_
                  rintro e w10 ⟨rfl, hb10⟩
                  have HT10 := hide (HT9.out.below hb10)
                  have HO10 := hide (HO9.out.below hb10)
                  have HTS10 := hide (HTS9.out.below hb10)
                  have HB10 := hide (below_trans HB9.out hb10)
                  have hS10 : w.heap.size ≤ w10.heap.size := HB10.out.size
                  clear hb10 HFC HR0 t0 t1 t2 z1 z2 s0 s1 s2 s3 r0 r1 r2
                  have t0 := HT10.out.c0
                  have t1 := HT10.out.c1
                  have t2 := HT10.out.c2
                  by_cases hfit : (m : Int) + 4 ≤ 259 ∧ 1 ≤ (d : Int) ∧ (d : Int) ≤ 32768 ∧ (d : Int) ≤ (h : Int) + (u : Int)
                  · have HTK := hide (HMORE.out _ _ (refTok6 HRN.out HQU.out (by omega) (m := m) (k2 := k2) (d := d) (k3 := k5) (by rw [HQN.out]; exact HRN2.out) (by rw [HQN.out, HQ2.out]; exact HRN3.out) (by omega) hfit))
                    rw [HQ.out, HLIT.out, HQ2.out, HQ3.out] at HTK
                    rw [decide_eq_true hfit]
                    clear HMORE HSTOP hfit
                    have HNEWS : Hid (∀ (j : Nat) (u : Value), [Value.slice v5a v5n v5c, .int .i64 (d : Int), .int .i64 ((m : Int) + 4)][j]? = some u → (w10.alloc (.cells #[.slice v5a v5n v5c, .int .i64 (d : Int), .int .i64 ((m : Int) + 4)] 61)).cell? ((⟨w10.heap.size, 0, none⟩ : Addr).add j) = some u) := by
                      have hT := TRow.new w10 (.slice v5a v5n v5c) (d : Int) ((m : Int) + 4)
                      intro j u hu
                      rcases j with _ | _ | _ | j
                      · cases hu; exact hT.c0
                      · cases hu; exact hT.c1
                      · cases hu; exact hT.c2
                      · simp at hu
                    go_wp2_with (first
                      | (at_builtin; refine wpList_append_own _ rfl _ _ 51 rfl w.heap.size 61 iT (.agg #[.slice none 0 0, .int .i64 0, .int .i64 0]) 3 40 Try.underlying51 hiT hT0 hT1 hT2 rfl (by omega) (.slice va vn vc) ps.length (cellsOf ps) rfl (HTS10.out.below ((Below.refl _ _).alloc (Nat.le_refl _) _)).row ⟨w10.heap.size, 0, none⟩ 1 1 [.slice v5a v5n v5c, .int .i64 (d : Int), .int .i64 ((m : Int) + 4)] rfl rfl ?_ ?_ (by unfold maxLen; omega) (by omega) (by simp; omega) ?_
                         · exact HNEWS.out
                         · intro u hu
                           simp only [List.mem_cons, List.not_mem_nil, or_false] at hu
                           rcases hu with rfl | rfl | rfl <;> rfl
                         intro v6 w11 hrow6 hgrow6 _
                         obtain ⟨g6, c6, rfl⟩ : ∃ g c, v6 = .slice (some ⟨g, 0, none⟩) (ps.length + 1) c := by
                           rcases hrow6.2 with ⟨_, h2⟩ | ⟨g, c, cur, h1, _⟩
                           · omega
                           · exact ⟨g, c, h1⟩
                         have HT9b : Hid (RToks w11 w.heap.size (.slice (some ⟨g6, 0, none⟩) (ps.length + 1) c6) (ps ++ [(.slice v5a v5n v5c, ⟨lit, (d : Int), (m : Int) + 4⟩)])) :=
                           RToks.add (t := ⟨lit, (d : Int), (m : Int) + 4⟩) (HTS10.out.below ((Below.refl _ _).alloc (Nat.le_refl _) _)) hrow6 rfl hgrow6 (HO10.out.below ((Below.refl _ _).alloc (Nat.le_refl _) _))
                         have HB9b : Hid (Below w.heap.size w w11) := (HB10.out.alloc HB10.out.size (.cells #[.slice v5a v5n v5c, .int .i64 (d : Int), .int .i64 ((m : Int) + 4)] 61)).grown hgrow6 (HB10.out.alloc HB10.out.size (.cells #[.slice v5a v5n v5c, .int .i64 (d : Int), .int .i64 ((m : Int) + 4)] 61)).size (fun q e => (World.ownsRow.lt HTS10.out.row q e).1)
                         clear hrow6 hgrow6))
                    go_roundw
                    case measure => (simp [intOf] <;> omega)
                    case rel =>
                      have HR2 : Hid (read bs 0 N = ((ps ++ [((.slice v5a v5n v5c : Value), (⟨lit, (d : Int), (m : Int) + 4⟩ : Tok))]).map (·.2) ++ (read (bs.drop q3) (hu + m + 4) N).1, (read (bs.drop q3) (hu + m + 4) N).2)) := by
                        have h1 := HTK.out
                        rw [HLEN.out, show h + u + ((m : Int) + 4).toNat = hu + m + 4 by omega] at h1
                        rw [List.map_append]
                        exact h1
                      exact ⟨q3, hu + m + 4, _, _, _, ps ++ [(.slice v5a v5n v5c, ⟨lit, (d : Int), (m : Int) + 4⟩)], rfl, by first | rfl | go_num, by first | rfl | go_num, hq3l, by omega, by simp; omega, by show _ = _; simp, HT9b, HR2, HB9b⟩
                  · have HE2 := hide (HSTOP.out (refTok7 HRN.out HQU.out (by omega) (m := m) (k2 := k2) (d := d) (k3 := k5) (by rw [HQN.out]; exact HRN2.out) (by rw [HQN.out, HQ2.out]; exact HRN3.out) (by omega) hfit))
                    rw [decide_eq_false hfit]
                    clear HMORE HSTOP hfit
                    go_wp2_with fail
                    go_ret2
                    rw [HE2.out]
                    first | exact ⟨_, [], rfl, rtoks_none _ _, rfl, HB10.out⟩ | exact ⟨_, rfl, [], rtoks_none _ _, rfl, HB10.out⟩ | exact ⟨_, rfl, ⟨[], rtoks_none _ _, rfl⟩, HB10.out⟩ | (refine ⟨_, rfl, [], rtoks_none _ _, ?_, HB10.out⟩; first | rfl | simp)
    · have hhi : ¬ (h : Int) < (N : Int) := by omega
      have HEND := hide (read_end (bs.drop p) h N hlt)
      by_cases hpe : p = len
      · have HE2 : Hid (T = (ps.map (·.2), 0)) := HGOODT.out _ (by
          have h1 := HRE.out
          rw [HEND.out, if_pos (List.drop_eq_nil_of_le (by rw [HL.out]; omega)), List.append_nil] at h1
          exact h1)
        have hpq : ((p : Int) != (len : Int)) = false := by rw [hpe]; simp
        clear HRE HEND
        go_wp2_with fail
        go_ret2
        rw [HE2.out]
        first | exact ⟨_, ps, rfl, HTS.out, rfl, HB.out⟩ | exact ⟨_, rfl, ps, HTS.out, rfl, HB.out⟩ | exact ⟨_, rfl, ⟨ps, HTS.out, rfl⟩, HB.out⟩ | (refine ⟨_, rfl, ps, HTS.out, ?_, HB.out⟩; first | rfl | simp)
      · have HE2 : Hid (T = ([], 30)) := HBADT.out (by
          have h1 := HRE.out
          rw [HEND.out, if_neg (fun e => by have := List.drop_eq_nil_iff.1 e; rw [HL.out] at this; omega)] at h1
          rw [h1])
        have hpq : ((p : Int) != (len : Int)) = true := by rw [bne_iff_ne]; omega
        clear HRE HEND
        go_wp2_with fail
        go_ret2
        rw [HE2.out]
        first | exact ⟨_, [], rfl, rtoks_none _ _, rfl, HB.out⟩ | exact ⟨_, rfl, [], rtoks_none _ _, rfl, HB.out⟩ | exact ⟨_, rfl, ⟨[], rtoks_none _ _, rfl⟩, HB.out⟩ | (refine ⟨_, rfl, [], rtoks_none _ _, ?_, HB.out⟩; first | rfl | simp)
end Go.Proofs.Ytcchknpgkcmneaa.Lz
