/-
  The document's plans: Due.
-/
import Derived.Test.YtbmbhcjocgbbpaaFaRPlanA
namespace Go.Proofs.Ytbmbhcjocgbbpaa.Fa
open Go.ChangeShapes Go.WideShapes Go.ChangeAt Go.RowKit
open Go.Proofs.Ytbmbhcjocgbbpaa.Base
set_option linter.unusedVariables false
theorem due_cases (f : Flt) (t at_ m r : Int) (h : may f = true) : ((f.k != 0) = false ∧ isDue (t, at_, m, rdr m r) f = false) ∨ ((f.k != 0) = true ∧ (f.t == t) = false ∧ isDue (t, at_, m, rdr m r) f = false) ∨ ((f.k != 0) = true ∧ (f.t == t) = true ∧ (f.a == at_) = false ∧ isDue (t, at_, m, rdr m r) f = false) ∨ ((f.k != 0) = true ∧ (f.t == t) = true ∧ (f.a == at_) = true ∧ (f.m == m) = false ∧ isDue (t, at_, m, rdr m r) f = false) ∨ ((f.k != 0) = true ∧ (f.t == t) = true ∧ (f.a == at_) = true ∧ (f.m == m) = true ∧ (m != 2) = false ∧ (f.r == r) = false ∧ isDue (t, at_, m, rdr m r) f = false) ∨ ((f.k != 0) = true ∧ (f.t == t) = true ∧ (f.a == at_) = true ∧ (f.m == m) = true ∧ (m != 2) = false ∧ (f.r == r) = true ∧ isDue (t, at_, m, rdr m r) f = true) ∨ ((f.k != 0) = true ∧ (f.t == t) = true ∧ (f.a == at_) = true ∧ (f.m == m) = true ∧ (m != 2) = true ∧ isDue (t, at_, m, rdr m r) f = true) := by
  have hd := may_due h
  unfold isDue
  by_cases h0 : f.k = 0
  · simp [h0]
  · have hr := hd h0
    by_cases h1 : f.t = t
    · by_cases h2 : f.a = at_
      · by_cases h3 : f.m = m
        · by_cases h4 : m = 2
          · have e : rdr m r = r := by unfold rdr; rw [if_pos h4]
            by_cases h5 : f.r = r
            · simp [h0, h1, h2, h3, h4, h5, rdr]
            · simp [h0, h1, h2, h3, h4, h5, rdr]
          · have e : rdr m r = 0 := by unfold rdr; rw [if_neg h4]
            have e2 : f.r = 0 := by rw [← hr]; unfold rdr; rw [if_neg (by rw [h3]; exact h4)]
            simp [h0, h1, h2, h3, h4, e, e2]
        · simp [h0, h1, h2, h3]
      · simp [h0, h1, h2]
    · simp [h0, h1]
set_option maxHeartbeats 4000000 in
set_option maxRecDepth 100000 in
theorem rdue_any (t at_ m r : Int) (p lb n cap : Nat) (la : Option Addr) (fs : List Flt) (w : World) (hp : RPl w p (.slice la n cap)) (ho : OwnL w lb (.slice la n cap) fs) (hn : n ≤ 1048576) (hall : fs.all may = true) :
    Calls Try.prog 26 #[.pointer (some ⟨p, 0, none⟩), .int .i64 t, .int .i64 at_, .int .i64 m, .int .i64 r] w fun e w' => ∃ v lv, e = .returned v ∧ OwnL w' w.heap.size v (fs.filter (isDue (t, at_, m, rdr m r))) ∧ OwnL w' w.heap.size lv (fs.filter (fun f => !isDue (t, at_, m, rdr m r) f)) ∧ RPl w' p lv ∧ Ap2 v lv ∧ w.grownBy w' (some p) := by
  have HL := hide ho.len.1
  have HR := hide ho.rdl
  have HP := hide hp
  have HALL := hide hall
  have hpc := hp.cell
  have hni : (n : Int) ≤ 1048576 := by omega
  clear ho hp hall
  go_enter Try.func26, Try.ntmps26
  go_wp2_with fail
  go_loopw [11, 12, 13] (fun sl sv si wr => ∃ (i : Nat) (v lv : Value), i ≤ n ∧ v = sv ∧ lv = sl ∧ .int .i64 (i : Int) = si ∧ Hid (OwnL wr w.heap.size v ((fs.take i).filter (isDue (t, at_, m, rdr m r)))) ∧ Hid (OwnL wr w.heap.size lv ((fs.take i).filter (fun f => !isDue (t, at_, m, rdr m r) f))) ∧ Hid (Ap2 v lv) ∧ Hid (Below w.heap.size w wr)) (fun _ _ si _ => n - (intOf si).toNat)
  case atStart => exact ⟨0, _, _, by omega, rfl, rfl, rfl, ownl_none _ _, ownl_none _ _, (fun i e => by cases e), b0 _⟩
  case round =>
    clear hpc
    obtain ⟨i, v, lv, hi, rfl, rfl, rfl, HV, HLV, HAP, HB⟩ := hrel
    by_cases hin : i < n
    ·
      have hii : (i : Int) < (n : Int) := by omega
      obtain ⟨b1, o1, rfl, hl1, hc1⟩ := HR.out.2 (by omega)
      obtain ⟨f, hf⟩ : ∃ f, fs.getD i f0 = f := ⟨_, rfl⟩
      obtain ⟨p0, p1, p2, p3, p4, p5, p6, p7⟩ := (hc1 i hin).same (w' := wr) (fun k => HB.out.cell (p := ⟨b1, k, none⟩) hl1)
      rw [hf] at p0 p1 p2 p3 p4 p5 p6 p7
      have HF := hide hf
      have hil : i < fs.length := by rw [← HL.out]; exact hin
      have HS1 := hide (filter_snoc (isDue (t, at_, m, rdr m r)) fs i f hil HF.out)
      have HS2 := hide (filter_snoc (fun f => !isDue (t, at_, m, rdr m r) f) fs i f hil HF.out)
      have HN1 := hide (filter_len (isDue (t, at_, m, rdr m r)) fs i)
      have HN2 := hide (filter_len (fun f => !isDue (t, at_, m, rdr m r) f) fs i)
      clear hf hc1
      have HPW := hide (HP.out.below HB.out)
      have hpc := HPW.out.cell
      obtain ⟨w0, hw0⟩ : ∃ w0, wr.alloc (.cells #[.int .i64 f.k, .int .i64 f.j, .int .i64 f.t, .int .i64 f.a, .int .i64 f.m, .int .i64 f.r, .int .i64 f.p, .int .u32 (f.q.toNat : Int)] 25) = w0 := ⟨_, rfl⟩
      have HF0 : Hid (FB w0 wr.heap.size f) := by show FB _ _ _; rw [← hw0]; exact FB.new wr f
      have HB0 : Hid (Below wr.heap.size wr w0) := by show Below _ _ _; rw [← hw0]; exact ba (b0 _) _
      obtain ⟨t0, t1, t2, t3, t4, t5, t6, t7⟩ := HF0.out.cells
      have HBW := hide (below_trans HB.out HB0.out)
      have HV1 := hide (HV.out.below HB0.out)
      have HL1 := hide (HLV.out.below HB0.out)
      have hmay : may f = true := by rw [← HF.out]; exact List.all_eq_true.1 HALL.out _ (getD_mem hil)
      generalize hD1 : (fs.take i).filter (isDue (t, at_, m, rdr m r)) = D1 at HV1 HS1 HN1
      generalize hD2 : (fs.take i).filter (fun f => !isDue (t, at_, m, rdr m r) f) = D2 at HL1 HS2 HN2
      clear hD1 hD2
      rcases due_cases f t at_ m r hmay with ⟨q1, hq⟩ | ⟨q1, q2, hq⟩ | ⟨q1, q2, q3, hq⟩ | ⟨q1, q2, q3, q4, hq⟩ | ⟨q1, q2, q3, q4, q5, q6, hq⟩ | ⟨q1, q2, q3, q4, q5, q6, hq⟩ | ⟨q1, q2, q3, q4, q5, hq⟩
      · rw [if_neg (by rw [hq]; simp)] at HS1
        rw [if_pos (by rw [hq]; rfl)] at HS2
        clear hq hmay
        have HA1 : Hid (At8 (w0.alloc (.cells #[.int .i64 f.k, .int .i64 f.j, .int .i64 f.t, .int .i64 f.a, .int .i64 f.m, .int .i64 f.r, .int .i64 f.p, .int .u32 (f.q.toNat : Int)] 25)) w0.heap.size 0 f) := by
          obtain ⟨e0, e1, e2, e3, e4, e5, e6, e7⟩ := (FB.new w0 f).cells
          exact ⟨e0, e1, e2, e3, e4, e5, e6, e7⟩
        have HV2 : Hid (OwnL (w0.alloc (.cells #[.int .i64 f.k, .int .i64 f.j, .int .i64 f.t, .int .i64 f.a, .int .i64 f.m, .int .i64 f.r, .int .i64 f.p, .int .u32 (f.q.toNat : Int)] 25)) w.heap.size lv D2) := HL1.out.below (ba (b0 _) _)
        go_wp2_with (at_builtin; refine pushFl _ rfl _ _ rfl w.heap.size lv D2 rfl HV2.out w0.heap.size f rfl HA1.out (by have := HN2.out; omega) (by have := HBW.out.size; simp; omega) ?_
                     intro g5 c5 w2 ho5 hg5 hl5
                     have HO5 := hide ho5
                     have HG5 : Hid (w0.grownBy w2 lv.ownBlock) := (World.grownBy_alloc w0 _ _).trans hg5
                     have HP5 : Hid (lv.ownBlock = some g5 ∨ w0.heap.size ≤ g5) := hl5.imp id (fun e => by rw [e]; simp)
                     have HZ5 : Hid (w0.heap.size ≤ w2.heap.size) := HG5.out.size
                     clear ho5 hg5 hl5)
        go_roundw
        case rel =>
          refine ⟨i + 1, v, _, by omega, rfl, rfl, by go_num, ?_, ?_, ?_, ?_⟩
          · show OwnL _ _ _ _
            rw [HS1.out]
            exact HV1.out.kept HG5.out (fun j e e2 => HAP.out j e e2)
          · show OwnL _ _ _ _
            rw [HS2.out]
            exact HO5.out
          · intro j e e2
            have e3 : g5 = j := Option.some.inj e2
            subst e3
            rcases HP5.out with h5 | h5
            · exact HAP.out g5 e h5
            · have := (HV1.out.blk g5 e).2; omega
          · exact HBW.out.grown HG5.out HBW.out.size (fun j e => (HL1.out.blk j e).1)
        case measure => simp [intOf]; omega
      · rw [if_neg (by rw [hq]; simp)] at HS1
        rw [if_pos (by rw [hq]; rfl)] at HS2
        clear hq hmay
        have HA1 : Hid (At8 (w0.alloc (.cells #[.int .i64 f.k, .int .i64 f.j, .int .i64 f.t, .int .i64 f.a, .int .i64 f.m, .int .i64 f.r, .int .i64 f.p, .int .u32 (f.q.toNat : Int)] 25)) w0.heap.size 0 f) := by
          obtain ⟨e0, e1, e2, e3, e4, e5, e6, e7⟩ := (FB.new w0 f).cells
          exact ⟨e0, e1, e2, e3, e4, e5, e6, e7⟩
        have HV2 : Hid (OwnL (w0.alloc (.cells #[.int .i64 f.k, .int .i64 f.j, .int .i64 f.t, .int .i64 f.a, .int .i64 f.m, .int .i64 f.r, .int .i64 f.p, .int .u32 (f.q.toNat : Int)] 25)) w.heap.size lv D2) := HL1.out.below (ba (b0 _) _)
        go_wp2_with (at_builtin; refine pushFl _ rfl _ _ rfl w.heap.size lv D2 rfl HV2.out w0.heap.size f rfl HA1.out (by have := HN2.out; omega) (by have := HBW.out.size; simp; omega) ?_
                     intro g5 c5 w2 ho5 hg5 hl5
                     have HO5 := hide ho5
                     have HG5 : Hid (w0.grownBy w2 lv.ownBlock) := (World.grownBy_alloc w0 _ _).trans hg5
                     have HP5 : Hid (lv.ownBlock = some g5 ∨ w0.heap.size ≤ g5) := hl5.imp id (fun e => by rw [e]; simp)
                     have HZ5 : Hid (w0.heap.size ≤ w2.heap.size) := HG5.out.size
                     clear ho5 hg5 hl5)
        go_roundw
        case rel =>
          refine ⟨i + 1, v, _, by omega, rfl, rfl, by go_num, ?_, ?_, ?_, ?_⟩
          · show OwnL _ _ _ _
            rw [HS1.out]
            exact HV1.out.kept HG5.out (fun j e e2 => HAP.out j e e2)
          · show OwnL _ _ _ _
            rw [HS2.out]
            exact HO5.out
          · intro j e e2
            have e3 : g5 = j := Option.some.inj e2
            subst e3
            rcases HP5.out with h5 | h5
            · exact HAP.out g5 e h5
            · have := (HV1.out.blk g5 e).2; omega
          · exact HBW.out.grown HG5.out HBW.out.size (fun j e => (HL1.out.blk j e).1)
        case measure => simp [intOf]; omega
      · rw [if_neg (by rw [hq]; simp)] at HS1
        rw [if_pos (by rw [hq]; rfl)] at HS2
        clear hq hmay
        have HA1 : Hid (At8 (w0.alloc (.cells #[.int .i64 f.k, .int .i64 f.j, .int .i64 f.t, .int .i64 f.a, .int .i64 f.m, .int .i64 f.r, .int .i64 f.p, .int .u32 (f.q.toNat : Int)] 25)) w0.heap.size 0 f) := by
          obtain ⟨e0, e1, e2, e3, e4, e5, e6, e7⟩ := (FB.new w0 f).cells
          exact ⟨e0, e1, e2, e3, e4, e5, e6, e7⟩
        have HV2 : Hid (OwnL (w0.alloc (.cells #[.int .i64 f.k, .int .i64 f.j, .int .i64 f.t, .int .i64 f.a, .int .i64 f.m, .int .i64 f.r, .int .i64 f.p, .int .u32 (f.q.toNat : Int)] 25)) w.heap.size lv D2) := HL1.out.below (ba (b0 _) _)
        go_wp2_with (at_builtin; refine pushFl _ rfl _ _ rfl w.heap.size lv D2 rfl HV2.out w0.heap.size f rfl HA1.out (by have := HN2.out; omega) (by have := HBW.out.size; simp; omega) ?_
                     intro g5 c5 w2 ho5 hg5 hl5
                     have HO5 := hide ho5
                     have HG5 : Hid (w0.grownBy w2 lv.ownBlock) := (World.grownBy_alloc w0 _ _).trans hg5
                     have HP5 : Hid (lv.ownBlock = some g5 ∨ w0.heap.size ≤ g5) := hl5.imp id (fun e => by rw [e]; simp)
                     have HZ5 : Hid (w0.heap.size ≤ w2.heap.size) := HG5.out.size
                     clear ho5 hg5 hl5)
        go_roundw
        case rel =>
          refine ⟨i + 1, v, _, by omega, rfl, rfl, by go_num, ?_, ?_, ?_, ?_⟩
          · show OwnL _ _ _ _
            rw [HS1.out]
            exact HV1.out.kept HG5.out (fun j e e2 => HAP.out j e e2)
          · show OwnL _ _ _ _
            rw [HS2.out]
            exact HO5.out
          · intro j e e2
            have e3 : g5 = j := Option.some.inj e2
            subst e3
            rcases HP5.out with h5 | h5
            · exact HAP.out g5 e h5
            · have := (HV1.out.blk g5 e).2; omega
          · exact HBW.out.grown HG5.out HBW.out.size (fun j e => (HL1.out.blk j e).1)
        case measure => simp [intOf]; omega
      · rw [if_neg (by rw [hq]; simp)] at HS1
        rw [if_pos (by rw [hq]; rfl)] at HS2
        clear hq hmay
        have HA1 : Hid (At8 (w0.alloc (.cells #[.int .i64 f.k, .int .i64 f.j, .int .i64 f.t, .int .i64 f.a, .int .i64 f.m, .int .i64 f.r, .int .i64 f.p, .int .u32 (f.q.toNat : Int)] 25)) w0.heap.size 0 f) := by
          obtain ⟨e0, e1, e2, e3, e4, e5, e6, e7⟩ := (FB.new w0 f).cells
          exact ⟨e0, e1, e2, e3, e4, e5, e6, e7⟩
        have HV2 : Hid (OwnL (w0.alloc (.cells #[.int .i64 f.k, .int .i64 f.j, .int .i64 f.t, .int .i64 f.a, .int .i64 f.m, .int .i64 f.r, .int .i64 f.p, .int .u32 (f.q.toNat : Int)] 25)) w.heap.size lv D2) := HL1.out.below (ba (b0 _) _)
        go_wp2_with (at_builtin; refine pushFl _ rfl _ _ rfl w.heap.size lv D2 rfl HV2.out w0.heap.size f rfl HA1.out (by have := HN2.out; omega) (by have := HBW.out.size; simp; omega) ?_
                     intro g5 c5 w2 ho5 hg5 hl5
                     have HO5 := hide ho5
                     have HG5 : Hid (w0.grownBy w2 lv.ownBlock) := (World.grownBy_alloc w0 _ _).trans hg5
                     have HP5 : Hid (lv.ownBlock = some g5 ∨ w0.heap.size ≤ g5) := hl5.imp id (fun e => by rw [e]; simp)
                     have HZ5 : Hid (w0.heap.size ≤ w2.heap.size) := HG5.out.size
                     clear ho5 hg5 hl5)
        go_roundw
        case rel =>
          refine ⟨i + 1, v, _, by omega, rfl, rfl, by go_num, ?_, ?_, ?_, ?_⟩
          · show OwnL _ _ _ _
            rw [HS1.out]
            exact HV1.out.kept HG5.out (fun j e e2 => HAP.out j e e2)
          · show OwnL _ _ _ _
            rw [HS2.out]
            exact HO5.out
          · intro j e e2
            have e3 : g5 = j := Option.some.inj e2
            subst e3
            rcases HP5.out with h5 | h5
            · exact HAP.out g5 e h5
            · have := (HV1.out.blk g5 e).2; omega
          · exact HBW.out.grown HG5.out HBW.out.size (fun j e => (HL1.out.blk j e).1)
        case measure => simp [intOf]; omega
      · rw [if_neg (by rw [hq]; simp)] at HS1
        rw [if_pos (by rw [hq]; rfl)] at HS2
        clear hq hmay
        have HA1 : Hid (At8 (w0.alloc (.cells #[.int .i64 f.k, .int .i64 f.j, .int .i64 f.t, .int .i64 f.a, .int .i64 f.m, .int .i64 f.r, .int .i64 f.p, .int .u32 (f.q.toNat : Int)] 25)) w0.heap.size 0 f) := by
          obtain ⟨e0, e1, e2, e3, e4, e5, e6, e7⟩ := (FB.new w0 f).cells
          exact ⟨e0, e1, e2, e3, e4, e5, e6, e7⟩
        have HV2 : Hid (OwnL (w0.alloc (.cells #[.int .i64 f.k, .int .i64 f.j, .int .i64 f.t, .int .i64 f.a, .int .i64 f.m, .int .i64 f.r, .int .i64 f.p, .int .u32 (f.q.toNat : Int)] 25)) w.heap.size lv D2) := HL1.out.below (ba (b0 _) _)
        go_wp2_with (at_builtin; refine pushFl _ rfl _ _ rfl w.heap.size lv D2 rfl HV2.out w0.heap.size f rfl HA1.out (by have := HN2.out; omega) (by have := HBW.out.size; simp; omega) ?_
                     intro g5 c5 w2 ho5 hg5 hl5
                     have HO5 := hide ho5
                     have HG5 : Hid (w0.grownBy w2 lv.ownBlock) := (World.grownBy_alloc w0 _ _).trans hg5
                     have HP5 : Hid (lv.ownBlock = some g5 ∨ w0.heap.size ≤ g5) := hl5.imp id (fun e => by rw [e]; simp)
                     have HZ5 : Hid (w0.heap.size ≤ w2.heap.size) := HG5.out.size
                     clear ho5 hg5 hl5)
        go_roundw
        case rel =>
          refine ⟨i + 1, v, _, by omega, rfl, rfl, by go_num, ?_, ?_, ?_, ?_⟩
          · show OwnL _ _ _ _
            rw [HS1.out]
            exact HV1.out.kept HG5.out (fun j e e2 => HAP.out j e e2)
          · show OwnL _ _ _ _
            rw [HS2.out]
            exact HO5.out
          · intro j e e2
            have e3 : g5 = j := Option.some.inj e2
            subst e3
            rcases HP5.out with h5 | h5
            · exact HAP.out g5 e h5
            · have := (HV1.out.blk g5 e).2; omega
          · exact HBW.out.grown HG5.out HBW.out.size (fun j e => (HL1.out.blk j e).1)
        case measure => simp [intOf]; omega
      · rw [if_pos hq] at HS1
        rw [if_neg (by rw [hq]; simp)] at HS2
        clear hq hmay
        have HA1 : Hid (At8 (w0.alloc (.cells #[.int .i64 f.k, .int .i64 f.j, .int .i64 f.t, .int .i64 f.a, .int .i64 f.m, .int .i64 f.r, .int .i64 f.p, .int .u32 (f.q.toNat : Int)] 25)) w0.heap.size 0 f) := by
          obtain ⟨e0, e1, e2, e3, e4, e5, e6, e7⟩ := (FB.new w0 f).cells
          exact ⟨e0, e1, e2, e3, e4, e5, e6, e7⟩
        have HV2 : Hid (OwnL (w0.alloc (.cells #[.int .i64 f.k, .int .i64 f.j, .int .i64 f.t, .int .i64 f.a, .int .i64 f.m, .int .i64 f.r, .int .i64 f.p, .int .u32 (f.q.toNat : Int)] 25)) w.heap.size v D1) := HV1.out.below (ba (b0 _) _)
        go_wp2_with (at_builtin; refine pushFl _ rfl _ _ rfl w.heap.size v D1 rfl HV2.out w0.heap.size f rfl HA1.out (by have := HN1.out; omega) (by have := HBW.out.size; simp; omega) ?_
                     intro g5 c5 w2 ho5 hg5 hl5
                     have HO5 := hide ho5
                     have HG5 : Hid (w0.grownBy w2 v.ownBlock) := (World.grownBy_alloc w0 _ _).trans hg5
                     have HP5 : Hid (v.ownBlock = some g5 ∨ w0.heap.size ≤ g5) := hl5.imp id (fun e => by rw [e]; simp)
                     have HZ5 : Hid (w0.heap.size ≤ w2.heap.size) := HG5.out.size
                     clear ho5 hg5 hl5)
        go_roundw
        case rel =>
          refine ⟨i + 1, _, lv, by omega, rfl, rfl, by go_num, ?_, ?_, ?_, ?_⟩
          · show OwnL _ _ _ _
            rw [HS1.out]
            exact HO5.out
          · show OwnL _ _ _ _
            rw [HS2.out]
            exact HL1.out.kept HG5.out (fun j e e2 => HAP.out j e2 e)
          · intro j e e2
            have e3 : g5 = j := Option.some.inj e
            subst e3
            rcases HP5.out with h5 | h5
            · exact HAP.out g5 h5 e2
            · have := (HL1.out.blk g5 e2).2; omega
          · exact HBW.out.grown HG5.out HBW.out.size (fun j e => (HV1.out.blk j e).1)
        case measure => simp [intOf]; omega
      · rw [if_pos hq] at HS1
        rw [if_neg (by rw [hq]; simp)] at HS2
        clear hq hmay
        have HA1 : Hid (At8 (w0.alloc (.cells #[.int .i64 f.k, .int .i64 f.j, .int .i64 f.t, .int .i64 f.a, .int .i64 f.m, .int .i64 f.r, .int .i64 f.p, .int .u32 (f.q.toNat : Int)] 25)) w0.heap.size 0 f) := by
          obtain ⟨e0, e1, e2, e3, e4, e5, e6, e7⟩ := (FB.new w0 f).cells
          exact ⟨e0, e1, e2, e3, e4, e5, e6, e7⟩
        have HV2 : Hid (OwnL (w0.alloc (.cells #[.int .i64 f.k, .int .i64 f.j, .int .i64 f.t, .int .i64 f.a, .int .i64 f.m, .int .i64 f.r, .int .i64 f.p, .int .u32 (f.q.toNat : Int)] 25)) w.heap.size v D1) := HV1.out.below (ba (b0 _) _)
        go_wp2_with (at_builtin; refine pushFl _ rfl _ _ rfl w.heap.size v D1 rfl HV2.out w0.heap.size f rfl HA1.out (by have := HN1.out; omega) (by have := HBW.out.size; simp; omega) ?_
                     intro g5 c5 w2 ho5 hg5 hl5
                     have HO5 := hide ho5
                     have HG5 : Hid (w0.grownBy w2 v.ownBlock) := (World.grownBy_alloc w0 _ _).trans hg5
                     have HP5 : Hid (v.ownBlock = some g5 ∨ w0.heap.size ≤ g5) := hl5.imp id (fun e => by rw [e]; simp)
                     have HZ5 : Hid (w0.heap.size ≤ w2.heap.size) := HG5.out.size
                     clear ho5 hg5 hl5)
        go_roundw
        case rel =>
          refine ⟨i + 1, _, lv, by omega, rfl, rfl, by go_num, ?_, ?_, ?_, ?_⟩
          · show OwnL _ _ _ _
            rw [HS1.out]
            exact HO5.out
          · show OwnL _ _ _ _
            rw [HS2.out]
            exact HL1.out.kept HG5.out (fun j e e2 => HAP.out j e2 e)
          · intro j e e2
            have e3 : g5 = j := Option.some.inj e
            subst e3
            rcases HP5.out with h5 | h5
            · exact HAP.out g5 h5 e2
            · have := (HL1.out.blk g5 e2).2; omega
          · exact HBW.out.grown HG5.out HBW.out.size (fun j e => (HV1.out.blk j e).1)
        case measure => simp [intOf]; omega
    · obtain rfl : i = n := by omega
      have hall : fs.take i = fs := List.take_of_length_le (by rw [HL.out]; exact Nat.le_refl _)
      rw [hall] at HV HLV
      have HP1 := hide (HP.out.below HB.out)
      have e1 := HP1.out.cell
      have e2 := HP1.out.fz
      clear hall
      obtain ⟨ga, gc, rfl, _, _⟩ := HLV.out.shape
      go_wp2_with fail
      go_ret
      refine ⟨_, _, rfl, HV.out.kept (grown_cell (World.grownBy.refl _ _) 0 _) (fun j e e3 => HP1.out.apart HV.out j e (Option.some.inj e3).symm), HLV.out.kept (grown_cell (World.grownBy.refl _ _) 0 _) (fun j e e3 => HP1.out.apart HLV.out j e (Option.some.inj e3).symm), HP1.out.set _, HAP.out, ?_⟩
      exact grown_cell (grown_any (below_grown HB.out) _) 0 _
end Go.Proofs.Ytbmbhcjocgbbpaa.Fa
