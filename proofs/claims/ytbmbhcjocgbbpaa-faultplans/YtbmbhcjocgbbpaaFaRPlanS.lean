/-
  The document's plans: Stop.
-/
import Derived.Test.YtbmbhcjocgbbpaaFaRPlanA
namespace Go.Proofs.Ytbmbhcjocgbbpaa.Fa
open Go.ChangeShapes Go.WideShapes Go.ChangeAt Go.RowKit
open Go.Proofs.Ytbmbhcjocgbbpaa.Base
set_option linter.unusedVariables false
/-- What the document's Stop tells of the entries that are taken: the last one's place. -/
def stopE (L : List Flt) : Int × Bool := L.foldl (fun _ f => (f.p, true)) (0, false)
theorem stopE_snoc (L : List Flt) (f : Flt) : stopE (L ++ [f]) = (f.p, true) := by unfold stopE; rw [List.foldl_append]; rfl
set_option maxHeartbeats 4000000 in
set_option maxRecDepth 100000 in
theorem rstop_any (k t at_ : Int) (p lb n cap : Nat) (la : Option Addr) (fs : List Flt) (w : World) (hp : RPl w p (.slice la n cap)) (ho : OwnL w lb (.slice la n cap) fs) (hn : n ≤ 1048576) :
    Calls Try.prog 25 #[.pointer (some ⟨p, 0, none⟩), .int .i64 k, .int .i64 t, .int .i64 at_] w fun e w' => ∃ lv, e = .returned (.tuple #[.int .i64 (stopE (fs.filter (isStop ((0, k, t, at_) : P4)))).1, .bool (stopE (fs.filter (isStop ((0, k, t, at_) : P4)))).2]) ∧ OwnL w' w.heap.size lv (fs.filter (fun f => !isStop ((0, k, t, at_) : P4) f)) ∧ RPl w' p lv ∧ w.grownBy w' (some p) := by
  have HL := hide ho.len.1
  have HR := hide ho.rdl
  have HP := hide hp
  have hpc := hp.cell
  have hni : (n : Int) ≤ 1048576 := by omega
  clear ho hp
  go_enter Try.func25, Try.ntmps25
  go_wp2_with fail
  go_loopw [10, 11, 12, 13] (fun sl sa st si wr => ∃ (i : Nat) (lv : Value) (at1 : Int) (th1 : Bool), i ≤ n ∧ lv = sl ∧ .int .i64 at1 = sa ∧ .bool th1 = st ∧ .int .i64 (i : Int) = si ∧ Hid (OwnL wr w.heap.size lv ((fs.take i).filter (fun f => !isStop ((0, k, t, at_) : P4) f))) ∧ Hid (stopE ((fs.take i).filter (isStop ((0, k, t, at_) : P4))) = (at1, th1)) ∧ Hid (Below w.heap.size w wr)) (fun _ _ _ si _ => n - (intOf si).toNat)
  case atStart => exact ⟨0, _, 0, false, by omega, rfl, rfl, rfl, rfl, ownl_none _ _, rfl, b0 _⟩
  case round =>
    clear hpc
    obtain ⟨i, lv, at1, th1, hi, rfl, rfl, rfl, rfl, HLV, HVV, HB⟩ := hrel
    by_cases hin : i < n
    ·
      have hii : (i : Int) < (n : Int) := by omega
      obtain ⟨b1, o1, rfl, hl1, hc1⟩ := HR.out.2 (by omega)
      obtain ⟨f, hf⟩ : ∃ f, fs.getD i f0 = f := ⟨_, rfl⟩
      obtain ⟨p0, p1, p2, p3, p4, p5, p6, p7⟩ := (hc1 i hin).same (w' := wr) (fun k => HB.out.cell (p := ⟨b1, k, none⟩) hl1)
      rw [hf] at p0 p1 p2 p3 p4 p5 p6 p7
      have HF := hide hf
      have hil : i < fs.length := by rw [← HL.out]; exact hin
      have HS1 := hide (filter_snoc (isStop ((0, k, t, at_) : P4)) fs i f hil HF.out)
      have HS2 := hide (filter_snoc (fun f => !isStop ((0, k, t, at_) : P4) f) fs i f hil HF.out)
      have HN1 := hide (filter_len (isStop ((0, k, t, at_) : P4)) fs i)
      have HN2 := hide (filter_len (fun f => !isStop ((0, k, t, at_) : P4) f) fs i)
      clear hf hc1
      have HPW := hide (HP.out.below HB.out)
      have hpc := HPW.out.cell
      obtain ⟨w0, hw0⟩ : ∃ w0, wr.alloc (.cells #[.int .i64 f.k, .int .i64 f.j, .int .i64 f.t, .int .i64 f.a, .int .i64 f.m, .int .i64 f.r, .int .i64 f.p, .int .u32 (f.q.toNat : Int)] 25) = w0 := ⟨_, rfl⟩
      have HF0 : Hid (FB w0 wr.heap.size f) := by show FB _ _ _; rw [← hw0]; exact FB.new wr f
      have HB0 : Hid (Below wr.heap.size wr w0) := by show Below _ _ _; rw [← hw0]; exact ba (b0 _) _
      obtain ⟨t0, t1, t2, t3, t4, t5, t6, t7⟩ := HF0.out.cells
      have HBW := hide (below_trans HB.out HB0.out)
      have HL1 := hide (HLV.out.below HB0.out)
      have HM := hide HVV
      generalize hD1 : (fs.take i).filter (isStop ((0, k, t, at_) : P4)) = D1 at HS1 HN1 HM
      generalize hD2 : (fs.take i).filter (fun f => !isStop ((0, k, t, at_) : P4) f) = D2 at HL1 HS2 HN2
      clear hD1 hD2
      rcases four_cases f.k f.j f.t f.a 0 k t at_ _ (isStop_eq ((0, k, t, at_) : P4) f) with ⟨q1, hq⟩ | ⟨q1, q2, hq⟩ | ⟨q1, q2, q3, hq⟩ | ⟨q1, q2, q3, q4, hq⟩ | ⟨q1, q2, q3, q4, hq⟩
      · rw [if_neg (by rw [hq]; simp)] at HS1
        rw [if_pos (by rw [hq]; rfl)] at HS2
        clear hq
        have HA1 : Hid (At8 (w0.alloc (.cells #[.int .i64 f.k, .int .i64 f.j, .int .i64 f.t, .int .i64 f.a, .int .i64 f.m, .int .i64 f.r, .int .i64 f.p, .int .u32 (f.q.toNat : Int)] 25)) w0.heap.size 0 f) := by
          obtain ⟨e0, e1, e2, e3, e4, e5, e6, e7⟩ := (FB.new w0 f).cells
          exact ⟨e0, e1, e2, e3, e4, e5, e6, e7⟩
        have HV2 : Hid (OwnL (w0.alloc (.cells #[.int .i64 f.k, .int .i64 f.j, .int .i64 f.t, .int .i64 f.a, .int .i64 f.m, .int .i64 f.r, .int .i64 f.p, .int .u32 (f.q.toNat : Int)] 25)) w.heap.size lv D2) := HL1.out.below (ba (b0 _) _)
        go_wp2_with (at_builtin; refine pushFl _ rfl _ _ rfl w.heap.size lv D2 rfl HV2.out w0.heap.size f rfl HA1.out (by have := HN2.out; omega) (by have := HBW.out.size; simp; omega) ?_
                     intro g5 c5 w2 ho5 hg5 hl5
                     have HO5 := hide ho5
                     have HG5 : Hid (w0.grownBy w2 lv.ownBlock) := (World.grownBy_alloc w0 _ _).trans hg5
                     have HP5 : Hid (lv.ownBlock = some g5 ∨ w0.heap.size ≤ g5) := hl5.imp id (fun e => by rw [e]; simp)
                     have HZ5 : Hid (w0.heap.size ≤ w2.heap.size) := HG5.out.size
                     clear ho5 hg5 hl5)
        go_roundw
        case rel =>
          refine ⟨i + 1, _, at1, th1, by omega, rfl, rfl, rfl, by go_num, ?_, ?_, ?_⟩
          · show OwnL _ _ _ _
            rw [HS2.out]
            exact HO5.out
          · show _ = _
            rw [HS1.out]
            exact HM.out
          · exact HBW.out.grown HG5.out HBW.out.size (fun j e => (HL1.out.blk j e).1)
        case measure => simp [intOf]; omega
      · rw [if_neg (by rw [hq]; simp)] at HS1
        rw [if_pos (by rw [hq]; rfl)] at HS2
        clear hq
        have HA1 : Hid (At8 (w0.alloc (.cells #[.int .i64 f.k, .int .i64 f.j, .int .i64 f.t, .int .i64 f.a, .int .i64 f.m, .int .i64 f.r, .int .i64 f.p, .int .u32 (f.q.toNat : Int)] 25)) w0.heap.size 0 f) := by
          obtain ⟨e0, e1, e2, e3, e4, e5, e6, e7⟩ := (FB.new w0 f).cells
          exact ⟨e0, e1, e2, e3, e4, e5, e6, e7⟩
        have HV2 : Hid (OwnL (w0.alloc (.cells #[.int .i64 f.k, .int .i64 f.j, .int .i64 f.t, .int .i64 f.a, .int .i64 f.m, .int .i64 f.r, .int .i64 f.p, .int .u32 (f.q.toNat : Int)] 25)) w.heap.size lv D2) := HL1.out.below (ba (b0 _) _)
        go_wp2_with (at_builtin; refine pushFl _ rfl _ _ rfl w.heap.size lv D2 rfl HV2.out w0.heap.size f rfl HA1.out (by have := HN2.out; omega) (by have := HBW.out.size; simp; omega) ?_
                     intro g5 c5 w2 ho5 hg5 hl5
                     have HO5 := hide ho5
                     have HG5 : Hid (w0.grownBy w2 lv.ownBlock) := (World.grownBy_alloc w0 _ _).trans hg5
                     have HP5 : Hid (lv.ownBlock = some g5 ∨ w0.heap.size ≤ g5) := hl5.imp id (fun e => by rw [e]; simp)
                     have HZ5 : Hid (w0.heap.size ≤ w2.heap.size) := HG5.out.size
                     clear ho5 hg5 hl5)
        go_roundw
        case rel =>
          refine ⟨i + 1, _, at1, th1, by omega, rfl, rfl, rfl, by go_num, ?_, ?_, ?_⟩
          · show OwnL _ _ _ _
            rw [HS2.out]
            exact HO5.out
          · show _ = _
            rw [HS1.out]
            exact HM.out
          · exact HBW.out.grown HG5.out HBW.out.size (fun j e => (HL1.out.blk j e).1)
        case measure => simp [intOf]; omega
      · rw [if_neg (by rw [hq]; simp)] at HS1
        rw [if_pos (by rw [hq]; rfl)] at HS2
        clear hq
        have HA1 : Hid (At8 (w0.alloc (.cells #[.int .i64 f.k, .int .i64 f.j, .int .i64 f.t, .int .i64 f.a, .int .i64 f.m, .int .i64 f.r, .int .i64 f.p, .int .u32 (f.q.toNat : Int)] 25)) w0.heap.size 0 f) := by
          obtain ⟨e0, e1, e2, e3, e4, e5, e6, e7⟩ := (FB.new w0 f).cells
          exact ⟨e0, e1, e2, e3, e4, e5, e6, e7⟩
        have HV2 : Hid (OwnL (w0.alloc (.cells #[.int .i64 f.k, .int .i64 f.j, .int .i64 f.t, .int .i64 f.a, .int .i64 f.m, .int .i64 f.r, .int .i64 f.p, .int .u32 (f.q.toNat : Int)] 25)) w.heap.size lv D2) := HL1.out.below (ba (b0 _) _)
        go_wp2_with (at_builtin; refine pushFl _ rfl _ _ rfl w.heap.size lv D2 rfl HV2.out w0.heap.size f rfl HA1.out (by have := HN2.out; omega) (by have := HBW.out.size; simp; omega) ?_
                     intro g5 c5 w2 ho5 hg5 hl5
                     have HO5 := hide ho5
                     have HG5 : Hid (w0.grownBy w2 lv.ownBlock) := (World.grownBy_alloc w0 _ _).trans hg5
                     have HP5 : Hid (lv.ownBlock = some g5 ∨ w0.heap.size ≤ g5) := hl5.imp id (fun e => by rw [e]; simp)
                     have HZ5 : Hid (w0.heap.size ≤ w2.heap.size) := HG5.out.size
                     clear ho5 hg5 hl5)
        go_roundw
        case rel =>
          refine ⟨i + 1, _, at1, th1, by omega, rfl, rfl, rfl, by go_num, ?_, ?_, ?_⟩
          · show OwnL _ _ _ _
            rw [HS2.out]
            exact HO5.out
          · show _ = _
            rw [HS1.out]
            exact HM.out
          · exact HBW.out.grown HG5.out HBW.out.size (fun j e => (HL1.out.blk j e).1)
        case measure => simp [intOf]; omega
      · rw [if_neg (by rw [hq]; simp)] at HS1
        rw [if_pos (by rw [hq]; rfl)] at HS2
        clear hq
        have HA1 : Hid (At8 (w0.alloc (.cells #[.int .i64 f.k, .int .i64 f.j, .int .i64 f.t, .int .i64 f.a, .int .i64 f.m, .int .i64 f.r, .int .i64 f.p, .int .u32 (f.q.toNat : Int)] 25)) w0.heap.size 0 f) := by
          obtain ⟨e0, e1, e2, e3, e4, e5, e6, e7⟩ := (FB.new w0 f).cells
          exact ⟨e0, e1, e2, e3, e4, e5, e6, e7⟩
        have HV2 : Hid (OwnL (w0.alloc (.cells #[.int .i64 f.k, .int .i64 f.j, .int .i64 f.t, .int .i64 f.a, .int .i64 f.m, .int .i64 f.r, .int .i64 f.p, .int .u32 (f.q.toNat : Int)] 25)) w.heap.size lv D2) := HL1.out.below (ba (b0 _) _)
        go_wp2_with (at_builtin; refine pushFl _ rfl _ _ rfl w.heap.size lv D2 rfl HV2.out w0.heap.size f rfl HA1.out (by have := HN2.out; omega) (by have := HBW.out.size; simp; omega) ?_
                     intro g5 c5 w2 ho5 hg5 hl5
                     have HO5 := hide ho5
                     have HG5 : Hid (w0.grownBy w2 lv.ownBlock) := (World.grownBy_alloc w0 _ _).trans hg5
                     have HP5 : Hid (lv.ownBlock = some g5 ∨ w0.heap.size ≤ g5) := hl5.imp id (fun e => by rw [e]; simp)
                     have HZ5 : Hid (w0.heap.size ≤ w2.heap.size) := HG5.out.size
                     clear ho5 hg5 hl5)
        go_roundw
        case rel =>
          refine ⟨i + 1, _, at1, th1, by omega, rfl, rfl, rfl, by go_num, ?_, ?_, ?_⟩
          · show OwnL _ _ _ _
            rw [HS2.out]
            exact HO5.out
          · show _ = _
            rw [HS1.out]
            exact HM.out
          · exact HBW.out.grown HG5.out HBW.out.size (fun j e => (HL1.out.blk j e).1)
        case measure => simp [intOf]; omega
      · rw [if_pos hq] at HS1
        rw [if_neg (by rw [hq]; simp)] at HS2
        clear hq
        go_wp2_with fail
        go_roundw
        case rel =>
          refine ⟨i + 1, lv, f.p, true, by omega, rfl, rfl, rfl, by go_num, ?_, ?_, HBW⟩
          · show OwnL _ _ _ _
            rw [HS2.out]
            exact HL1.out
          · show _ = _
            rw [HS1.out, stopE_snoc]
        case measure => simp [intOf]; omega
    · obtain rfl : i = n := by omega
      have hall : fs.take i = fs := List.take_of_length_le (by rw [HL.out]; exact Nat.le_refl _)
      rw [hall] at HLV HVV
      have HP1 := hide (HP.out.below HB.out)
      have e1 := HP1.out.cell
      have e2 := HP1.out.fz
      clear hall
      obtain ⟨ga, gc, rfl, _, _⟩ := HLV.out.shape
      go_wp2_with fail
      go_ret2
      rw [HVV.out]
      refine ⟨_, rfl, HLV.out.kept (grown_cell (World.grownBy.refl _ _) 0 _) (fun j e e3 => HP1.out.apart HLV.out j e (Option.some.inj e3).symm), HP1.out.set _, ?_⟩
      exact grown_cell (grown_any (below_grown HB.out) _) 0 _
end Go.Proofs.Ytbmbhcjocgbbpaa.Fa
