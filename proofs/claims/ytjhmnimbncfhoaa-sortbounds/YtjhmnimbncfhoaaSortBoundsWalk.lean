/-
  SortBounds: records are added one by one, with a Take whenever there is no room.
-/
import Derived.Test.YtjhmnimbncfhoaaSoAdd
import Derived.Test.YtjhmnimbncfhoaaSoTake
import Derived.Test.YtjhmnimbncfhoaaSortMergesWalk
namespace Go.Proofs.Ytjhmnimbncfhoaa.So
open Go.ChangeShapes Go.WideShapes Go.ChangeAt Go.RowKit
open Go.Proofs.Ytjhmnimbncfhoaa.Base
set_option linter.unusedVariables false
def sumC (P : List Rec) : Int := (P.map costR).sum
theorem sumC_nil : sumC [] = 0 := rfl
theorem sumC_snoc (P : List Rec) (r : Rec) : sumC (P ++ [r]) = sumC P + costR r := by
  unfold sumC; rw [List.map_append, List.sum_append]; simp
/-- Sizes within reach. -/
def Fit (rs : List Rec) : Prop := ∀ r ∈ rs, r.k.size ≤ 140737488355328 ∧ r.v.size ≤ 140737488355328
theorem Fit.getD {rs : List Rec} (h : Fit rs) (j : Nat) : (rs.getD j rec0).k.size ≤ 140737488355328 ∧ (rs.getD j rec0).v.size ≤ 140737488355328 := by
  rw [List.getD_eq_getElem?_getD]
  cases hq : rs[j]? with
  | none => exact ⟨by decide, by decide⟩
  | some r => exact h r (List.mem_of_getElem? hq)
theorem Fit.fine {rs : List Rec} (h : Fit rs) : Fine rs := fun r hr => by have := h r hr; exact ⟨by omega, by omega⟩
theorem fine_take {rs D P : List Rec} {i : Nat} (h : Fine rs) (e : D ++ P = rs.take i) : Fine D ∧ Fine P := by
  have h1 : ∀ r ∈ D ++ P, r ∈ rs := fun r hr => by rw [e] at hr; exact List.mem_of_mem_take hr
  exact ⟨fun r hr => h r (h1 r (List.mem_append_left _ hr)), fun r hr => h r (h1 r (List.mem_append_right _ hr))⟩
/-- What holds between the rounds: D has been taken, P lies in the buffer. -/
structure BI (w0 wr : World) (b base : Nat) (most : Int) (va v : Value) (D P : List Rec) : Prop where
  all : OwnR wr base va (isort D)
  buf : BF wr b v (sumC P) most
  lst : OwnR wr base v P
  apart : ∀ j, v.ownBlock = some j → va.ownBlock ≠ some j
  bel : Below w0.heap.size w0 wr
  low : w0.heap.size ≤ b ∧ b < base ∧ w0.heap.size ≤ base ∧ base ≤ wr.heap.size
  sum : 0 ≤ sumC P ∧ sumC P ≤ 562949953425567
theorem BI.below {w0 wr w' : World} {b base : Nat} {most : Int} {va v : Value} {D P : List Rec} (h : BI w0 wr b base most va v D P) (hb : Below wr.heap.size wr w') : BI w0 w' b base most va v D P :=
  ⟨h.all.below hb, h.buf.below hb, h.lst.below hb, h.apart, below_trans h.bel hb, ⟨h.low.1, h.low.2.1, h.low.2.2.1, Nat.le_trans h.low.2.2.2 hb.size⟩, h.sum⟩
/-- The world behind a call that turns the buffer's blocks alone. -/
theorem BI.turn {w0 wr w' : World} {b base : Nat} {most : Int} {va v : Value} {D P : List Rec} (h : BI w0 wr b base most va v D P) (hk : Kept2 wr w' (some b) v.ownBlock) : OwnR w' base va (isort D) ∧ Below w0.heap.size w0 w' ∧ base ≤ w'.heap.size := by
  refine ⟨h.all.same (fun i e => hk.block i (h.all.blk i e).2 (fun e2 => by have h1 := (h.all.blk i e).1; have h2 := Option.some.inj e2; have h3 := h.low.2.1; omega) (fun e2 => h.apart i e2.symm e)), ?_, Nat.le_trans h.low.2.2.2 hk.size⟩
  exact Kept2.below h.bel hk (fun i e => by have h2 := Option.some.inj e; have h3 := h.low.1; omega) (fun i e => by have h1 := (h.lst.blk i e).1; have h3 := h.low.2.2.1; omega)
theorem BI.added {w0 wr w' : World} {b base g c : Nat} {most : Int} {va v : Value} {D P : List Rec} {x : Rec} (h : BI w0 wr b base most va v D P) (hbf : BF w' b (.slice (some ⟨g, 0, none⟩) (P.length + 1) c) (sumC P + costR x) most) (ho : OwnR w' base (.slice (some ⟨g, 0, none⟩) (P.length + 1) c) (P ++ [x])) (hk : Kept2 wr w' (some b) v.ownBlock) (hloc : v.ownBlock = some g ∨ wr.heap.size ≤ g)
    (hc : 0 ≤ costR x ∧ costR x ≤ 281474976710688) (hs : P.length = 0 ∨ sumC P + costR x ≤ most) (hm : most ≤ 4255) : BI w0 w' b base most va (.slice (some ⟨g, 0, none⟩) (P.length + 1) c) D (P ++ [x]) := by
  obtain ⟨h1, h2, h3⟩ := h.turn hk
  refine ⟨h1, by rw [sumC_snoc]; exact hbf, ho, ?_, h2, ⟨h.low.1, h.low.2.1, h.low.2.2.1, h3⟩, ?_⟩
  · intro j e e2
    have e3 : g = j := Option.some.inj e
    subst e3
    rcases hloc with q | q
    · exact h.apart g q e2
    · have := (h.all.blk g e2).2; omega
  · rw [sumC_snoc]
    have h4 := h.sum
    rcases hs with q | q
    · have : P = [] := List.length_eq_zero_iff.1 q
      subst this
      rw [sumC_nil]
      omega
    · omega
/-- What was taken is merged. -/
theorem BI.taken {w0 wr w6 w7 : World} {b base : Nat} {most : Int} {va v v7 : Value} {D P : List Rec} (h : BI w0 wr b base most va v D P) (hk : Kept2 wr w6 (some b) v.ownBlock) (hbf : BF w6 b (.slice none 0 0) 0 most) (hb : Below w6.heap.size w6 w7) (ho : OwnR w7 w6.heap.size v7 (isort (D ++ P))) : BI w0 w7 b base most v7 (.slice none 0 0) (D ++ P) [] := by
  obtain ⟨h1, h2, h3⟩ := h.turn hk
  exact ⟨ho.base h3, hbf.below hb, own_nil _ _, (fun j e => by cases e), below_trans h2 hb, ⟨h.low.1, h.low.2.1, h.low.2.2.1, Nat.le_trans h3 hb.size⟩, ⟨by rw [sumC_nil]; omega, by rw [sumC_nil]; omega⟩⟩
theorem costR_bound (r : Rec) (hk : r.k.size ≤ 140737488355328) (hv : r.v.size ≤ 140737488355328) : 0 ≤ costR r ∧ costR r ≤ 281474976710688 := by
  unfold costR; exact ⟨by omega, by omega⟩
set_option maxHeartbeats 16000000 in
set_option maxRecDepth 100000 in
theorem bwalk (Bd : Int) (a : Option Addr) (n cap : Nat) (rs : List Rec) (w : World) (hr : RdR w a n rs) (hF : Fit rs) (hl : n * 40 ≤ 140737488351232) :
    Calls Try.prog 6 #[.int .i64 Bd, .slice a n cap] w fun e w' => e = .returned (.bool true) ∧ Below w.heap.size w w' := by
  have HR := hide hr
  have HF := hide hF
  have HFF := hide hF.fine
  have HRL := hide hr.1
  clear hr hF
  obtain ⟨t, ht⟩ : ∃ t, Int.tmod Bd 4000 = t := ⟨_, rfl⟩
  have htb : -4000 < t ∧ t < 4000 := by
    rw [← ht]
    refine ⟨?_, Int.tmod_lt_of_pos Bd (by omega)⟩
    rcases Int.le_total 0 Bd with h | h
    · have := Int.tmod_nonneg 4000 h; omega
    · have := Int.tmod_lt_of_pos (-Bd) (show (0 : Int) < 4000 by omega)
      rw [Int.neg_tmod] at this
      omega
  obtain ⟨ht1, ht2⟩ := htb
  go_enter Try.func6, Try.ntmps6
  go_upto_if 17 with fail
  go_cut [5] from 14 to 129 (fun s5 wx => ∃ m0 : Int, 0 ≤ m0 ∧ m0 < 4000 ∧ .int .i64 m0 = s5 ∧ w = wx)
  case first =>
    by_cases h0 : t < 0
    · have hneg : IntKind.i64.wrap (-t) = -t := by rw [IntKind.wrap_i64]; omega
      go_wp2_with fail
      go_meet
      case rel => exact ⟨-t, by omega, by omega, rfl, rfl⟩
    · go_wp2_with fail
      go_meet
      case rel => exact ⟨t, by omega, by omega, rfl, rfl⟩
  case rest =>
    obtain ⟨m0, hm0, hm1, rfl, rfl⟩ := hcut
    obtain ⟨most, hmost⟩ : ∃ most, m0 + 256 = most := ⟨_, rfl⟩
    have hwm : IntKind.i64.wrap (m0 + 256) = most := by rw [IntKind.wrap_i64]; omega
    have hb1 : 256 ≤ most := by omega
    have hb2 : most ≤ 4255 := by omega
    clear ht
    go_wp2_with fail
    refine (new_any most w hb1 (by omega)).mono ?_
    rintro e w1 ⟨b, rfl, hbf, hbl, hw1⟩
    have HI0 : Hid (BI w w1 b w1.heap.size most (.slice none 0 0) (.slice none 0 0) [] []) := ⟨own_nil _ _, hbf, own_nil _ _, (fun j e => by cases e), hw1, ⟨hbl, hbf.lt, hw1.size, Nat.le_refl _⟩, ⟨by rw [sumC_nil]; omega, by rw [sumC_nil]; omega⟩⟩
    obtain ⟨base, hbase⟩ : ∃ base, w1.heap.size = base := ⟨_, rfl⟩
    rw [hbase] at HI0
    clear hbf hbl hw1 hbase
    go_wp2_with fail
    go_loopw [8, 9, 10, 11] (fun s8 s9 s10 s11 wr => ∃ (va v : Value) (D P : List Rec) (i : Nat), va = s8 ∧ .int .i64 (sumC P) = s9 ∧ .int .i64 (P.length : Int) = s10 ∧ .int .i64 (i : Int) = s11 ∧ i ≤ n ∧ Hid (D ++ P = rs.take i) ∧ Hid (BI w wr b base most va v D P)) (fun _ _ _ s11 _ => n - (intOf s11).toNat)
    case atStart => exact ⟨_, _, [], [], 0, rfl, rfl, rfl, rfl, by omega, rfl, HI0⟩
    case round =>
      clear HI0
      obtain ⟨va, v, D, P, i, rfl, rfl, rfl, rfl, hi, HDP, HI⟩ := hrel
      have HPL : Hid (D.length + P.length = i) := by have h1 := congrArg List.length HDP.out; rw [List.length_append, List.length_take, HRL.out] at h1; show _ = _; omega
      by_cases hin : i < n
      · have hii : (i : Int) < (n : Int) := by omega
        obtain ⟨b2, o2, rfl, hl2, hc2⟩ := HR.out.2 (by omega)
        obtain ⟨e0, e1, e2⟩ := hc2 i hin
        have HY : Hid (∀ V, Below w.heap.size w V → V.cell? ⟨b2, o2 + i * 3, none⟩ = some (.int .i64 (rs.getD i rec0).p) ∧ V.cell? ⟨b2, o2 + i * 3 + 1, none⟩ = some (.string (rs.getD i rec0).k) ∧ V.cell? ⟨b2, o2 + i * 3 + 2, none⟩ = some (.string (rs.getD i rec0).v)) := fun V hV => ⟨(hV.cell (p := ⟨b2, o2 + i * 3, none⟩) hl2).trans e0, (hV.cell (p := ⟨b2, o2 + i * 3 + 1, none⟩) hl2).trans e1, (hV.cell (p := ⟨b2, o2 + i * 3 + 2, none⟩) hl2).trans e2⟩
        clear e0 e1 e2 hc2
        have HX := hide (take_snoc rs i (by rw [HRL.out]; exact hin))
        obtain ⟨hxk, hxv⟩ := HF.out.getD i
        generalize rs.getD i rec0 = x at HY HX hxk hxv
        obtain ⟨hcb0, hcb1⟩ := costR_bound x hxk hxv
        obtain ⟨co, hco⟩ : ∃ co, (x.k.size : Int) + (x.v.size : Int) + 32 = co := ⟨_, rfl⟩
        have HCO : Hid (costR x = co) := hco
        rw [HCO.out] at hcb0 hcb1
        obtain ⟨sm, hsm⟩ : ∃ sm, sumC P = sm := ⟨_, rfl⟩
        have HSM := hide hsm
        obtain ⟨hs0, hs1⟩ := HI.out.sum
        rw [hsm] at hs0 hs1
        obtain ⟨L, hL⟩ : ∃ L, P.length = L := ⟨_, rfl⟩
        have HLN := hide hL
        have hLb : L ≤ n := by have := HPL.out; omega
        rw [hsm, hL]
        clear hsm hL
        have hws : IntKind.i64.wrap (sm + co) = sm + co := by rw [IntKind.wrap_i64]; omega
        have hwz : IntKind.i64.wrap (0 + co) = 0 + co := by rw [IntKind.wrap_i64]; omega
        have hwk : IntKind.i64.wrap ((x.k.size : Int) + (x.v.size : Int)) = (x.k.size : Int) + (x.v.size : Int) := by rw [IntKind.wrap_i64]; omega
        have hwk2 : IntKind.i64.wrap ((x.k.size : Int) + (x.v.size : Int) + 32) = co := by rw [IntKind.wrap_i64]; omega
        obtain ⟨p0, p1, p2⟩ := HY.out _ HI.out.bel
        go_upto_region 14 with fail
        go_cut [12] from 33 to 118 (fun s12 wx => .int .i64 co = s12 ∧ Hid (Below wr.heap.size wr wx))
        case first =>
          go_quiet (fail)
          go_wp2_with fail
          go_meet
          case rel => exact ⟨by first | rfl | rw [hco], below_drewN' _ _ _⟩
        case rest =>
          obtain ⟨rfl, HBX⟩ := hcut
          have HI2 := hide (HI.out.below HBX.out)
          clear HI
          have HPI : Hid (Fine D ∧ Fine P) := fine_take HFF.out HDP.out
          obtain ⟨q0, q1, q2⟩ := HY.out _ HI2.out.bel
          have HAD := hide (add_any b base v P x (sumC P) most wc HI2.out.buf HI2.out.lst HI2.out.low.2.1 HI2.out.low.2.2.2 hxk hxv (by have h1 := HPL.out; omega) HI2.out.sum.1 (by have := HI2.out.sum.2; omega))
          rw [HSM.out, HLN.out, HCO.out] at HAD
          unfold Rec.val at HAD
          go_upto_region 15 with fail
          go_cut [13] from 33 to 118 (fun s13 wx => ∃ f : Int, .int .i64 f = s13 ∧ Hid ((f = 62 ∧ 0 < L ∧ most < sm + co ∧ BI w wx b base most va v D P) ∨ (f = 0 ∧ (L = 0 ∨ sm + co ≤ most) ∧ ∃ v', BI w wx b base most va v' D (P ++ [x]))))
          case first =>
            go_wp2_with fail
            refine HAD.out.mono ?_
            rintro e w5 (⟨h1, h2, rfl, h4⟩ | ⟨h1, rfl, g5, c5, h3, h4, h5, h6⟩)
            · have HZ : Hid (0 < L ∧ most < sm + co ∧ BI w w5 b base most va v D P) := ⟨h1, h2, HI2.out.below h4⟩
              clear h1 h2 h4
              go_wp2_with fail
              go_meet
              case rel => exact ⟨62, rfl, .inl ⟨rfl, HZ.out.1, HZ.out.2.1, HZ.out.2.2⟩⟩
            · have HZ : Hid ((L = 0 ∨ sm + co ≤ most) ∧ ∃ v', BI w w5 b base most va v' D (P ++ [x])) := ⟨h1, _, HI2.out.added (g := g5) (c := c5) (by rw [HSM.out, HLN.out, HCO.out]; exact h3) (by rw [HLN.out]; exact h4) h5 h6 (by rw [HCO.out]; exact ⟨hcb0, hcb1⟩) (by rw [HSM.out, HLN.out, HCO.out]; exact h1) hb2⟩
              clear h1 h3 h4 h5 h6
              go_wp2_with fail
              go_meet
              case rel => exact ⟨0, rfl, .inr ⟨rfl, HZ.out.1, HZ.out.2⟩⟩
          case rest =>
            clear HI2 q0 q1 q2
            obtain ⟨f, rfl, HC⟩ := hcut
            go_upto_if 60 with fail
            go_cut [8, 9, 10] from 33 to 118 (fun s8 s9 s10 wx => ∃ (va v : Value) (D P : List Rec), va = s8 ∧ .int .i64 (sumC P) = s9 ∧ .int .i64 (P.length : Int) = s10 ∧ Hid (D ++ P = rs.take i) ∧ Hid (P.length = 0 ∨ sumC P + co ≤ most) ∧ Hid (BI w wx b base most va v D (P ++ [x])))
            case first =>
              rcases HC.out with ⟨rfl, h1, h2, h3⟩ | ⟨rfl, h1, v', h3⟩
              · have HI3 := hide h3
                have hL0 : ((L : Int) == 0) = false := by rw [beq_eq_false_iff_ne]; omega
                have hsd : decide (sm + co ≤ most) = false := by rw [decide_eq_false_iff_not]; omega
                have hsd2 : ¬ sm + co ≤ most := by omega
                clear h1 h2 h3 HC
                obtain ⟨aa, ca, hva, ha1, ha2, ha3⟩ := own_slice' (n := D.length) HI3.out.all (length_isort D)
                subst hva
                have HA3 := hide ha3
                clear ha3
                go_wp2_with (go_at_call 22; refine (take_any b base v P (sumC P) most _ HI3.out.buf HI3.out.lst HI3.out.low.2.1 HI3.out.low.2.2.2 (by have h1 := HPL.out; omega) HPI.out.2).mono ?_; rintro e w6 ⟨v6, rfl, ho6, hf6, hk6⟩; have HO6 := hide ho6; have HF6 := hide hf6; have HK6 := hide hk6; obtain ⟨pa, pc, hv6, hp1, hp2, hp3⟩ := own_slice' (n := P.length) ho6 (length_isort P); subst hv6; clear ho6 hf6 hk6 hp3)
                refine (merged_any aa pa D.length ca P.length pc (isort D) (isort P) w6 (own_rdr (HI3.out.turn HK6.out).1) (own_rdr HO6.out) HA3.out ha1 ha2 HPI.out.1.isort HPI.out.2.isort (by have h1 := HPL.out; omega)).mono ?_
                rintro e w7 ⟨v7, rfl, ho7, hb7⟩
                rw [mrg_isort] at ho7
                have HI7 := hide (HI3.out.taken HK6.out HF6.out hb7 ho7)
                clear ho7 hb7 HO6 HF6 HK6 HI3
                have HB7 : Hid (BF w7 b (.slice none 0 0) 0 most) := HI7.out.buf
                have HA7 := hide (add_any b base (.slice none 0 0) [] x 0 most w7 HB7.out (own_nil _ _) HI7.out.low.2.1 HI7.out.low.2.2.2 hxk hxv (by simp) (by omega) (by omega))
                rw [HCO.out] at HA7
                unfold Rec.val at HA7
                obtain ⟨q0, q1, q2⟩ := HY.out _ HI7.out.bel
                go_wp2_with fail
                refine (len_any b none 0 0 0 most w7 HB7.out).mono ?_
                rintro e w8 ⟨rfl, rfl⟩
                go_wp2_with fail
                refine (used_any b (.slice none 0 0) 0 most w8 HB7.out).mono ?_
                rintro e w9 ⟨rfl, rfl⟩
                go_wp2_with fail
                refine HA7.out.mono ?_
                rintro e w10 (⟨h1, _⟩ | ⟨h1, rfl, g5, c5, h3, h4, h5, h6⟩)
                · exact absurd h1 (by simp)
                · have HZ : Hid (∃ v', BI w w10 b base most v7 v' (D ++ P) ([] ++ [x])) := ⟨_, HI7.out.added (g := g5) (c := c5) (by rw [sumC_nil, HCO.out]; exact h3) h4 h5 h6 (by rw [HCO.out]; exact ⟨hcb0, hcb1⟩) (.inl rfl) hb2⟩
                  clear h1 h3 h4 h5 h6
                  go_wp2_with fail
                  go_meet
                  case rel =>
                    obtain ⟨v10, h10⟩ := HZ.out
                    exact ⟨v7, v10, D ++ P, [], rfl, rfl, rfl, by rw [List.append_nil]; exact HDP.out, .inl rfl, h10⟩
              · have HI3 := hide h3
                have HZ1 := hide h1
                clear h1 h3 HC
                go_wp2_with fail
                go_meet
                case rel => exact ⟨va, v', D, P, rfl, (by rw [HSM.out]), (by rw [HLN.out]), HDP, (by rw [HSM.out, HLN.out]; exact HZ1.out), HI3⟩
            case rest =>
              clear HC HAD HDP HPI HPL HSM HLN hs0 hs1 hws hLb
              obtain ⟨va, v, D, P, rfl, rfl, rfl, HDP, HC, HI⟩ := hcut
              obtain ⟨s3, hs3⟩ : ∃ s3, sumC P = s3 := ⟨_, rfl⟩
              have HS3 := hide hs3
              have HPL : Hid (D.length + P.length = i) := by have h1 := congrArg List.length HDP.out; rw [List.length_append, List.length_take, HRL.out] at h1; show _ = _; omega
              obtain ⟨L3, hL3⟩ : ∃ L3, P.length = L3 := ⟨_, rfl⟩
              have HL3 := hide hL3
              have hLb3 : L3 ≤ n := by have := HPL.out; omega
              have HSU : Hid (sumC (P ++ [x]) = s3 + co) := by show _ = _; rw [sumC_snoc, HS3.out, HCO.out]
              obtain ⟨hs0, hs1⟩ := HI.out.sum
              rw [HSU.out] at hs0 hs1
              rw [hs3, hL3]
              obtain ⟨la, lc, hlv, _⟩ := own_shape HI.out.lst
              have hlen : (P ++ [x]).length = L3 + 1 := by rw [List.length_append, hL3]; rfl
              rw [hlen] at hlv
              have HBU : Hid (BF wc b (.slice la (L3 + 1) lc) (s3 + co) most) := by have h1 := HI.out.buf; rw [HSU.out, hlv] at h1; exact h1
              have HCC : Hid (L3 = 0 ∨ s3 + co ≤ most) := by have h1 := HC.out; rw [hs3, hL3] at h1; exact h1
              have hws : IntKind.i64.wrap (s3 + co) = s3 + co := by rw [IntKind.wrap_i64]; omega
              have hwl : IntKind.i64.wrap ((L3 : Int) + 1) = (L3 : Int) + 1 := by rw [IntKind.wrap_i64]; omega
              have hn1 : ((s3 + co) != (s3 + co)) = false := by simp
              have hn2 : (((L3 : Int) + 1) != ((L3 : Int) + 1)) = false := by simp
              have hcast : ((L3 + 1 : Nat) : Int) = (L3 : Int) + 1 := by omega
              have HUS := hide (used_any b (.slice la (L3 + 1) lc) (s3 + co) most wc HBU.out)
              have HLE := hide (len_any b la (L3 + 1) lc (s3 + co) most wc HBU.out)
              rw [hcast] at HLE
              clear hs3 hL3 hlen hlv hcast
              by_cases hq : s3 + co ≤ most
              · have hq1 : ¬ most < s3 + co := by omega
                go_wp2_with fail
                refine HUS.out.mono ?_
                rintro e w5 ⟨rfl, rfl⟩
                go_wp2_with fail
                refine HLE.out.mono ?_
                rintro e w6 ⟨rfl, rfl⟩
                go_wp2_with fail
                go_roundw
                case rel => exact ⟨va, v, D, P ++ [x], i + 1, rfl, (by rw [HSU.out]), (by rw [List.length_append, HL3.out]; simp), by go_num, by omega, (by rw [← List.append_assoc, HDP.out]; exact HX.out.symm), HI⟩
                case measure => simp [intOf]; omega
              · have hq1 : most < s3 + co := by omega
                obtain rfl : L3 = 0 := by have := HCC.out; omega
                go_wp2_with fail
                refine HUS.out.mono ?_
                rintro e w5 ⟨rfl, rfl⟩
                go_wp2_with fail
                refine HLE.out.mono ?_
                rintro e w6 ⟨rfl, rfl⟩
                go_wp2_with fail
                go_roundw
                case rel => exact ⟨va, v, D, P ++ [x], i + 1, rfl, (by rw [HSU.out]), (by rw [List.length_append, HL3.out]; simp), by go_num, by omega, (by rw [← List.append_assoc, HDP.out]; exact HX.out.symm), HI⟩
                case measure => simp [intOf]; omega
      · obtain rfl : i = n := by omega
        have HPI : Hid (Fine D ∧ Fine P) := fine_take HFF.out HDP.out
        have HDR : Hid (D ++ P = rs) := by have h1 := HDP.out; rw [List.take_of_length_le (by rw [HRL.out]; exact Nat.le_refl _)] at h1; exact h1
        obtain ⟨aa, ca, hva, ha1, ha2, ha3⟩ := own_slice' (n := D.length) HI.out.all (length_isort D)
        subst hva
        have HA3 := hide ha3
        clear ha3
        go_wp2_with (go_at_call 22; refine (take_any b base v P (sumC P) most _ HI.out.buf HI.out.lst HI.out.low.2.1 HI.out.low.2.2.2 (by have h1 := HPL.out; omega) HPI.out.2).mono ?_; rintro e w6 ⟨v6, rfl, ho6, hf6, hk6⟩; have HO6 := hide ho6; have HF6 := hide hf6; have HK6 := hide hk6; obtain ⟨pa, pc, hv6, hp1, hp2, hp3⟩ := own_slice' (n := P.length) ho6 (length_isort P); subst hv6; clear ho6 hf6 hk6 hp3)
        refine (merged_any aa pa D.length ca P.length pc (isort D) (isort P) w6 (own_rdr (HI.out.turn HK6.out).1) (own_rdr HO6.out) HA3.out ha1 ha2 HPI.out.1.isort HPI.out.2.isort (by have h1 := HPL.out; omega)).mono ?_
        rintro e w7 ⟨v7, rfl, ho7, hb7⟩
        rw [mrg_isort] at ho7
        have HI7 := hide (HI.out.taken HK6.out HF6.out hb7 ho7)
        rw [HDR.out] at ho7
        obtain ⟨ma, mc, hv7, hm1', hm2', hm3'⟩ := own_slice' (n := i) ho7 (by rw [length_isort]; exact HRL.out)
        subst hv7
        have HM7 := hide (own_rdr ho7)
        have HW7 : Hid (Below w.heap.size w w7) := HI7.out.bel
        clear ho7 hb7 HO6 HF6 HK6 HI hm3'
        go_wp2_with fail
        refine (sort_any a i cap rs w7 (HR.out.below HW7.out) (by omega) HFF.out).mono ?_
        rintro e w8 ⟨v, rfl, ho8, hb8⟩
        obtain ⟨sa, sc, rfl, h81, h82, h83⟩ := own_slice' (n := i) ho8 (by rw [length_isort]; exact HRL.out)
        have HS8 := hide (own_rdr ho8)
        have HM8 := hide (HM7.out.below hb8)
        have HW8 := hide (below_trans HW7.out hb8)
        clear ho8 hb8 h83
        go_wp2_with fail
        refine (sameRecords_eq ma sa i mc sc (isort rs) w8 HM8.out HS8.out (by omega)).mono ?_
        rintro e w9 ⟨rfl, hb9⟩
        have HW9 := hide (below_trans HW8.out hb9)
        clear hb9
        go_wp2_with (go_at_call 15; refine (works_any _).mono ?_; rintro e w11 ⟨rfl, hb11⟩; have HW11 := hide (below_trans HW9.out hb11); clear hb11)
        go_ret
        exact ⟨rfl, HW11.out⟩
end Go.Proofs.Ytjhmnimbncfhoaa.So
