/-
  SortSorts: any records, sorted, by the program and by the document.
-/
import Derived.Test.YtjhmnimbncfhoaaSoBack
namespace Go.Proofs.Ytjhmnimbncfhoaa.So
open Go.ChangeShapes Go.WideShapes Go.ChangeAt Go.RowKit
open Go.Proofs.Ytjhmnimbncfhoaa.Base
set_option linter.unusedVariables false
theorem ra_rdr {w : World} {g N n : Nat} {G : Nat → Rec} (h : RA w g N G) (hn : n ≤ N) : RdR w (some ⟨g, 0, none⟩) n (seg G 0 n) := by
  refine ⟨by rw [length_seg]; omega, fun _ => ⟨g, 0, rfl, h.lt, fun j hj => ?_⟩⟩
  have e : (seg G 0 n).getD j rec0 = G j := by rw [List.getD_eq_getElem?_getD, seg_get _ _ _ _ (by omega), Nat.zero_add]; rfl
  rw [e, Nat.zero_add]
  exact h.cells j (by omega)
theorem seg_front (rs ms : List Rec) : seg (fun j => (rs ++ ms).getD j rec0) 0 rs.length = rs := by
  apply List.ext_getElem?
  intro j
  by_cases h : j < rs.length
  · rw [seg_get _ _ _ _ (by omega), Nat.zero_add, List.getElem?_eq_getElem h]
    show some ((rs ++ ms).getD j rec0) = _
    rw [List.getD_eq_getElem?_getD, List.getElem?_append_left h, List.getElem?_eq_getElem h]; rfl
  · rw [List.getElem?_eq_none (by rw [length_seg]; omega), List.getElem?_eq_none (by omega)]
theorem cell_block {w w' : World} {b o : Nat} (h : w'.heap[b]? = w.heap[b]?) : w'.cell? ⟨b, o, none⟩ = w.cell? ⟨b, o, none⟩ := by
  unfold World.cell?
  simp only [h]
theorem Fine.reverse {l : List Rec} (h : Fine l) : Fine l.reverse := fun r hr => h r (List.mem_reverse.1 hr)
set_option maxHeartbeats 8000000 in
set_option maxRecDepth 100000 in
theorem swalk (a : Option Addr) (n cap : Nat) (rs : List Rec) (w : World) (hr : RdR w a n rs) (hF : Fine rs) (hl : (n + 64) * 40 ≤ 140737488355328) :
    Calls Try.prog 5 #[.slice a n cap] w fun e w' => e = .returned (.bool true) ∧ Below w.heap.size w w' := by
  have HR := hide hr
  have HF := hide hF
  have HRL := hide hr.1
  clear hr hF
  obtain ⟨N, hN⟩ : ∃ N, n + 64 = N := ⟨_, rfl⟩
  have hNi : (n : Int) + 64 = (N : Int) := by omega
  have hwN : IntKind.i64.wrap ((n : Int) + 64) = (N : Int) := by rw [IntKind.wrap_i64]; omega
  have HRM := hide (fun W (h : RdR W a n rs) => roomy_any a n cap rs W h hl)
  rw [hN] at HRM hl
  have HNN := hide hN
  have hnN : n ≤ N := by omega
  clear hN
  go_enter Try.func5, Try.ntmps5
  go_wp2_with fail
  refine (HRM.out _ HR.out).mono ?_
  rintro e w1 ⟨g, rfl, ho1, hb1⟩
  have HO1 := hide ho1
  have HW1 := hide hb1
  have HGW : Hid (w.heap.size ≤ g ∧ g < w1.heap.size) := ho1.blk g rfl
  have hsl := cutR_h (some ⟨g, 0, none⟩) N N n hnN
  have HT : Hid ((rs ++ List.replicate 64 markR).take n = rs) := by show _ = _; rw [List.take_append_of_le_length (by rw [HRL.out]; omega), List.take_of_length_le (by rw [HRL.out]; omega)]
  have HD1 : Hid (RdR w1 (some ⟨g, 0, none⟩) n rs) := by have h := (own_rdr HO1.out).take hnN; rw [HT.out] at h; exact h
  clear ho1 hb1
  go_wp2_with fail
  refine (sort_any (some ⟨g, 0, none⟩) n N rs w1 HD1.out (by omega) HF.out).mono ?_
  rintro e w2 ⟨v, rfl, ho2, hb2⟩
  obtain ⟨aa, ac, rfl, ha1, ha2, ha3⟩ := own_slice' (n := n) ho2 (by rw [length_isort]; exact HRL.out)
  have HA2 := hide ho2
  have HD2 := hide (HD1.out.below hb2)
  have HO2 := hide (HO1.out.below hb2)
  have HW2 := hide (below_trans HW1.out hb2)
  have HZ2 : Hid (w1.heap.size ≤ w2.heap.size) := hb2.size
  have HAB : Hid (∀ j, (Value.slice aa n ac).ownBlock = some j → w1.heap.size ≤ j ∧ j < w2.heap.size) := ho2.blk
  clear ho2 hb2 ha3 HO1 HD1
  go_wp2_with fail
  refine (sort_any (some ⟨g, 0, none⟩) n N rs w2 HD2.out (by omega) HF.out).mono ?_
  rintro e w3 ⟨v, rfl, ho3, hb3⟩
  obtain ⟨ba, bc, rfl, hb31, hb32, hb33⟩ := own_slice' (n := n) ho3 (by rw [length_isort]; exact HRL.out)
  have HB3 := hide ho3
  have HA3 := hide (HA2.out.below hb3)
  have HO3 := hide (HO2.out.below hb3)
  have HW3 := hide (below_trans HW2.out hb3)
  have HZ3 : Hid (w2.heap.size ≤ w3.heap.size) := hb3.size
  have HBB : Hid (∀ j, (Value.slice ba n bc).ownBlock = some j → w2.heap.size ≤ j ∧ j < w3.heap.size) := ho3.blk
  clear ho3 hb3 hb33 HO2 HD2 HA2
  go_wp2_with fail
  refine (spoil_any w1.heap.size aa n ac (isort rs) 1000001 w3 HA3.out (by have h1 := HZ2.out; have h2 := HZ3.out; omega) (by have := HNN.out; omega) (by omega) (by omega)).mono ?_
  rintro e w4 ⟨rfl, hg4⟩
  have HW4 : Hid (Below w.heap.size w w4) := HW3.out.grown hg4 HW3.out.size (fun j e => by have h1 := (HAB.out j e).1; have h2 := HW1.out.size; omega)
  have HO4 := hide (HO3.out.same (fun i e => hg4.block i (by have h1 := (HO3.out.blk i e).2; omega) (fun e2 => by have h1 := (HAB.out i e2.symm).1; have h2 := Option.some.inj e; simp only at h2; have h3 := HGW.out.2; omega)))
  have HB4 := hide (HB3.out.same (fun i e => hg4.block i (HBB.out i e).2 (fun e2 => by have h1 := (HAB.out i e2.symm).2; have h2 := (HBB.out i e).1; omega)))
  have HZ4 : Hid (w3.heap.size ≤ w4.heap.size) := hg4.size
  clear hg4 HO3 HB3 HA3
  go_wp2_with fail
  refine (refSort_any a n cap rs w4 (HR.out.below HW4.out) (by omega)).mono ?_
  rintro e w5 ⟨v, rfl, ho5, hb5⟩
  obtain ⟨ca, cc, rfl, hc1, hc2, hc3⟩ := own_slice' (n := n) ho5 (by rw [length_isort]; exact HRL.out)
  have HC5 := hide (own_rdr ho5)
  have HO5 := hide (HO4.out.below hb5)
  have HB5 := hide (HB4.out.below hb5)
  have HW5 := hide (below_trans HW4.out hb5)
  clear ho5 hb5 hc3 HO4 HB4
  go_wp2_with fail
  refine (sameRecords_eq ba ca n bc cc (isort rs) w5 (own_rdr HB5.out) HC5.out (by omega)).mono ?_
  rintro e w6 ⟨rfl, hb6⟩
  have HO6 := hide (HO5.out.below hb6)
  have HB6 := hide (HB5.out.below hb6)
  have HW6 := hide (below_trans HW5.out hb6)
  clear hb6 HO5 HB5 HC5
  go_wp2_with fail
  refine (HRM.out w6 (HR.out.below HW6.out)).mono ?_
  rintro e w7 ⟨g7, rfl, ho7, hb7⟩
  have HM7 := hide (own_rdr ho7)
  have HO7 := hide (HO6.out.below hb7)
  have HB7 := hide (HB6.out.below hb7)
  have HW7 := hide (below_trans HW6.out hb7)
  clear ho7 hb7 HO6 HB6
  go_wp2_with fail
  refine (sameRecords_eq (some ⟨g, 0, none⟩) (some ⟨g7, 0, none⟩) N N N (rs ++ List.replicate 64 markR) w7 (own_rdr HO7.out) HM7.out (by omega)).mono ?_
  rintro e w8 ⟨rfl, hb8⟩
  have HO8 := hide (HO7.out.below hb8)
  have HB8 := hide (HB7.out.below hb8)
  have HW8 := hide (below_trans HW7.out hb8)
  clear hb8 HO7 HB7 HM7
  go_wp2_with fail
  refine (back_any g n N N (fun j => (rs ++ List.replicate 64 markR).getD j rec0) w8 (own_ra HO8.out).1 hnN (by omega)).mono ?_
  rintro e w9 ⟨rfl, hra9, hg9, _⟩
  have HC9 : Hid (RdR w9 (some ⟨g, 0, none⟩) n rs.reverse) := by
    have h := ra_rdr hra9 hnN
    have h2 := seg_front rs (List.replicate 64 markR)
    rw [HRL.out] at h2
    rw [seg_rvF, h2] at h
    exact h
  have HW9 : Hid (Below w.heap.size w w9) := HW8.out.grown hg9 HW8.out.size (fun j e => by have h1 := Option.some.inj e; have h2 := HGW.out.1; omega)
  have HB9 := hide (HB8.out.same (fun i e => hg9.block i (HB8.out.blk i e).2 (fun e2 => by have h1 := Option.some.inj e2; have h2 := (HBB.out i e).1; have h3 := HGW.out.2; have h4 := HZ2.out; omega)))
  clear hra9 hg9 HO8 HB8
  go_wp2_with fail
  refine (sort_any (some ⟨g, 0, none⟩) n N rs.reverse w9 HC9.out (by omega) HF.out.reverse).mono ?_
  rintro e w10 ⟨v, rfl, ho10, hb10⟩
  obtain ⟨da, dc, rfl, hd1, hd2, hd3⟩ := own_slice' (n := n) ho10 (by rw [length_isort, List.length_reverse]; exact HRL.out)
  have HD10 := hide (own_rdr ho10)
  have HB10 := hide (HB9.out.below hb10)
  have HW10 := hide (below_trans HW9.out hb10)
  clear ho10 hb10 hd3 HB9 HC9
  go_wp2_with fail
  refine (HRM.out w10 (HR.out.below HW10.out)).mono ?_
  rintro e w11 ⟨g11, rfl, ho11, hb11⟩
  have HM11 := hide ho11
  have HD11 := hide (HD10.out.below hb11)
  have HB11 := hide (HB10.out.below hb11)
  have HW11 := hide (below_trans HW10.out hb11)
  have HG11 : Hid (w10.heap.size ≤ g11) := (ho11.blk g11 rfl).1
  have HZ10 : Hid (∀ j, (Value.slice ba n bc).ownBlock = some j → j < w10.heap.size) := fun j e => (HB10.out.blk j e).2
  have HL10 : Hid (0 < n → ∀ b off, da = some ⟨b, off, none⟩ → b < w10.heap.size) := fun h b off e => by obtain ⟨b', off', e', hl', _⟩ := HD10.out.2 h; rw [e] at e'; cases e'; exact hl'
  have hsl2 := cutR_h (some ⟨g11, 0, none⟩) N N n hnN
  clear ho11 hb11 HD10 HB10
  go_wp2_with fail
  refine (back_any g11 n N N (fun j => (rs ++ List.replicate 64 markR).getD j rec0) w11 (own_ra HM11.out).1 hnN (by omega)).mono ?_
  rintro e w12 ⟨rfl, hra12, hg12, _⟩
  have HC12 : Hid (RdR w12 (some ⟨g11, 0, none⟩) n rs.reverse) := by
    have h := ra_rdr hra12 hnN
    have h2 := seg_front rs (List.replicate 64 markR)
    rw [HRL.out] at h2
    rw [seg_rvF, h2] at h
    exact h
  have HW12 : Hid (Below w.heap.size w w12) := HW11.out.grown hg12 HW11.out.size (fun j e => by have h1 := Option.some.inj e; have h2 := HG11.out; have h3 := HW10.out.size; omega)
  have HB12 := hide (HB11.out.same (fun i e => hg12.block i (HB11.out.blk i e).2 (fun e2 => by have h1 := Option.some.inj e2; have h2 := HZ10.out i e; have h3 := HG11.out; omega)))
  have HD12 : Hid (RdR w12 da n (isort rs.reverse)) := by
    refine ⟨HD11.out.1, fun hp => ?_⟩
    obtain ⟨b, off, e, hl1, hcs⟩ := HD11.out.2 hp
    have hb := HL10.out hp b off e
    have hblk : w12.heap[b]? = w11.heap[b]? := hg12.block b hl1 (fun e2 => by have h1 := Option.some.inj e2; have h3 := HG11.out; omega)
    exact ⟨b, off, e, Nat.lt_of_lt_of_le hl1 hg12.size, fun j hj => by
      obtain ⟨x0, x1, x2⟩ := hcs j hj
      exact ⟨(cell_block hblk).trans x0, (cell_block hblk).trans x1, (cell_block hblk).trans x2⟩⟩
  clear hra12 hg12 HM11 HB11 HD11
  go_wp2_with fail
  refine (refSort_any (some ⟨g11, 0, none⟩) n N rs.reverse w12 HC12.out (by omega)).mono ?_
  rintro e w13 ⟨v, rfl, ho13, hb13⟩
  obtain ⟨ea, ec, rfl, he1, he2, he3⟩ := own_slice' (n := n) ho13 (by rw [length_isort, List.length_reverse]; exact HRL.out)
  have HE13 := hide (own_rdr ho13)
  have HD13 := hide (HD12.out.below hb13)
  have HB13 := hide (HB12.out.below hb13)
  have HW13 := hide (below_trans HW12.out hb13)
  clear ho13 hb13 he3 HD12 HB12
  go_wp2_with fail
  refine (sameRecords_eq da ea n dc ec (isort rs.reverse) w13 HD13.out HE13.out (by omega)).mono ?_
  rintro e w14 ⟨rfl, hb14⟩
  have HB14 := hide (HB13.out.below hb14)
  have HW14 := hide (below_trans HW13.out hb14)
  clear hb14 HB13 HD13 HE13
  go_wp2_with fail
  refine (refSort_any a n cap rs w14 (HR.out.below HW14.out) (by omega)).mono ?_
  rintro e w15 ⟨v, rfl, ho15, hb15⟩
  obtain ⟨fa, fc, rfl, hf1, hf2, hf3⟩ := own_slice' (n := n) ho15 (by rw [length_isort]; exact HRL.out)
  have HE15 := hide (own_rdr ho15)
  have HB15 := hide (HB14.out.below hb15)
  have HW15 := hide (below_trans HW14.out hb15)
  clear ho15 hb15 hf3 HB14
  go_wp2_with (go_at_call 13; refine (sameRecords_eq ba fa n bc fc (isort rs) w15 (own_rdr HB15.out) HE15.out (by omega)).mono ?_; rintro e w16 ⟨rfl, hb16⟩; have HW16 := hide (below_trans HW15.out hb16); clear hb16)
  go_ret
  exact ⟨rfl, HW16.out⟩
end Go.Proofs.Ytjhmnimbncfhoaa.So
