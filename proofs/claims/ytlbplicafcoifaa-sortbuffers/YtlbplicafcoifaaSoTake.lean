/-
  Take: the records, sorted; the buffer is empty.
-/
import Derived.Test.YtlbplicafcoifaaSoBuf
import Derived.Test.YtlbplicafcoifaaSoSort
namespace Go.Proofs.Ytlbplicafcoifaa.So
open Go.ChangeShapes Go.WideShapes Go.ChangeAt Go.RowKit
open Go.Proofs.Ytlbplicafcoifaa.Base
set_option linter.unusedVariables false
theorem BF.clear {w : World} {b : Nat} {v : Value} {cost bud : Int} (h : BF w b v cost bud) : BF ((w.setCell ⟨b, 0, none⟩ (.slice none 0 0)).setCell ⟨b, 1, none⟩ (.int .i64 0)) b (.slice none 0 0) 0 bud := (h.set0 _).set1 0
set_option maxHeartbeats 2000000 in
set_option maxRecDepth 100000 in
theorem take_at (b base : Nat) (v : Value) (rs : List Rec) (cost bud : Int) (w : World) (h : BF w b v cost bud) (ho : OwnR w base v rs) (hb : b < base) (hbase : base ≤ w.heap.size) (hl : rs.length * 40 ≤ 140737488355328) (hF : Fine rs) :
    Calls Try.prog 8 #[.pointer (some ⟨b, 0, none⟩)] w fun e w' => ∃ v', e = .returned v' ∧ OwnR w' base v' (isort rs) ∧ BF w' b (.slice none 0 0) 0 bud ∧ Kept2 w w' (some b) v.ownBlock ∧ (∀ i, v'.ownBlock = some i → v.ownBlock = some i ∨ w.heap.size ≤ i) := by
  obtain ⟨a, c, hv, hac⟩ := own_shape ho
  subst hv
  obtain ⟨M, hMs, hM0, hMk⟩ := make_rec rs.length (by omega)
  have hmk := hMk (rs.length : Int) rfl
  have HMS := hide hMs
  have HM0 := hide hM0
  have HO := hide ho
  have HBF := hide h
  clear hMk hMs hM0 ho h
  obtain ⟨p0, p1, p2⟩ := HBF.out.cells
  have f0 := HBF.out.frozen 0
  have f1 := HBF.out.frozen 1
  obtain ⟨w1, hw1⟩ : ∃ w1, (w.setCell ⟨b, 0, none⟩ (.slice none 0 0)).setCell ⟨b, 1, none⟩ (.int .i64 0) = w1 := ⟨_, rfl⟩
  have HF1 : Hid (BF w1 b (.slice none 0 0) 0 bud) := by rw [← hw1]; exact HBF.out.clear
  have HG1 : Hid (w.grownBy w1 (some b)) := by rw [← hw1]; exact grown_cell (grown_cell (World.grownBy.refl _ _) _ _) _ _
  have HO1 : Hid (OwnR w1 base (.slice a rs.length c) rs) := HO.out.same (fun i e => HG1.out.block i (HO.out.blk i e).2 (fun e2 => by have h1 := (HO.out.blk i e).1; have h2 := Option.some.inj e2; omega))
  obtain ⟨g2, hg2⟩ : ∃ g, w1.heap.size = g := ⟨_, rfl⟩
  obtain ⟨w2, hw2⟩ : ∃ w2, w1.alloc (.cells M 34) = w2 := ⟨_, rfl⟩
  have HB2 : Hid (Below w1.heap.size w1 w2) := by rw [← hw2]; exact (Below.refl _ _).alloc (Nat.le_refl _) _
  have HF2 := hide (HF1.out.below HB2.out)
  have HO2 := hide (HO1.out.below HB2.out)
  have HK2 : Hid (Kept2 w w2 (some b) (Value.slice a rs.length c).ownBlock) := ((Kept2.refl w _ _).grown HG1.out (fun i e => .inl rfl)).grown (below_grown HB2.out) (fun i e => by cases e)
  by_cases hn : rs.length ≤ 1
  · have HIS : Hid (isort rs = rs) := by
      apply isort_srt
      match rs, hn with
      | [], _ => exact List.Pairwise.nil
      | [x], _ => exact List.pairwise_cons.2 ⟨(fun y hy => by cases hy), List.Pairwise.nil⟩
    have HSB := hide (sortBetween_none a (some ⟨g2, 0, none⟩) rs.length c rs.length rs.length hn (.func (.func 22) #[] #[]) w2)
    go_enter Try.func8, Try.ntmps8
    go_wp2_with (go_at_call 21; refine HSB.out.mono ?_; rintro e w3 ⟨rfl, rfl⟩)
    go_ret
    exact ⟨_, rfl, (by rw [HIS.out]; exact HO2.out), HF2.out, HK2.out, fun i e => .inl e⟩
  · obtain ⟨g, hag⟩ : ∃ g, a = some ⟨g, 0, none⟩ := by
      rcases HO.out.2 with ⟨q1, q2⟩ | ⟨g, cap, cur, q1, _⟩
      · omega
      · simp only [Value.slice.injEq] at q1; exact ⟨g, q1.1⟩
    subst hag
    obtain ⟨hra, hbg, _⟩ := own_ra HO2.out
    have HZ : Hid (RA w2 g2 rs.length (fun _ => rec0)) := by rw [← hw2, ← hg2]; exact ra_new HM0.out
    have HN2 : Hid (w2.heap[g2]? = some (.cells M 34)) := by rw [← hw2, ← hg2]; exact heap_alloc_new _ _
    have HNE : Hid (g ≠ g2) := by have := (HO1.out.blk g rfl).2; show g ≠ g2; omega
    have HBG : Hid (base ≤ g ∧ base ≤ g2) := by have h1 := HG1.out.size; exact ⟨hbg, by omega⟩
    have HCU : Hid (∃ cur, w2.heap[g]? = some (.cells cur 34) ∧ cur.size = c * 3 ∧ c ≤ maxLen) := by
      rcases HO2.out.2 with ⟨q1, q2⟩ | ⟨g', cap', cur, q1, _, q3, _, q5, q6, _⟩
      · cases q1
      · simp only [Value.slice.injEq, Option.some.injEq, Addr.mk.injEq] at q1
        obtain ⟨⟨rfl, _⟩, _, rfl⟩ := q1
        exact ⟨cur, q3, q6, q5⟩
    have HSB := hide (sortBetween_any g g2 rs.length c rs.length (fun j => rs.getD j rec0) (fun _ => rec0) w2 hra HZ.out HNE.out hac (Nat.le_refl _) (by omega) (fun j => by have := (hF.getD j).1; omega) (fun _ => (by decide : rec0.k.size ≤ 9223372036854775807)) _ rfl)
    clear hra
    go_enter Try.func8, Try.ntmps8
    go_wp2_with fail
    refine HSB.out.mono ?_
    rintro e w3 ⟨g3, c3, F, rfl, hgc, hr3, hs3, hk3, hsa, hsb⟩
    rw [seg_list] at hs3
    have HO3 : Hid (OwnR w3 base (.slice (some ⟨g3, 0, none⟩) rs.length c3) (isort rs)) := by
      rw [← hs3]
      rcases hgc with ⟨rfl, rfl⟩ | ⟨rfl, rfl⟩
      · obtain ⟨cur, q1, q2, q3⟩ := HCU.out
        obtain ⟨cur', k1, k2⟩ := hsa cur _ q1
        exact ra_own hr3 k1 (by omega) hac q3 HBG.out.1
      · obtain ⟨cur', k1, k2⟩ := hsb M _ HN2.out
        exact ra_own hr3 k1 (by rw [k2]; exact HMS.out) (Nat.le_refl _) (by unfold maxLen; omega) HBG.out.2
    have HF3 : Hid (BF w3 b (.slice none 0 0) 0 bud) := HF2.out.same (hk3.block b HF2.out.lt (fun e => by have h1 := Option.some.inj e; have h2 := HBG.out.1; omega) (fun e => by have h1 := Option.some.inj e; have h2 := HBG.out.2; omega))
    have HK3 : Hid (Kept2 w w3 (some b) (some g)) := by
      have h1 := HK2.out
      refine ⟨hk3.os.trans h1.os, hk3.tape.trans h1.tape, hk3.output.trans h1.output, Nat.le_trans h1.size hk3.size, fun i hi e1 e2 => ?_⟩
      exact (hk3.block i (by have := h1.size; omega) e2 (fun e => by have q1 := Option.some.inj e; have q2 := HG1.out.size; omega)).trans (h1.block i hi e1 e2)
    have HW3 : Hid (g3 = g ∨ w.heap.size ≤ g3) := by
      rcases hgc with ⟨rfl, _⟩ | ⟨rfl, _⟩
      · exact .inl rfl
      · exact .inr (by have := HG1.out.size; omega)
    clear hgc hr3 hs3 hk3 hsa hsb
    go_wp2_with fail
    go_ret
    refine ⟨_, rfl, HO3.out, HF3.out, HK3.out, fun i e => ?_⟩
    have e2 : g3 = i := Option.some.inj e
    subst e2
    rcases HW3.out with e3 | e3
    · exact .inl (by rw [e3]; rfl)
    · exact .inr e3
theorem take_any (b base : Nat) (v : Value) (rs : List Rec) (cost bud : Int) (w : World) (h : BF w b v cost bud) (ho : OwnR w base v rs) (hb : b < base) (hbase : base ≤ w.heap.size) (hl : rs.length * 40 ≤ 140737488355328) (hF : Fine rs) :
    Calls Try.prog 8 #[.pointer (some ⟨b, 0, none⟩)] w fun e w' => ∃ v', e = .returned v' ∧ OwnR w' base v' (isort rs) ∧ BF w' b (.slice none 0 0) 0 bud ∧ Kept2 w w' (some b) v.ownBlock := by
  refine (take_at b base v rs cost bud w h ho hb hbase hl hF).mono ?_
  rintro e w' ⟨v', h1, h2, h3, h4, _⟩
  exact ⟨v', h1, h2, h3, h4⟩
end Go.Proofs.Ytlbplicafcoifaa.So
