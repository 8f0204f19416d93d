/-
  Sort: a list of the call's own, in order.
-/
import Derived.Test.YtjhmnimbncfhoaaDoorSoSort
import Derived.Test.YtjhmnimbncfhoaaDoorSoOwned
namespace Go.Proofs.YtjhmnimbncfhoaaDoor.So
open Go.ChangeShapes Go.WideShapes Go.ChangeAt Go.RowKit
open Go.Proofs.YtjhmnimbncfhoaaDoor.Base
set_option linter.unusedVariables false
/-- The first i, and behind them zeros. -/
def cpF (L : Nat → Rec) (i : Nat) : Nat → Rec := fun j => if j < i then L j else rec0
theorem cpF_next (L : Nat → Rec) (i : Nat) : setR (cpF L i) i (L i) = cpF L (i + 1) := by
  funext j
  unfold setR cpF
  by_cases e : j = i
  · subst e; rw [if_pos rfl, if_pos (by omega)]
  · rw [if_neg e]
    by_cases h : j < i
    · rw [if_pos h, if_pos (by omega)]
    · rw [if_neg h, if_neg (by omega)]
/-- Sizes that may be copied. -/
def Fine (rs : List Rec) : Prop := ∀ r ∈ rs, r.k.size ≤ 281474976710656 ∧ r.v.size ≤ 281474976710656
theorem Fine.getD {rs : List Rec} (h : Fine rs) (j : Nat) : (rs.getD j rec0).k.size ≤ 281474976710656 ∧ (rs.getD j rec0).v.size ≤ 281474976710656 := by
  rw [List.getD_eq_getElem?_getD]
  cases hq : rs[j]? with
  | none => exact ⟨by decide, by decide⟩
  | some r => exact h r (List.mem_of_getElem? hq)
set_option maxHeartbeats 4000000 in
set_option maxRecDepth 100000 in
theorem sort_any (a : Option Addr) (n cap : Nat) (rs : List Rec) (w : World) (hr : RdR w a n rs) (hn : n ≤ 3518437208883) (hF : Fine rs) :
    Calls Tryd.prog 5 #[.slice a n cap] w fun e w' => ∃ v, e = .returned v ∧ OwnR w' w.heap.size v (isort rs) ∧ Below w.heap.size w w' := by
  obtain ⟨M, hMs, hM0, hMk⟩ := make_rec n hn
  have hmk := hMk (n : Int) rfl
  have HMS := hide hMs
  have HM0 := hide hM0
  have HR := hide hr
  have HF := hide hF
  clear hMk hMs hM0 hr hF
  obtain ⟨g, hg⟩ : ∃ g, w.heap.size = g := ⟨_, rfl⟩
  obtain ⟨w1, hw1⟩ : ∃ w1, w.alloc (.cells M 27) = w1 := ⟨_, rfl⟩
  obtain ⟨L, hL⟩ : ∃ L : Nat → Rec, (fun j => rs.getD j rec0) = L := ⟨_, rfl⟩
  have HL := hide hL
  have HB1 : Hid (Below w.heap.size w w1) := by rw [← hw1]; exact (Below.refl _ _).alloc (Nat.le_refl _) _
  have HA1 : Hid (RA w1 g n (cpF L 0)) := by rw [← hw1, ← hg]; exact ra_new HM0.out
  have HG1 : Hid (∃ cur, w1.heap[g]? = some (.cells cur 27) ∧ cur.size = n * 3) := ⟨M, by rw [← hw1, ← hg]; exact heap_alloc_new _ _, HMS.out⟩
  clear hL
  go_enter Tryd.func5, Tryd.ntmps5
  go_wp2_with fail
  go_loopw [11] (fun si wr => ∃ i : Nat, i ≤ n ∧ .int .i64 (i : Int) = si ∧ Hid (RA wr g n (cpF L i)) ∧ Hid (∃ cur, wr.heap[g]? = some (.cells cur 27) ∧ cur.size = n * 3) ∧ Hid (Below w.heap.size w wr)) (fun si _ => n - (intOf si).toNat)
  case atStart => exact ⟨0, by omega, rfl, HA1, HG1, HB1⟩
  case round =>
    clear HA1 HG1 HB1
    obtain ⟨i, hi, rfl, HA, HG, HB⟩ := hrel
    by_cases hin : i < n
    · have hii : (i : Int) < (n : Int) := by omega
      obtain ⟨b, off, rfl, hbw, hcs⟩ := HR.out.2 (by omega)
      obtain ⟨c0, c1, c2⟩ := hcs i hin
      have p0 := (HB.out.cell (p := ⟨b, off + i * 3, none⟩) hbw).trans c0
      have p1 := (HB.out.cell (p := ⟨b, off + i * 3 + 1, none⟩) hbw).trans c1
      have p2 := (HB.out.cell (p := ⟨b, off + i * 3 + 2, none⟩) hbw).trans c2
      have HX : Hid (L i = rs.getD i rec0) := by rw [← HL.out]; rfl
      have HOW := hide (fun W => owned_any (rs.getD i rec0) W (HF.out.getD i).1 (HF.out.getD i).2)
      clear c0 c1 c2 hcs
      generalize rs.getD i rec0 = x at p0 p1 p2 HX HOW
      unfold Rec.val at HOW
      obtain ⟨gr, hgr⟩ : ∃ gr, wr.heap.size = gr := ⟨_, rfl⟩
      obtain ⟨w3, hw3⟩ : ∃ w3, wr.alloc (.cells #[.int .i64 x.p, .string x.k, .string x.v] 27) = w3 := ⟨_, rfl⟩
      have HB3 : Hid (Below wr.heap.size wr w3) := by rw [← hw3]; exact (Below.refl _ _).alloc (Nat.le_refl _) _
      have HR3 : Hid (RB w3 gr x) := by rw [← hw3, ← hgr]; exact heap_alloc_new _ _
      obtain ⟨r0, r1, r2⟩ := HR3.out.cells
      go_wp2_with fail
      refine (HOW.out _).mono ?_
      rintro e w4 ⟨rfl, hb4⟩
      have HB4 := hide (below_trans HB3.out hb4)
      have HA4 := hide (HA.out.below HB4.out HA.out.lt)
      have HW4 := hide (below_trans HB.out HB4.out)
      have HG4 : Hid (∃ cur, w4.heap[g]? = some (.cells cur 27) ∧ cur.size = n * 3) := by obtain ⟨cur, h1, h2⟩ := HG.out; exact ⟨cur, by rw [HB4.out.block g HA.out.lt]; exact h1, h2⟩
      clear hb4 HA HG HB r0 r1 r2
      obtain ⟨d0, d1, d2⟩ := HA4.out.cells i hin
      have f0 := HA4.out.frozen (i * 3)
      have f1 := HA4.out.frozen (i * 3 + 1)
      have f2 := HA4.out.frozen (i * 3 + 2)
      obtain ⟨w5, hw5⟩ : ∃ w5, ((w4.setCell ⟨g, i * 3, none⟩ (.int .i64 x.p)).setCell ⟨g, i * 3 + 1, none⟩ (.string x.k)).setCell ⟨g, i * 3 + 2, none⟩ (.string x.v) = w5 := ⟨_, rfl⟩
      have HA5 : Hid (RA w5 g n (cpF L (i + 1))) := by rw [← hw5, ← cpF_next, HX.out]; exact HA4.out.set i hin x
      have HG5 : Hid (∃ cur, w5.heap[g]? = some (.cells cur 27) ∧ cur.size = n * 3) := by
        obtain ⟨cur, h1, h2⟩ := HG4.out
        obtain ⟨cur', h3, h4⟩ := ((((Shp.refl w4 g).set (i * 3) (.int .i64 x.p)).set (i * 3 + 1) (.string x.k)).set (i * 3 + 2) (.string x.v)) cur _ h1
        exact ⟨cur', by rw [← hw5]; exact h3, by omega⟩
      have HW5 : Hid (Below w.heap.size w w5) := by rw [← hw5]; exact ((HW4.out.setCell (by show w.heap.size ≤ g; omega) _).setCell (by show w.heap.size ≤ g; omega) _).setCell (by show w.heap.size ≤ g; omega) _
      go_wp2_with fail
      go_roundw
      case rel => exact ⟨i + 1, by omega, by go_num, HA5, HG5, HW5⟩
      case measure => simp [intOf]; omega
    · obtain rfl : i = n := by omega
      obtain ⟨gB, hgB⟩ : ∃ gB, wr.heap.size = gB := ⟨_, rfl⟩
      obtain ⟨w3, hw3⟩ : ∃ w3, wr.alloc (.cells M 27) = w3 := ⟨_, rfl⟩
      have HB3 : Hid (Below wr.heap.size wr w3) := by rw [← hw3]; exact (Below.refl _ _).alloc (Nat.le_refl _) _
      have HN3 : Hid (w3.heap[gB]? = some (.cells M 27)) := by rw [← hw3, ← hgB]; exact heap_alloc_new _ _
      have HA3 := hide (HA.out.below HB3.out HA.out.lt)
      have HZ3 : Hid (RA w3 gB i (fun _ => rec0)) := by rw [← hw3, ← hgB]; exact ra_new HM0.out
      have HNE : Hid (g ≠ gB) := by have := HA.out.lt; show g ≠ gB; omega
      have HW3 := hide (below_trans HB.out HB3.out)
      have HG3 : Hid (∃ cur, w3.heap[g]? = some (.cells cur 27) ∧ cur.size = i * 3) := by obtain ⟨cur, h1, h2⟩ := HG.out; exact ⟨cur, by rw [HB3.out.block g HA.out.lt]; exact h1, h2⟩
      have HKC : Hid (∀ j, (cpF L i j).k.size ≤ 9223372036854775807) := by
        intro j
        unfold cpF
        split
        · rw [← HL.out]; have := (HF.out.getD j).1; show (rs.getD j rec0).k.size ≤ _; omega
        · exact (by decide)
      have HSG : Hid (seg (cpF L i) 0 i = rs) := by
        have h1 : seg (cpF L i) 0 i = seg L 0 i := seg_congr _ _ _ _ (fun j _ hj => if_pos hj)
        have h2 := seg_list rs
        rw [HR.out.1, HL.out] at h2
        exact h1.trans h2
      have HSB := hide (sortBetween_any g gB i i i (cpF L i) (fun _ => rec0) w3 HA3.out HZ3.out HNE.out (Nat.le_refl _) (Nat.le_refl _) (by omega) HKC.out (fun _ => (by decide : rec0.k.size ≤ 9223372036854775807)) _ rfl)
      go_wp2_with fail
      refine HSB.out.mono ?_
      rintro e w4 ⟨g4, cc, F, rfl, hgc, hr4, hs4, hk4, hsa, hsb⟩
      rw [HSG.out] at hs4
      have HB4 : Hid (Below w.heap.size w w4) := Kept2.below HW3.out hk4 (fun j e => by have := Option.some.inj e; omega) (fun j e => by have h1 := Option.some.inj e; have := HB.out.size; omega)
      have HO4 : Hid (OwnR w4 w.heap.size (.slice (some ⟨g4, 0, none⟩) i cc) (isort rs)) := by
        rw [← hs4]
        rcases hgc with ⟨rfl, rfl⟩ | ⟨rfl, rfl⟩
        · obtain ⟨cur, h1, h2⟩ := HG3.out
          obtain ⟨cur', h3, h4⟩ := hsa cur _ h1
          exact ra_own hr4 h3 (by omega) (Nat.le_refl _) (by unfold maxLen; omega) (by omega)
        · obtain ⟨cur', h3, h4⟩ := hsb M _ HN3.out
          exact ra_own hr4 h3 (by rw [h4]; exact HMS.out) (Nat.le_refl _) (by unfold maxLen; omega) (by have := HB.out.size; omega)
      clear hr4 hs4 hk4 hsa hsb hgc
      go_wp2_with fail
      go_ret
      exact ⟨_, rfl, HO4.out, HB4.out⟩
end Go.Proofs.YtjhmnimbncfhoaaDoor.So
