/-
  union: the bits of two filters.
-/
import Derived.Test.YtpdlpahpefojbaaDoorFiClone
import Derived.Laws.BitsAllLaws
namespace Go.Proofs.YtpdlpahpefojbaaDoor.Filt
open Go.ChangeShapes Go.WideShapes Go.ChangeAt Go.RowKit
open Go.Proofs.YtpdlpahpefojbaaDoor.Base
set_option linter.unusedVariables false
theorem trio (A : Bool) (H : Int) (va : Value) (B : Bool) (G : Int) (vb : Value) (w : World) : ∃ w0 u0 w1 ga gb r, w.alloc (.cells #[.bool A, .int .i64 H, va] 24) = w0 ∧ w0.alloc (.cells #[.bool B, .int .i64 G, vb] 24) = u0 ∧ u0.alloc (.cells #[.bool false, .int .i64 0, .slice none 0 0] 24) = w1 ∧
    w.heap.size = ga ∧ w0.heap.size = gb ∧ u0.heap.size = r ∧ Hid (ga < gb ∧ gb < r) ∧ Hid (FB w1 ga A H va) ∧ Hid (FB w1 gb B G vb) ∧ Hid (FB w1 r false 0 (.slice none 0 0)) ∧ Hid (Below w.heap.size w w1) := by
  obtain ⟨w0, e0⟩ : ∃ w0, w.alloc (.cells #[.bool A, .int .i64 H, va] 24) = w0 := ⟨_, rfl⟩
  obtain ⟨u0, e1⟩ : ∃ u0, w0.alloc (.cells #[.bool B, .int .i64 G, vb] 24) = u0 := ⟨_, rfl⟩
  obtain ⟨w1, e2⟩ : ∃ w1, u0.alloc (.cells #[.bool false, .int .i64 0, .slice none 0 0] 24) = w1 := ⟨_, rfl⟩
  have b0 : Below w.heap.size w w0 := by rw [← e0]; exact (Below.refl _ _).alloc (Nat.le_refl _) _
  have b1 : Below w0.heap.size w0 u0 := by rw [← e1]; exact (Below.refl _ _).alloc (Nat.le_refl _) _
  have b2 : Below u0.heap.size u0 w1 := by rw [← e2]; exact (Below.refl _ _).alloc (Nat.le_refl _) _
  have F0 : FB w0 w.heap.size A H va := by rw [← e0]; exact FB.new _ _ _ _
  have F1 : FB u0 w0.heap.size B G vb := by rw [← e1]; exact FB.new _ _ _ _
  have F2 : FB w1 u0.heap.size false 0 (.slice none 0 0) := by rw [← e2]; exact FB.new _ _ _ _
  have F01 := F0.below b1
  exact ⟨w0, u0, w1, _, _, _, e0, e1, e2, rfl, rfl, rfl, ⟨F0.lt, F1.lt⟩, F01.below b2, F1.below b2, F2, (b0.trans (b1.mono b0.size)).trans (b2.mono (Nat.le_trans b0.size b1.size))⟩
/-- The bits of both. -/
def orZip (xs ys : List (BitVec 8)) : List (BitVec 8) := List.zipWith (fun x y => x ||| y) xs ys
def orTo (xs ys : List (BitVec 8)) (k : Nat) : List (BitVec 8) := orZip (xs.take k) (ys.take k) ++ xs.drop k
theorem orZip_len (xs ys : List (BitVec 8)) (h : xs.length = ys.length) : (orZip xs ys).length = xs.length := by simp [orZip]; omega
theorem orTo_zero (xs ys : List (BitVec 8)) : orTo xs ys 0 = xs := by simp [orTo, orZip]
theorem orTo_all (xs ys : List (BitVec 8)) (h : xs.length = ys.length) : orTo xs ys xs.length = orZip xs ys := by
  unfold orTo
  rw [List.take_of_length_le (Nat.le_refl _), List.take_of_length_le (by omega), List.drop_of_length_le (Nat.le_refl _), List.append_nil]
theorem orTo_len (xs ys : List (BitVec 8)) (h : xs.length = ys.length) (k : Nat) (hk : k ≤ xs.length) : (orTo xs ys k).length = xs.length := by
  simp [orTo, orZip]; omega
theorem orTo_get (xs ys : List (BitVec 8)) (h : xs.length = ys.length) (k : Nat) (hk : k < xs.length) : (orTo xs ys k).getD k 0 = xs.getD k 0 := by
  have hl : (orZip (xs.take k) (ys.take k)).length = k := by simp [orZip]; omega
  unfold orTo
  rw [List.getD_eq_getElem?_getD, List.getElem?_append_right (by omega), hl, Nat.sub_self, List.getElem?_drop, Nat.add_zero, ← List.getD_eq_getElem?_getD]
theorem orTo_next (xs ys : List (BitVec 8)) (h : xs.length = ys.length) (k : Nat) (hk : k < xs.length) : (orTo xs ys k).set k (xs.getD k 0 ||| ys.getD k 0) = orTo xs ys (k + 1) := by
  have hl : (orZip (xs.take k) (ys.take k)).length = k := by simp [orZip]; omega
  unfold orTo
  rw [List.set_append_right _ _ (by omega), hl, Nat.sub_self, List.drop_eq_getElem_cons hk, List.set_cons_zero, getD_take xs k hk, getD_take ys k (by omega)]
  unfold orZip
  rw [List.zipWith_append (by simp; omega)]
  simp
theorem or8 (x y : BitVec 8) : bits .or .u8 (x.toNat : Int) (y.toNat : Int) = ((x ||| y).toNat : Int) := by
  rw [u8_or_nat _ _ (lt8 x) (lt8 y), BitVec.toNat_or]
theorem own_some {w : World} {base n c : Nat} {a : Option Addr} {bs : List (BitVec 8)} (h : Own w base (.slice a n c) bs) (hn : 0 < n) : ∃ g, a = some ⟨g, 0, none⟩ := by
  rcases h.2 with ⟨h1, h2⟩ | ⟨g, c', cur, h1, _⟩
  · simp only [Value.slice.injEq] at h1; omega
  · simp only [Value.slice.injEq] at h1; exact ⟨g, h1.1⟩
set_option maxHeartbeats 1000000 in
set_option maxRecDepth 100000 in
theorem union_bad (A : Bool) (H : Int) (a : Option Addr) (len cap : Nat) (B : Bool) (G : Int) (b : Option Addr) (n c : Nat) (w : World) (h : H ≠ G ∨ len ≠ n) :
    Calls Tryd.prog 33 #[.agg #[.bool A, .int .i64 H, .slice a len cap], .agg #[.bool B, .int .i64 G, .slice b n c]] w fun e w' => e = .returned (.tuple #[.agg #[.bool false, .int .i64 0, .slice none 0 0], .int .i64 3]) ∧ Below w.heap.size w w' := by
  obtain ⟨w0, u0, w1, ga, gb, r, e0, e1, e2, s0, s1, s2, HLT, HA, HBB, HR, HB⟩ := trio A H (.slice a len cap) B G (.slice b n c) w
  have a1 := HA.out.c1
  have a2 := HA.out.c2
  have b1 := HBB.out.c1
  have b2 := HBB.out.c2
  have r0 := HR.out.c0
  have r1 := HR.out.c1
  have r2 := HR.out.c2
  have z0 := HR.out.fz 0
  have z1 := HR.out.fz 1
  have z2 := HR.out.fz 2
  have HS := hide s0
  have HRE := hide (HR.out.set3 false 0 (.slice none 0 0))
  have HBE := hide (below3 HB.out (g := r) (by have := HLT.out; omega) (.bool false) (.int .i64 0) (.slice none 0 0))
  have hcase : (H ≠ G) ∨ (H = G ∧ len ≠ n) := by by_cases e : H = G <;> simp_all
  rcases hcase with h1 | ⟨rfl, h1⟩
  · have q1 : (H != G) = true := by simpa using h1
    go_enter Tryd.func33, Tryd.ntmps33
    go_wp2_with fail
    refine bodyPost_ret (fb_ret2 rfl _ _ r false 0 (.slice none 0 0) rfl HRE.out) rfl ?_
    exact ⟨rfl, HBE.out⟩
  · have q1 : (H != H) = false := by simp
    have q2 : ((len : Int) != (n : Int)) = true := by rw [bne_iff_ne]; omega
    go_enter Tryd.func33, Tryd.ntmps33
    go_wp2_with fail
    refine bodyPost_ret (fb_ret2 rfl _ _ r false 0 (.slice none 0 0) rfl HRE.out) rfl ?_
    exact ⟨rfl, HBE.out⟩
set_option maxHeartbeats 1000000 in
set_option maxRecDepth 100000 in
theorem union_ok (A : Bool) (H : Int) (a : Option Addr) (len cap : Nat) (xs : List (BitVec 8)) (B : Bool) (b : Option Addr) (c : Nat) (ys : List (BitVec 8)) (w : World) (hx : Rd w a len xs) (hy : Rd w b len ys) (hp : 0 < len) (hna : a = none → len = 0 ∧ cap = 0) :
    Calls Tryd.prog 33 #[.agg #[.bool A, .int .i64 H, .slice a len cap], .agg #[.bool B, .int .i64 H, .slice b len c]] w fun e w' => ∃ v, e = .returned (.tuple #[.agg #[.bool A, .int .i64 H, v], .int .i64 0]) ∧ Own w' w.heap.size v (orZip xs ys) ∧ Below w.heap.size w w' := by
  obtain ⟨w0, u0, w1, ga, gb, r, e0, e1, e2, s0, s1, s2, HLT, HA, HBB, HR, HB⟩ := trio A H (.slice a len cap) B H (.slice b len c) w
  have a0 := HA.out.c0
  have a1 := HA.out.c1
  have a2 := HA.out.c2
  have b1 := HBB.out.c1
  have b2 := HBB.out.c2
  have HS := hide s0
  have HX := hide (hx.below HB.out)
  have HY := hide hy
  have HYL := hide hy.1
  have HXL := hide hx.1
  have hlm := hx.2.1
  clear hx hy
  have q1 : (H != H) = false := by simp
  have q2 : ((len : Int) != (len : Int)) = false := by simp
  go_enter Tryd.func33, Tryd.ntmps33
  go_wp2_with fail
  refine (clone_any A H a len cap xs w1 HX.out hna).mono ?_
  rintro e w2 ⟨v, rfl, ho, hb⟩
  have HR2 := hide (HR.out.below hb)
  have HB2 := hide (HBB.out.below hb)
  have HBW2 : Hid (Below w.heap.size w w2) := HB.out.trans (hb.mono HB.out.size)
  obtain ⟨va, vc, rfl⟩ := ho.shape
  rw [HXL.out] at ho ⊢
  obtain ⟨i, rfl⟩ := own_some ho hp
  have HO := hide ho
  have HI := hide ho.lt'
  have hcap : vc ≤ 9223372036854775807 := ho.room
  have HS1 := hide HB.out.size
  have HRL := hide HR.out.lt
  clear ho hb a0 a1 a2 b1 b2
  obtain ⟨w3, hw3⟩ : ∃ w3, w2.alloc (.cells #[.bool A, .int .i64 H, .slice (some ⟨i, 0, none⟩) len vc] 24) = w3 := ⟨_, rfl⟩
  obtain ⟨gf, hgf⟩ : ∃ gf, w2.heap.size = gf := ⟨_, rfl⟩
  have hb3 : Below w2.heap.size w2 w3 := by rw [← hw3]; exact (Below.refl _ _).alloc (Nat.le_refl _) _
  have HF3 : Hid (FB w3 gf A H (.slice (some ⟨i, 0, none⟩) len vc)) := by rw [← hgf, ← hw3]; exact FB.new _ _ _ _
  have HR3 := hide (HR2.out.below hb3)
  have HB3 := hide (HB2.out.below hb3)
  have HO3 := hide (HO.out.below hb3)
  have HBW3 : Hid (Below w.heap.size w w3) := HBW2.out.trans (hb3.mono HBW2.out.size)
  have HIG : Hid (i < gf) := by rw [← hgf]; exact HI.out.2
  have HIR : Hid (r < i) := Nat.lt_of_lt_of_le HRL.out HI.out.1
  have HIW : Hid (w.heap.size ≤ i) := Nat.le_trans HS1.out HI.out.1
  clear hb3 HR2 HB2 HO HI
  have b2 := HB3.out.c2
  go_wp2_with fail
  clear b2
  go_loopw [29] (fun j wr => ∃ k : Nat, k ≤ len ∧ j = .int .i64 (k : Int) ∧ Hid (Own wr w1.heap.size (.slice (some ⟨i, 0, none⟩) len vc) (orTo xs ys k)) ∧ Hid (w3.grownBy wr (some i))) (fun j _ => len - (intOf j).toNat)
  case atStart => exact ⟨0, Nat.zero_le _, rfl, by rw [orTo_zero]; exact HO3, World.grownBy.refl _ _⟩
  case round =>
    clear HO3
    obtain ⟨k, hk, rfl, HO, HG⟩ := hrel
    have HFr := hide (HF3.out.grown HG.out (fun e => by have := Option.some.inj e; have := HIG.out; omega))
    have HBr : Hid (Below w.heap.size w wr) := HBW3.out.grown HG.out HBW3.out.size (fun j e => by have := Option.some.inj e; have := HIW.out; omega)
    by_cases hlt : k < len
    · have hki : (k : Int) < (len : Int) := by omega
      have f2 := HFr.out.c2
      obtain ⟨b1, o1, rfl, hb1, hc1⟩ := HY.out.2.2 (by omega)
      have g1 := hc1 k hlt
      rw [← HBr.out.cell (p := ⟨b1, o1 + k, none⟩) hb1] at g1
      have g2 := HO.out.cell k hlt
      have fz := HO.out.frozen k
      rw [orTo_get xs ys (by rw [HXL.out, HYL.out]) k (by rw [HXL.out]; exact hlt)] at g2
      have HNX := hide (orTo_next xs ys (by rw [HXL.out, HYL.out]) k (by rw [HXL.out]; exact hlt))
      have hor := or8 (xs.getD k 0) (ys.getD k 0)
      generalize xs.getD k 0 = x at g2 hor HNX
      generalize ys.getD k 0 = y at g1 hor HNX
      have HST := hide (HO.out.store k (x ||| y))
      rw [HNX.out] at HST
      generalize x ||| y = z at hor HST
      clear hc1
      go_wp2_with fail
      go_roundw
      case rel => exact ⟨k + 1, by omega, by go_num, HST.out.1, grown_trans HG.out HST.out.2⟩
      case measure => simp [intOf]; omega
    · have h0 : k = len := by omega
      subst h0
      have HOE : Hid (Own wr w1.heap.size (.slice (some ⟨i, 0, none⟩) k vc) (orZip xs ys)) := by
        have h := HO.out
        have e := orTo_all xs ys (by rw [HXL.out, HYL.out])
        rw [HXL.out] at e
        rw [e] at h
        exact h
      have HRr := hide (HR3.out.grown HG.out (fun e => by have := Option.some.inj e; have := HIR.out; omega))
      have f0 := HFr.out.c0
      have f1 := HFr.out.c1
      have f2 := HFr.out.c2
      have r0 := HRr.out.c0
      have r1 := HRr.out.c1
      have r2 := HRr.out.c2
      have z0 := HRr.out.fz 0
      have z1 := HRr.out.fz 1
      have z2 := HRr.out.fz 2
      have HRE := hide (HRr.out.set3 A H (.slice (some ⟨i, 0, none⟩) k vc))
      have HG5 := hide (grown3 wr r (.bool A) (.int .i64 H) (.slice (some ⟨i, 0, none⟩) k vc))
      have HBE := hide (below3 HBr.out (g := r) (by have := HLT.out; have := HS.out; omega) (.bool A) (.int .i64 H) (.slice (some ⟨i, 0, none⟩) k vc))
      go_wp2_with fail
      refine bodyPost_ret (fb_ret2 rfl _ _ r A H (.slice (some ⟨i, 0, none⟩) k vc) rfl HRE.out) rfl ?_
      refine ⟨_, rfl, ?_, ?_⟩
      · exact (HOE.out.other HG5.out (by have := HIR.out; omega)).mono HS1.out
      · exact HBE.out
end Go.Proofs.YtpdlpahpefojbaaDoor.Filt
