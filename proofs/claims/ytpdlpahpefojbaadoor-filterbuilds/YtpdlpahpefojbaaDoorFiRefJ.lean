/-
  The document's Join.
-/
import Derived.Test.YtpdlpahpefojbaaDoorFiRefC
import Derived.Deep.RegionHeldLaw
import Derived.Deep.DeepCutAuto
import Derived.BigRegion
namespace Go.Proofs.YtpdlpahpefojbaaDoor.Filt
open Go.ChangeShapes Go.WideShapes Go.ChangeAt Go.RowKit
open Go.Proofs.YtpdlpahpefojbaaDoor.Base
set_option linter.unusedVariables false
/-- append of a whole slice onto a slice of the call's own, as one step of a region that draws its order. -/
theorem step_join {ops : Array Oper} {o : Oper} {a : Act} {w : World} {K : Act → World → Prop} {Q : Exit → Act → World → Prop} {E : Prop} (hgd : o.guard = none) (s x : Operand)
    (ho : o.op = .call { callee := .builtin .append, args := #[s, x], argTypes := #[22, 22] })
    (base : Nat) (v : Value) (bs : List (BitVec 8)) (hs : a.eval s = v) (hown : Own w base v bs) (xa : Option Addr) (m cap : Nat) (cs : List (BitVec 8)) (hx : a.eval x = .slice xa m cap)
    (hr : Rd w xa m cs) (hnil : xa = none → m = 0 ∧ cap = 0) (hl : bs.length + m ≤ 140737488355328) (hbase : base ≤ w.heap.size)
    (h : ∀ v' w', Own w' base v' (bs ++ cs) → w.grownBy w' v.ownBlock → K (a.put o.dst v') w') :
    if Region.wanted o (yielded ops a.tmps) = true then Oper.wp Tryd.prog o a w K Q else E := by
  obtain ⟨i0, hi, hz0, hz1, hz2⟩ := info_parts info8
  have hcl := hr.1
  cases xa with
  | none =>
    obtain ⟨rfl, rfl⟩ := hnil rfl
    have : cs = [] := List.length_eq_zero_iff.1 hcl
    subst this
    have hw : Region.wanted o (yielded ops a.tmps) = true := by simp [Region.wanted, hgd]
    rw [if_pos hw]
    have hrun := run_append_owned_none (P := Tryd.prog) (w := w) base 22 o.type 5 i0 1 Tryd.underlying22 hi v bs.length (vals bs) hown
    have hh := h v w (by rw [List.append_nil]; exact hown) (World.grownBy.refl _ _)
    unfold Oper.wp
    simp [execOp, ho, resolve, invoke, builtin, hs, hx, hrun, Result.andThen]
    exact hh
  | some ad =>
    refine step_append_own hgd s x 22 ho base 5 i0 (.int .u8 0) 1 1 Tryd.underlying22 hi hz0 hz1 hz2 rfl (by omega) v bs.length (vals bs) hs hown ad m cap (vals cs) hx (by rw [length_vals]; omega) (fun j u hu => hr.cellsAt ad rfl j u hu) (vals_one _) (by unfold maxLen; omega) (by omega) hbase ?_
    intro v' w' h1 h2 _
    exact h v' w' (own_append h1 (by omega)) h2
theorem after_copy {wq w6 : World} (hg6 : (wq.alloc (.cells #[] 5)).drew.grownBy w6 (Value.slice (some ⟨wq.heap.size, 0, none⟩) 0 0).ownBlock) : Below wq.heap.size wq w6 :=
  (((Below.refl wq.heap.size wq).alloc (Nat.le_refl _) (.cells #[] 5)).drew).grown hg6 (by simp) (fun i e => by cases e; exact Nat.le_refl _)
theorem empty_at {W : World} {base B : Nat} (h : W.heap[B]? = some (.cells #[] 5)) (hb : base ≤ B) : Own W base (.slice (some ⟨B, 0, none⟩) 0 0) [] :=
  own_heap (bs := []) h hb (by unfold maxLen; simp)
theorem after_at {wq W w6 : World} {B : Nat} (hW : Below wq.heap.size wq W) (hB : wq.heap.size ≤ B) (hg6 : W.grownBy w6 (Value.slice (some ⟨B, 0, none⟩) 0 0).ownBlock) : Below wq.heap.size wq w6 :=
  hW.grown hg6 hW.size (fun i e => by cases e; exact hB)
theorem own_ne_fb {w : World} {base i n c g : Nat} {xs : List (BitVec 8)} {A : Bool} {H : Int} {v : Value} (h : Own w base (.slice (some ⟨i, 0, none⟩) n c) xs) (hf : FB w g A H v) : i ≠ g := by
  rintro rfl
  rcases h.2 with ⟨h1, _⟩ | ⟨g', c', cur, h1, _, h3, _⟩
  · cases h1
  · simp only [Value.slice.injEq, Option.some.injEq, Addr.mk.injEq] at h1
    obtain ⟨⟨rfl, _⟩, _⟩ := h1
    rw [hf] at h3
    simp only [Option.some.injEq, Obj.cells.injEq] at h3
    exact absurd h3.2.1 (by decide)
theorem c_before {wq W w6 : World} {B gc i vc len ga : Nat} {H Ha : Int} {Aa : Bool} {va : Value} {xs : List (BitVec 8)} (hW : Below wq.heap.size wq W) (hB : wq.heap.size ≤ B) (hC : FB W gc false 0 (.slice none 0 0)) (hne : gc ≠ B) (hgc : wq.heap.size ≤ gc) (hA : FB wq ga Aa Ha va)
    (ho : Own w6 wq.heap.size (.slice (some ⟨i, 0, none⟩) len vc) xs) (hg6 : W.grownBy w6 (Value.slice (some ⟨B, 0, none⟩) 0 0).ownBlock) :
    Hid (FB w6 gc false 0 (.slice none 0 0)) ∧ Hid (FB w6 ga Aa Ha va) ∧ Hid (FB (((w6.setCell ⟨gc, 0, none⟩ (.bool false)).setCell ⟨gc, 1, none⟩ (.int .i64 H)).setCell ⟨gc, 2, none⟩ (.slice (some ⟨i, 0, none⟩) len vc)) ga Aa Ha va) ∧
    Hid (FB (((w6.setCell ⟨gc, 0, none⟩ (.bool false)).setCell ⟨gc, 1, none⟩ (.int .i64 H)).setCell ⟨gc, 2, none⟩ (.slice (some ⟨i, 0, none⟩) len vc)) gc false H (.slice (some ⟨i, 0, none⟩) len vc)) ∧
    Hid (Own (((w6.setCell ⟨gc, 0, none⟩ (.bool false)).setCell ⟨gc, 1, none⟩ (.int .i64 H)).setCell ⟨gc, 2, none⟩ (.slice (some ⟨i, 0, none⟩) len vc)) wq.heap.size (.slice (some ⟨i, 0, none⟩) len vc) xs) ∧
    Hid (Below wq.heap.size wq (((w6.setCell ⟨gc, 0, none⟩ (.bool false)).setCell ⟨gc, 1, none⟩ (.int .i64 H)).setCell ⟨gc, 2, none⟩ (.slice (some ⟨i, 0, none⟩) len vc))) ∧ Hid (i ≠ gc ∧ wq.heap.size ≤ gc) := by
  have hb := after_at hW hB hg6
  have hF6 : FB w6 gc false 0 (.slice none 0 0) := hC.grown hg6 (fun e => hne (blk_eq e))
  have hN := own_ne_fb ho hF6
  have hg := grown3 w6 gc (.bool false) (.int .i64 H) (.slice (some ⟨i, 0, none⟩) len vc)
  have hA6 := hA.below hb
  have hlt := hA.lt
  exact ⟨hF6, hA6, hA6.grown hg (fun e => by have := Option.some.inj e; omega), hF6.set3 _ _ _, ho.other hg hN, below3 hb hgc _ _ _, hN, hgc⟩
theorem c_after {wq w6 : World} {i vc len ga : Nat} {H Ha : Int} {Aa : Bool} {va : Value} {xs : List (BitVec 8)} (hW : Below wq.heap.size wq (wq.alloc (.cells #[] 5)).drew) (hA : FB wq ga Aa Ha va)
    (ho : Own w6 wq.heap.size (.slice (some ⟨i, 0, none⟩) len vc) xs) (hg6 : (wq.alloc (.cells #[] 5)).drew.grownBy w6 (Value.slice (some ⟨wq.heap.size, 0, none⟩) 0 0).ownBlock) :
    Hid (FB w6 ga Aa Ha va) ∧ Hid (FB (w6.alloc (.cells #[.bool false, .int .i64 H, .slice (some ⟨i, 0, none⟩) len vc] 24)) ga Aa Ha va) ∧
    Hid (FB (w6.alloc (.cells #[.bool false, .int .i64 H, .slice (some ⟨i, 0, none⟩) len vc] 24)) w6.heap.size false H (.slice (some ⟨i, 0, none⟩) len vc)) ∧
    Hid (Own (w6.alloc (.cells #[.bool false, .int .i64 H, .slice (some ⟨i, 0, none⟩) len vc] 24)) wq.heap.size (.slice (some ⟨i, 0, none⟩) len vc) xs) ∧
    Hid (Below wq.heap.size wq (w6.alloc (.cells #[.bool false, .int .i64 H, .slice (some ⟨i, 0, none⟩) len vc] 24))) ∧ Hid (i ≠ w6.heap.size ∧ wq.heap.size ≤ w6.heap.size) := by
  have hb := after_at hW (Nat.le_refl _) hg6
  have hA6 := hA.below hb
  have h1 := (Below.refl w6.heap.size w6).alloc (Nat.le_refl _) (.cells #[.bool false, .int .i64 H, .slice (some ⟨i, 0, none⟩) len vc] 24)
  have hlt := ho.lt'
  exact ⟨hA6, hA6.below h1, FB.new _ _ _ _, ho.below h1, hb.trans (h1.mono hb.size), by omega, hb.size⟩
theorem grown_drew {w w' : World} {r : Option Nat} (h : w.grownBy w' r) : w.grownBy w'.drew r := ⟨h.os, h.tape, h.output, h.size, h.block⟩
theorem check_three {A : Bool} {H : Int} {n : Nat} : checkN A H n = 70 ∧ kindN A H n = 3 ∨ checkN A H n = 0 ∧ kindN A H n ≠ 3 := by
  unfold checkN
  by_cases h : kindN A H n = 3
  · rw [if_pos h]; exact .inl ⟨rfl, h⟩
  · rw [if_neg h]; exact .inr ⟨rfl, h⟩
theorem joined_bad {a b : Fw} (h : a.kind = 3 ∨ b.kind = 3) : joined a b = (zeroF, 70) := by unfold joined; rw [if_pos h]
theorem kind_all {H : Int} {n : Nat} (h : kindN true H n ≠ 3) : kindN true H n = 1 := by
  rcases kind_range true H n with ⟨_, h1, _⟩ | ⟨e, _⟩ | ⟨_, h1, _⟩ | e
  · cases h1
  · exact e
  · cases h1
  · exact absurd e h
theorem kind_no {H : Int} {n : Nat} (h : kindN false H n ≠ 3) : (kindN false H n = 0 ∧ H = 0 ∧ n = 0) ∨ (kindN false H n = 2 ∧ 1 ≤ n ∧ n ≤ 4096) := by
  rcases kind_range false H n with ⟨e, _, h1, h2⟩ | ⟨_, h1, _⟩ | ⟨e, _, _, _, h1, h2⟩ | e
  · exact .inl ⟨e, h1, h2⟩
  · cases h1
  · exact .inr ⟨e, h1, h2⟩
  · exact absurd e h
theorem joined_all {A B : Bool} {H G : Int} {xs ys : List (BitVec 8)} (h1 : kindN A H xs.length ≠ 3) (h2 : kindN B G ys.length ≠ 3) (h : A = true ∨ B = true) : joined ⟨A, H, xs⟩ ⟨B, G, ys⟩ = (⟨true, 0, []⟩, 0) := by
  unfold joined Fw.kind
  simp only []
  rw [if_neg (fun e => by rcases e with e | e; exact h1 e; exact h2 e), if_pos]
  rcases h with rfl | rfl
  · exact .inl (kind_all h1)
  · exact .inr (kind_all h2)
theorem joined_no {H G : Int} {xs ys : List (BitVec 8)} (h1 : kindN false H xs.length ≠ 3) (h2 : kindN false G ys.length ≠ 3) : joined ⟨false, H, xs⟩ ⟨false, G, ys⟩ = if xs.length = 0 then (⟨false, G, ys⟩, 0) else if ys.length = 0 then (⟨false, H, xs⟩, 0) else if H ≠ G ∨ xs.length ≠ ys.length then (zeroF, 3) else (⟨false, H, orZip xs ys⟩, 0) := by
  unfold joined Fw.kind
  simp only []
  rw [if_neg (fun e => by rcases e with e | e; exact h1 e; exact h2 e)]
  rcases kind_no h1 with ⟨e, _, hx⟩ | ⟨e, hx, _⟩ <;> rcases kind_no h2 with ⟨f, _, hy⟩ | ⟨f, hy, _⟩
  · rw [e, f, if_neg (by omega), if_pos rfl, if_pos hx]
  · rw [e, f, if_neg (by omega), if_pos rfl, if_pos hx]
  · rw [e, f, if_neg (by omega), if_neg (by omega), if_pos rfl, if_neg (by omega), if_pos hy]
  · rw [e, f, if_neg (by omega), if_neg (by omega), if_neg (by omega), if_neg (c := xs.length = 0) (by omega), if_neg (c := ys.length = 0) (by omega)]
set_option maxHeartbeats 1000000 in
set_option maxRecDepth 100000 in
theorem refJoin_any (A : Bool) (H : Int) (a : Option Addr) (len cap : Nat) (xs : List (BitVec 8)) (B : Bool) (G : Int) (b : Option Addr) (n c : Nat) (ys : List (BitVec 8)) (w : World) (hx : Rd w a len xs) (hy : Rd w b n ys) (hna : a = none → len = 0 ∧ cap = 0) (hnb : b = none → n = 0 ∧ c = 0) :
    Calls Tryd.prog 11 #[.agg #[.bool A, .int .i64 H, .slice a len cap], .agg #[.bool B, .int .i64 G, .slice b n c]] w fun e w' => ∃ v, e = .returned (.tuple #[.agg #[.bool (joined ⟨A, H, xs⟩ ⟨B, G, ys⟩).1.all, .int .i64 (joined ⟨A, H, xs⟩ ⟨B, G, ys⟩).1.hashes, v], .int .i64 (joined ⟨A, H, xs⟩ ⟨B, G, ys⟩).2]) ∧ Own w' w.heap.size v (joined ⟨A, H, xs⟩ ⟨B, G, ys⟩).1.data ∧ Below w.heap.size w w' := by
  obtain ⟨J, hJJ⟩ : ∃ J, joined ⟨A, H, xs⟩ ⟨B, G, ys⟩ = J := ⟨_, rfl⟩
  rw [hJJ]
  have HJD := hide hJJ
  clear hJJ
  obtain ⟨K, hK0⟩ : ∃ K, checkN = K := ⟨_, rfl⟩
  have HKN := hide hK0
  clear hK0
  obtain ⟨w0, u0, w1, ga, gb, r, e0, e1, e2, s0, s1, s2, HLT, HA, HBB, HR, HB⟩ := trio A H (.slice a len cap) B G (.slice b n c) w
  have a0 := HA.out.c0
  have a1 := HA.out.c1
  have a2 := HA.out.c2
  have HS := hide s0
  have HX := hide (hx.below HB.out)
  have HY := hide (hy.below HB.out)
  have HYo := hide hy
  have HYL := hide hy.1
  have HXL := hide hx.1
  have hlm : len ≤ 9223372036854775807 := by have := hx.2.1; omega
  have hnm : n ≤ 9223372036854775807 := by have := hy.2.1; omega
  have HRS : Hid (w.heap.size ≤ r) := by show _ ≤ r; have := HLT.out; have := HS.out; omega
  clear hx hy
  have HC : Hid (∀ (A : Bool) (H : Int) (a : Option Addr) (len cap : Nat) W, len ≤ 9223372036854775807 → Below w1.heap.size w1 W → Calls Tryd.prog 34 #[.agg #[.bool A, .int .i64 H, .slice a len cap]] W fun e w' => e = .returned (.int .i64 (K A H len)) ∧ Below w1.heap.size w1 w') := fun A H a len cap W hl hW =>
    (refCheck_any A H a len cap W hl).mono fun e w' ⟨h1, h2⟩ => ⟨by rw [h1, HKN.out], hW.trans (h2.mono hW.size)⟩
  rcases check_three (A := A) (H := H) (n := len) with ⟨hk1, hk2⟩ | ⟨hk1, hk2⟩
  · have HE : Hid (J = (zeroF, 70)) := HJD.out.symm.trans (joined_bad (.inl (by unfold Fw.kind; simp only []; rw [HXL.out]; exact hk2)))
    have hkk : K A H len = 70 := by rw [← HKN.out]; exact hk1
    clear hk1 hk2
    have p1 : ((70 : Int) != 0) = true := rfl
    go_enter Tryd.func11, Tryd.ntmps11
    go_wp2_with fail
    refine (HC.out _ _ _ _ _ _ hlm (Below.refl _ _)).mono ?_
    rintro e wq ⟨rfl, hbwq⟩
    rw [hkk]
    have HRq := hide (HR.out.below hbwq)
    have HBW : Hid (Below w.heap.size w wq) := HB.out.trans (hbwq.mono HB.out.size)
    have r0 := HRq.out.c0
    have r1 := HRq.out.c1
    have r2 := HRq.out.c2
    have z0 := HRq.out.fz 0
    have z1 := HRq.out.fz 1
    have z2 := HRq.out.fz 2
    have HRE := hide (HRq.out.set3 false 0 (.slice none 0 0))
    have HBE := hide (below3 HBW.out (g := r) HRS.out (.bool false) (.int .i64 0) (.slice none 0 0))
    go_wp2_with fail
    refine bodyPost_ret (fb_ret2 rfl _ _ r false 0 (.slice none 0 0) rfl HRE.out) rfl ?_
    rw [HE.out]
    exact ⟨_, rfl, own_none _ _, HBE.out⟩
  · have hkk : K A H len = 0 := by rw [← HKN.out]; exact hk1
    have HK2 : Hid (kindN A H xs.length ≠ 3) := by show _ ≠ _; rw [HXL.out]; exact hk2
    have p1 : ((0 : Int) != 0) = false := rfl
    clear hk1 hk2
    rcases check_three (A := B) (H := G) (n := n) with ⟨hk1, hk2⟩ | ⟨hk1, hk2⟩
    · have HE : Hid (J = (zeroF, 70)) := HJD.out.symm.trans (joined_bad (.inr (by unfold Fw.kind; simp only []; rw [HYL.out]; exact hk2)))
      have hkb : K B G n = 70 := by rw [← HKN.out]; exact hk1
      have p2 : ((70 : Int) != 0) = true := rfl
      clear hk1 hk2
      go_enter Tryd.func11, Tryd.ntmps11
      go_wp2_with fail
      refine (HC.out _ _ _ _ _ _ hlm (Below.refl _ _)).mono ?_
      rintro e w5 ⟨rfl, hbw5⟩
      rw [hkk]
      have b0 := (HBB.out.below hbw5).c0
      have b1 := (HBB.out.below hbw5).c1
      have b2 := (HBB.out.below hbw5).c2
      go_wp2_with fail
      refine (HC.out _ _ _ _ _ _ hnm hbw5).mono ?_
      rintro e wq ⟨rfl, hbwq⟩
      rw [hkb]
      clear b0 b1 b2
      have HRq := hide (HR.out.below hbwq)
      have HBW : Hid (Below w.heap.size w wq) := HB.out.trans (hbwq.mono HB.out.size)
      have r0 := HRq.out.c0
      have r1 := HRq.out.c1
      have r2 := HRq.out.c2
      have z0 := HRq.out.fz 0
      have z1 := HRq.out.fz 1
      have z2 := HRq.out.fz 2
      have HRE := hide (HRq.out.set3 false 0 (.slice none 0 0))
      have HBE := hide (below3 HBW.out (g := r) HRS.out (.bool false) (.int .i64 0) (.slice none 0 0))
      go_wp2_with fail
      refine bodyPost_ret (fb_ret2 rfl _ _ r false 0 (.slice none 0 0) rfl HRE.out) rfl ?_
      rw [HE.out]
      exact ⟨_, rfl, own_none _ _, HBE.out⟩
    · have hkb : K B G n = 0 := by rw [← HKN.out]; exact hk1
      have HK3 : Hid (kindN B G ys.length ≠ 3) := by show _ ≠ _; rw [HYL.out]; exact hk2
      clear hk1 hk2
      go_enter Tryd.func11, Tryd.ntmps11
      go_wp2_with fail
      refine (HC.out _ _ _ _ _ _ hlm (Below.refl _ _)).mono ?_
      rintro e w5 ⟨rfl, hbw5⟩
      rw [hkk]
      have b0 := (HBB.out.below hbw5).c0
      have b1 := (HBB.out.below hbw5).c1
      have b2 := (HBB.out.below hbw5).c2
      go_wp2_with fail
      refine (HC.out _ _ _ _ _ _ hnm hbw5).mono ?_
      rintro e wq ⟨rfl, hbwq⟩
      rw [hkb]
      clear b0 b1 b2 a0 a1 a2 hbw5
      have HRq := hide (HR.out.below hbwq)
      have HBW : Hid (Below w.heap.size w wq) := HB.out.trans (hbwq.mono HB.out.size)
      have r0 := HRq.out.c0
      have r1 := HRq.out.c1
      have r2 := HRq.out.c2
      have z0 := HRq.out.fz 0
      have z1 := HRq.out.fz 1
      have z2 := HRq.out.fz 2
      have HAq := hide (HA.out.below hbwq)
      have HBq := hide (HBB.out.below hbwq)
      have HXq := hide (HX.out.below hbwq)
      have HYq := hide (HY.out.below hbwq)
      have HQS : Hid (w.heap.size ≤ wq.heap.size) := HBW.out.size
      have a0 := HAq.out.c0
      have a1 := HAq.out.c1
      have a2 := HAq.out.c2
      have b0 := HBq.out.c0
      have b1 := HBq.out.c1
      have b2 := HBq.out.c2
      clear hbwq HX HY HC
      by_cases hall : A = true ∨ B = true
      · have HE : Hid (J = (⟨true, 0, []⟩, 0)) := HJD.out.symm.trans (joined_all HK2.out HK3.out hall)
        have HRE := hide (HRq.out.set3 true 0 (.slice none 0 0))
        have HBE := hide (below3 HBW.out (g := r) HRS.out (.bool true) (.int .i64 0) (.slice none 0 0))
        have hc : A = true ∨ (A = false ∧ B = true) := by cases A <;> simp_all
        rcases hc with rfl | ⟨rfl, rfl⟩
        · go_wp2_with fail
          refine bodyPost_ret (fb_ret2 rfl _ _ r true 0 (.slice none 0 0) rfl HRE.out) rfl ?_
          rw [HE.out]
          exact ⟨_, rfl, own_none _ _, HBE.out⟩
        · go_wp2_with fail
          refine bodyPost_ret (fb_ret2 rfl _ _ r true 0 (.slice none 0 0) rfl HRE.out) rfl ?_
          rw [HE.out]
          exact ⟨_, rfl, own_none _ _, HBE.out⟩
      · obtain ⟨rfl, rfl⟩ : A = false ∧ B = false := by cases A <;> cases B <;> simp_all
        have HJN := hide (joined_no HK2.out HK3.out)
        rw [HXL.out, HYL.out] at HJN
        clear hall
        have HRX := hide (HXq.out.below ((Below.refl wq.heap.size wq).alloc (Nat.le_refl _) (.cells #[] 5)))
        have HRY := hide (HYq.out.below ((Below.refl wq.heap.size wq).alloc (Nat.le_refl _) (.cells #[] 5)))
        have HO1 : Hid (Own (wq.alloc (.cells #[] 5)) wq.heap.size (.slice (some ⟨wq.heap.size, 0, none⟩) 0 0) []) := own_empty wq _ (Nat.le_refl _)
        have hlb : len ≤ 140737488355328 := HXq.out.2.1
        have hnb' : n ≤ 140737488355328 := HYq.out.2.1
        by_cases hl0 : len = 0
        · have HE : Hid (J = (⟨false, G, ys⟩, 0)) := HJD.out.symm.trans (HJN.out.trans (if_pos hl0))
          have q1 : ((len : Int) == 0) = true := by rw [beq_iff_eq]; omega
          clear HJN
          have HXX := hide HBq.out.lt
          go_wp2_with fail
          go_region_held_law (fun V => V.cell? ⟨gb, 1, none⟩ = some (.int .i64 G) ∧ V.cell? ⟨gb, 2, none⟩ = some (.slice b n c)) (first | go_keep | exact E8.out | exact E9.out) (first
            | (refine step_join rfl (.tmp 30) (.tmp 32) rfl wq.heap.size (.slice (some ⟨wq.heap.size, 0, none⟩) 0 0) [] (by simp [Act.eval]) HO1.out b n c ys (by simp [Act.eval]) HRY.out hnb (by simp; omega) (by simp) ?_; intro v6 w6 ho hg6; rw [List.nil_append] at ho; obtain ⟨va, vc, rfl⟩ := ho.shape; generalize ys.length = L at ho ⊢; have hb := after_copy hg6; have HR6 := hide (HRq.out.below hb); have HB6 : Hid (Below w.heap.size w w6) := HBW.out.trans (hb.mono HQS.out); have HO6 := hide ho; have E8 : Hid (w6.cell? ⟨gb, 1, none⟩ = some (.int .i64 G) ∧ w6.cell? ⟨gb, 2, none⟩ = some (.slice b n c)) := ⟨(hb.cell (p := ⟨gb, 1, none⟩) HXX.out).trans b1, (hb.cell (p := ⟨gb, 2, none⟩) HXX.out).trans b2⟩; have y0 := HR6.out.c0; have y1 := HR6.out.c1; have y2 := HR6.out.c2; have x0 := HR6.out.fz 0; have x1 := HR6.out.fz 1; have x2 := HR6.out.fz 2; have HRE := hide (HR6.out.set3 false G (.slice va L vc)); have HG5 := hide (grown3 w6 r (.bool false) (.int .i64 G) (.slice va L vc)); have E9 : Hid ((((w6.setCell ⟨r, 0, none⟩ (.bool false)).setCell ⟨r, 1, none⟩ (.int .i64 G)).setCell ⟨r, 2, none⟩ (.slice va L vc)).cell? ⟨gb, 1, none⟩ = some (.int .i64 G) ∧ (((w6.setCell ⟨r, 0, none⟩ (.bool false)).setCell ⟨r, 1, none⟩ (.int .i64 G)).setCell ⟨r, 2, none⟩ (.slice va L vc)).cell? ⟨gb, 2, none⟩ = some (.slice b n c)) := ⟨((HBq.out.below hb).grown HG5.out (by have := HLT.out; intro e; have := Option.some.inj e; omega)).c1, ((HBq.out.below hb).grown HG5.out (by have := HLT.out; intro e; have := Option.some.inj e; omega)).c2⟩; have HBE := hide (below3 HB6.out (g := r) HRS.out (.bool false) (.int .i64 G) (.slice va L vc)); clear ho hg6 hb))
          all_goals
            go_wp2_with fail
            have HBLK : Hid (∀ q, (Value.slice va L vc).ownBlock = some q → r < q) := fun q e => by
              have h1 := (World.ownsRow.lt HO6.out q e).1
              have h2 := HRq.out.lt
              omega
            refine bodyPost_ret (fb_ret2 rfl _ _ r false G (.slice va L vc) rfl HRE.out) rfl ?_
            rw [HE.out]
            exact ⟨_, rfl, (keep HO6.out HG5.out (fun q j e1 e2 => by have := HBLK.out q e1; have := Option.some.inj e2; omega)).mono HQS.out, HBE.out⟩
        · have q1 : ((len : Int) == 0) = false := by rw [beq_eq_false_iff_ne]; omega
          by_cases hn0 : n = 0
          · have HE : Hid (J = (⟨false, H, xs⟩, 0)) := HJD.out.symm.trans (HJN.out.trans ((if_neg hl0).trans (if_pos hn0)))
            have q2 : ((n : Int) == 0) = true := by rw [beq_iff_eq]; omega
            clear HJN
            have HXX := hide HAq.out.lt
            go_wp2_with fail
            go_region_held_law (fun V => V.cell? ⟨ga, 1, none⟩ = some (.int .i64 H) ∧ V.cell? ⟨ga, 2, none⟩ = some (.slice a len cap)) (first | go_keep | exact E8.out | exact E9.out) (first
              | (refine step_join rfl (.tmp 41) (.tmp 43) rfl wq.heap.size (.slice (some ⟨wq.heap.size, 0, none⟩) 0 0) [] (by simp [Act.eval]) HO1.out a len cap xs (by simp [Act.eval]) HRX.out hna (by simp; omega) (by simp) ?_; intro v6 w6 ho hg6; rw [List.nil_append] at ho; obtain ⟨va, vc, rfl⟩ := ho.shape; generalize xs.length = L at ho ⊢; have hb := after_copy hg6; have HR6 := hide (HRq.out.below hb); have HB6 : Hid (Below w.heap.size w w6) := HBW.out.trans (hb.mono HQS.out); have HO6 := hide ho; have E8 : Hid (w6.cell? ⟨ga, 1, none⟩ = some (.int .i64 H) ∧ w6.cell? ⟨ga, 2, none⟩ = some (.slice a len cap)) := ⟨(hb.cell (p := ⟨ga, 1, none⟩) HXX.out).trans a1, (hb.cell (p := ⟨ga, 2, none⟩) HXX.out).trans a2⟩; have y0 := HR6.out.c0; have y1 := HR6.out.c1; have y2 := HR6.out.c2; have x0 := HR6.out.fz 0; have x1 := HR6.out.fz 1; have x2 := HR6.out.fz 2; have HRE := hide (HR6.out.set3 false H (.slice va L vc)); have HG5 := hide (grown3 w6 r (.bool false) (.int .i64 H) (.slice va L vc)); have E9 : Hid ((((w6.setCell ⟨r, 0, none⟩ (.bool false)).setCell ⟨r, 1, none⟩ (.int .i64 H)).setCell ⟨r, 2, none⟩ (.slice va L vc)).cell? ⟨ga, 1, none⟩ = some (.int .i64 H) ∧ (((w6.setCell ⟨r, 0, none⟩ (.bool false)).setCell ⟨r, 1, none⟩ (.int .i64 H)).setCell ⟨r, 2, none⟩ (.slice va L vc)).cell? ⟨ga, 2, none⟩ = some (.slice a len cap)) := ⟨((HAq.out.below hb).grown HG5.out (by have := HLT.out; intro e; have := Option.some.inj e; omega)).c1, ((HAq.out.below hb).grown HG5.out (by have := HLT.out; intro e; have := Option.some.inj e; omega)).c2⟩; have HBE := hide (below3 HB6.out (g := r) HRS.out (.bool false) (.int .i64 H) (.slice va L vc)); clear ho hg6 hb))
            all_goals
              go_wp2_with fail
              have HBLK : Hid (∀ q, (Value.slice va L vc).ownBlock = some q → r < q) := fun q e => by
                have h1 := (World.ownsRow.lt HO6.out q e).1
                have h2 := HRq.out.lt
                omega
              refine bodyPost_ret (fb_ret2 rfl _ _ r false H (.slice va L vc) rfl HRE.out) rfl ?_
              rw [HE.out]
              exact ⟨_, rfl, (keep HO6.out HG5.out (fun q j e1 e2 => by have := HBLK.out q e1; have := Option.some.inj e2; omega)).mono HQS.out, HBE.out⟩
          · have q2 : ((n : Int) == 0) = false := by rw [beq_eq_false_iff_ne]; omega
            have HJ4 := hide (HJN.out.trans ((if_neg hl0).trans (if_neg hn0)))
            clear HJN
            by_cases hne : H ≠ G ∨ len ≠ n
            · have HE : Hid (J = (zeroF, 3)) := HJD.out.symm.trans (HJ4.out.trans (if_pos hne))
              have hc : (H != G) = true ∨ ((H != G) = false ∧ ((len : Int) != (n : Int)) = true) := by
                by_cases e : H = G
                · exact .inr ⟨by rw [e]; simp, by rw [bne_iff_ne]; rcases hne with h | h; exact absurd e h; omega⟩
                · exact .inl (by rw [bne_iff_ne]; exact e)
              clear HJ4 hne
              have HRE := hide (HRq.out.set3 false 0 (.slice none 0 0))
              have HBE := hide (below3 HBW.out (g := r) HRS.out (.bool false) (.int .i64 0) (.slice none 0 0))
              rcases hc with q3 | ⟨q3, q4⟩
              · go_wp2_with fail
                refine bodyPost_ret (fb_ret2 rfl _ _ r false 0 (.slice none 0 0) rfl HRE.out) rfl ?_
                rw [HE.out]
                exact ⟨_, rfl, own_none _ _, HBE.out⟩
              · go_wp2_with fail
                refine bodyPost_ret (fb_ret2 rfl _ _ r false 0 (.slice none 0 0) rfl HRE.out) rfl ?_
                rw [HE.out]
                exact ⟨_, rfl, own_none _ _, HBE.out⟩
            · have HE : Hid (J = (⟨false, H, orZip xs ys⟩, 0)) := HJD.out.symm.trans (HJ4.out.trans (if_neg hne))
              obtain ⟨rfl, rfl⟩ : H = G ∧ len = n := by
                by_cases e1 : H = G <;> by_cases e2 : len = n <;> simp_all
              clear HJ4 hne
              have q3 : (H != H) = false := by simp
              have q4 : ((len : Int) != (len : Int)) = false := by simp
              go_wp2_with fail
              go_cut [6] (fun p wx => ∃ gf i vc, p = .pointer (some ⟨gf, 0, none⟩) ∧ Hid (FB wx gf false H (.slice (some ⟨i, 0, none⟩) len vc)) ∧ Hid (Own wx wq.heap.size (.slice (some ⟨i, 0, none⟩) len vc) xs) ∧ Hid (Below wq.heap.size wq wx) ∧ Hid (i ≠ gf ∧ wq.heap.size ≤ gf))
              case first =>
                have HW1 : Hid (Below wq.heap.size wq (wq.alloc (.cells #[] 5)).drew) := (((Below.refl wq.heap.size wq).alloc (Nat.le_refl _) _).drew)
                have HW2 : Hid (Below wq.heap.size wq ((wq.alloc (.cells #[] 5)).alloc (.cells #[.bool false, .int .i64 0, .slice none 0 0] 24)).drew) := ((((Below.refl wq.heap.size wq).alloc (Nat.le_refl _) _).alloc (by simp) _).drew)
                have HW3 : Hid (Below wq.heap.size wq ((wq.alloc (.cells #[.bool false, .int .i64 0, .slice none 0 0] 24)).alloc (.cells #[] 5)).drew) := ((((Below.refl wq.heap.size wq).alloc (Nat.le_refl _) _).alloc (by simp) _).drew)
                have HE1 : Hid (((wq.alloc (.cells #[] 5)).drew).heap[wq.heap.size]? = some (.cells #[] 5)) := heap_alloc_new _ _
                have HE2 : Hid ((((wq.alloc (.cells #[] 5)).alloc (.cells #[.bool false, .int .i64 0, .slice none 0 0] 24)).drew).heap[wq.heap.size]? = some (.cells #[] 5)) := (heap_alloc_old _ _ (by simp)).trans (heap_alloc_new _ _)
                have HE3 : Hid ((((wq.alloc (.cells #[.bool false, .int .i64 0, .slice none 0 0] 24)).alloc (.cells #[] 5)).drew).heap[wq.heap.size + 1]? = some (.cells #[] 5)) := by
                  have h := heap_alloc_new (wq.alloc (.cells #[.bool false, .int .i64 0, .slice none 0 0] 24)) (.cells #[] 5)
                  rw [show (wq.alloc (.cells #[.bool false, .int .i64 0, .slice none 0 0] 24)).heap.size = wq.heap.size + 1 by simp] at h
                  exact h
                have HC2 : Hid (FB ((wq.alloc (.cells #[] 5)).alloc (.cells #[.bool false, .int .i64 0, .slice none 0 0] 24)).drew (wq.heap.size + 1) false 0 (.slice none 0 0)) := by
                  have h := heap_alloc_new (wq.alloc (.cells #[] 5)) (.cells #[.bool false, .int .i64 0, .slice none 0 0] 24)
                  rw [show (wq.alloc (.cells #[] 5)).heap.size = wq.heap.size + 1 by simp] at h
                  exact h
                have HC3 : Hid (FB ((wq.alloc (.cells #[.bool false, .int .i64 0, .slice none 0 0] 24)).alloc (.cells #[] 5)).drew wq.heap.size false 0 (.slice none 0 0)) := (heap_alloc_old _ _ (by simp)).trans (heap_alloc_new _ _)
                go_region_held_law (fun V => V.cell? ⟨ga, 1, none⟩ = some (.int .i64 H) ∧ V.cell? ⟨ga, 2, none⟩ = some (.slice a len cap)) (first | go_keep | exact E8.out | exact E9.out) (first
                  | (refine step_join rfl (.tmp 63) (.tmp 65) rfl wq.heap.size (.slice (some ⟨wq.heap.size, 0, none⟩) 0 0) [] (by simp [Act.eval]) (empty_at HE2.out (by omega)) a len cap xs (by simp [Act.eval]) (HXq.out.below HW2.out) hna (by simp; omega) HW2.out.size ?_; intro v6 w6 ho hg6; rw [List.nil_append] at ho; obtain ⟨va, vc, rfl⟩ := ho.shape; rw [HXL.out] at ho ⊢; obtain ⟨i, rfl⟩ := own_some ho (by omega); obtain ⟨HF6, HA6, HA7, HF7, HO7, HB7, HN7⟩ := c_before (H := H) HW2.out (by omega) HC2.out (by omega) (by omega) HAq.out ho hg6; have y0 := HF6.out.c0; have y1 := HF6.out.c1; have y2 := HF6.out.c2; have x0 := HF6.out.fz 0; have x1 := HF6.out.fz 1; have x2 := HF6.out.fz 2; have E8 := hide (And.intro HA6.out.c1 HA6.out.c2); have E9 := hide (And.intro HA7.out.c1 HA7.out.c2); clear ho hg6)
                  | (refine step_join rfl (.tmp 63) (.tmp 65) rfl wq.heap.size (.slice (some ⟨wq.heap.size + 1, 0, none⟩) 0 0) [] (by simp [Act.eval]) (empty_at HE3.out (by omega)) a len cap xs (by simp [Act.eval]) (HXq.out.below HW3.out) hna (by simp; omega) HW3.out.size ?_; intro v6 w6 ho hg6; rw [List.nil_append] at ho; obtain ⟨va, vc, rfl⟩ := ho.shape; rw [HXL.out] at ho ⊢; obtain ⟨i, rfl⟩ := own_some ho (by omega); obtain ⟨HF6, HA6, HA7, HF7, HO7, HB7, HN7⟩ := c_before (H := H) HW3.out (by omega) HC3.out (by omega) (by omega) HAq.out ho hg6; have y0 := HF6.out.c0; have y1 := HF6.out.c1; have y2 := HF6.out.c2; have x0 := HF6.out.fz 0; have x1 := HF6.out.fz 1; have x2 := HF6.out.fz 2; have E8 := hide (And.intro HA6.out.c1 HA6.out.c2); have E9 := hide (And.intro HA7.out.c1 HA7.out.c2); clear ho hg6)
                  | (refine step_join rfl (.tmp 63) (.tmp 65) rfl wq.heap.size (.slice (some ⟨wq.heap.size, 0, none⟩) 0 0) [] (by simp [Act.eval]) (empty_at HE1.out (by omega)) a len cap xs (by simp [Act.eval]) (HXq.out.below HW1.out) hna (by simp; omega) HW1.out.size ?_; intro v6 w6 ho hg6; rw [List.nil_append] at ho; obtain ⟨va, vc, rfl⟩ := ho.shape; rw [HXL.out] at ho ⊢; obtain ⟨i, rfl⟩ := own_some ho (by omega); obtain ⟨HA6, HA7, HF7, HO7, HB7, HN7⟩ := c_after (H := H) HW1.out HAq.out ho hg6; have E8 := hide (And.intro HA6.out.c1 HA6.out.c2); have E9 := hide (And.intro HA7.out.c1 HA7.out.c2); clear ho hg6))
                all_goals go_wp2_with fail
                all_goals go_meet
                all_goals exact ⟨_, _, _, rfl, HF7, HO7, HB7, HN7⟩
              case rest =>
              obtain ⟨gf, i, vc, rfl, HF3, HO3, HBQ, HNE⟩ := hcut
              obtain ⟨w3, hw3⟩ : ∃ w3, w3 = wc := ⟨_, rfl⟩
              rw [← hw3] at HF3 HO3 HBQ ⊢
              clear hw3
              have HR3 := hide (HRq.out.below HBQ.out)
              have HB3 := hide (HBq.out.below HBQ.out)
              have HBW3 : Hid (Below w.heap.size w w3) := HBW.out.trans (HBQ.out.mono HQS.out)
              have HI := hide HO3.out.lt'
              have HRL := hide HRq.out.lt
              have HBL := hide HBq.out.lt
              have HGFW : Hid (w.heap.size ≤ gf) := Nat.le_trans HQS.out HNE.out.2
              have HIW : Hid (w.heap.size ≤ i) := Nat.le_trans HQS.out HI.out.1
              have HY0 := hide HYq.out.2.2
              clear a0 a1 a2 b0 b1 b2 r0 r1 r2 z0 z1 z2 HRX HRY HO1
              go_wp2_with fail
              go_loopw [7] (fun j wr => ∃ k : Nat, k ≤ len ∧ j = .int .i64 (k : Int) ∧ Hid (Own wr wq.heap.size (.slice (some ⟨i, 0, none⟩) len vc) (orTo xs ys k)) ∧ Hid (w3.grownBy wr (some i))) (fun j _ => len - (intOf j).toNat)
              case atStart => exact ⟨0, Nat.zero_le _, rfl, by rw [orTo_zero]; exact HO3, World.grownBy.refl _ _⟩
              case round =>
                clear HO3
                obtain ⟨k, hk, rfl, HO, HG⟩ := hrel
                have HFr := hide (HF3.out.grown HG.out (fun e => by have := Option.some.inj e; have := HNE.out.1; omega))
                have HBr : Hid (Below w.heap.size w wr) := HBW3.out.grown HG.out HBW3.out.size (fun j e => by have := Option.some.inj e; have := HIW.out; omega)
                have f2 := HFr.out.c2
                by_cases hlt : k < len
                · have hki : (k : Int) < (len : Int) := by omega
                  have g2 := (HB3.out.grown HG.out (fun e => by have := Option.some.inj e; have := HBL.out; have := HI.out.1; omega)).c2
                  obtain ⟨b1, o1, rfl, hb1, hc1⟩ := HYo.out.2.2 (by omega)
                  have g1 := hc1 k hlt
                  rw [← HBr.out.cell (p := ⟨b1, o1 + k, none⟩) hb1] at g1
                  have g3 := HO.out.cell k hlt
                  have fz := HO.out.frozen k
                  rw [orTo_get xs ys (by rw [HXL.out, HYL.out]) k (by rw [HXL.out]; exact hlt)] at g3
                  have HNX := hide (orTo_next xs ys (by rw [HXL.out, HYL.out]) k (by rw [HXL.out]; exact hlt))
                  have hor := or8 (xs.getD k 0) (ys.getD k 0)
                  generalize xs.getD k 0 = x at g3 hor HNX
                  generalize ys.getD k 0 = y at g1 hor HNX
                  have HST := hide (HO.out.store k (x ||| y))
                  rw [HNX.out] at HST
                  generalize x ||| y = z at hor HST
                  clear hc1
                  go_wp2_with fail
                  go_region
                  all_goals
                    go_wp2_with fail
                    go_roundw
                    case rel => exact ⟨k + 1, by omega, by go_num, HST.out.1, grown_trans HG.out (grown_drew HST.out.2)⟩
                    case measure => simp [intOf]; omega
                · have h0 : k = len := by omega
                  subst h0
                  have HOE : Hid (Own wr wq.heap.size (.slice (some ⟨i, 0, none⟩) k vc) (orZip xs ys)) := by
                    have h := HO.out
                    have e := orTo_all xs ys (by rw [HXL.out, HYL.out])
                    rw [HXL.out] at e
                    rw [e] at h
                    exact h
                  have HRr := hide (HR3.out.grown HG.out (fun e => by have := Option.some.inj e; have := HRL.out; have := HI.out.1; omega))
                  have f0 := HFr.out.c0
                  have f1 := HFr.out.c1
                  have r0 := HRr.out.c0
                  have r1 := HRr.out.c1
                  have r2 := HRr.out.c2
                  have z0 := HRr.out.fz 0
                  have z1 := HRr.out.fz 1
                  have z2 := HRr.out.fz 2
                  have HRE := hide (HRr.out.set3 false H (.slice (some ⟨i, 0, none⟩) k vc))
                  have HG5 := hide (grown3 wr r (.bool false) (.int .i64 H) (.slice (some ⟨i, 0, none⟩) k vc))
                  have HBE := hide (below3 HBr.out (g := r) HRS.out (.bool false) (.int .i64 H) (.slice (some ⟨i, 0, none⟩) k vc))
                  have hki : ¬ (k : Int) < (k : Int) := by omega
                  go_wp2_with fail
                  refine bodyPost_ret (fb_ret2 rfl _ _ r false H (.slice (some ⟨i, 0, none⟩) k vc) rfl HRE.out) rfl ?_
                  rw [HE.out]
                  have HQ2 : Hid (ga ≤ wq.heap.size) := by have := HQS.out; have := HS.out; show _ ≤ _; omega
                  have HBE2 := HBE.out
                  rw [HS.out] at HBE2
                  exact ⟨_, rfl, (HOE.out.other HG5.out (by have := HRL.out; have := HI.out.1; omega)).mono HQ2.out, HBE2⟩
end Go.Proofs.YtpdlpahpefojbaaDoor.Filt
