/-
  LinesAll: the lines of any split with their places; one going through behind another, one within another, and one that is left early.
-/
import Derived.Test.YtmhebaknoginhaaLnRef
import Derived.Test.YtmhebaknoginhaaRgQuiet
import Derived.Test.YtmhebaknoginhaaRgLaw2
import Derived.LoopN
import Derived.Deep.Cut
import Derived.Sort.CutIn
import Derived.Laws.EntriesVeiled
namespace Go.Proofs.Ytmhebaknoginhaa.Ln
open Go.ChangeShapes Go.WideShapes Go.ChangeAt Go.RowKit Go.Shelf
open Go.Proofs.Ytmhebaknoginhaa.Base Go.Proofs.Ytmhebaknoginhaa.Rf Go.Proofs.Ytmhebaknoginhaa.Rg
set_option linter.unusedVariables false
attribute [local go_sem] Oper.semAt_some
theorem fnil_in (d : Nat) (t : TypeId) (K : Nat) (x y : Array Value) (W : World) {a b : Array TypeId} {c : Bool} (ht : Try.prog.underlying t = some (.func a b c)) : (Op.equalIn (d + 1) t (.func (.func K) x y) .nilFunc).run Try.prog W = .ok false W := by
  simp [Op.equalIn, run_underlying ht]
theorem seq_nil (W : World) (g : Nat) : (binOp .eql 27 (.func (.func 25) #[] #[.pointer (some ⟨g, 0, none⟩)]) .nilFunc).run Try.prog W = .ok (.bool false) W := by
  have ht : Try.prog.underlying 27 = some (.func #[57] #[] false) := by kernel_rfl
  have h : (Op.equal 27 (.func (.func 25) #[] #[.pointer (some ⟨g, 0, none⟩)]) .nilFunc).run Try.prog W = .ok false W := fnil_in 9999 _ _ _ _ W ht
  simp only [binOp]
  simp [h]
theorem boxed_below {W W' : World} {B : Nat} {t : TypeId} {v : Value} (h : Boxed W B t v) (hb : Below W.heap.size W W') : Boxed W' B t v := (hb.block B h.lt).trans h
theorem keeps_grown {B : Nat} {W W' : World} {b : Nat} {t : TypeId} {v : Value} (hg : W.grownBy W' (some b)) (hb : Boxed W b t v) : KeepsFrom B W W' :=
  (KeepsOthers.of_grownBy hg (fun j o e ho => by cases e; rw [show W.heap[b]? = _ from hb] at ho; cases ho; rfl)).from B
theorem grown_below' {W W' : World} (hb : Below W.heap.size W W') (b : Nat) : W.grownBy W' (some b) := ⟨hb.os, hb.tape, hb.output, hb.size, fun i hi _ => hb.block i hi⟩
theorem load_bool {p : Tmp} {tmps : Array Value} {fn : Func} (h : fn.results = #[.cell p 4]) (gc : Nat) (v : Bool) (hp : tmps.getD p undef = .pointer (some ⟨gc, 0, none⟩)) (V : World) (hV : V.cell? ⟨gc, 0, none⟩ = some (.bool v)) : (results fn tmps).run Try.prog V = .ok (.bool v) V := by
  have hp' : tmps[p]?.getD undef = .pointer (some ⟨gc, 0, none⟩) := by simpa using hp
  simp [results, h, hp', asAddr, loadVar, go_sem, hV]
/-- What a box that counts says between two rounds. -/
def Cnt (wn : World) (b : Nat) (k : Nat) (W : World) : Prop := Boxed W b 3 (.int .i64 (k : Int)) ∧ wn.grownBy W (some b)
theorem Cnt.lasts {wn : World} {b k : Nat} (hb : b < wn.heap.size) : Lasts wn.heap.size (Cnt wn b k) := by
  rintro W j o o' ⟨h1, h2⟩ hj hjo ho
  exact ⟨boxed_put h1 hjo ho, ⟨h2.os, h2.tape, h2.output, by simp; exact h2.size, fun i hi hne => (World.putObj_heap_other (by omega)).trans (h2.block i hi hne)⟩⟩
theorem Cnt.below {wn : World} {b k : Nat} {W W' : World} (h : Cnt wn b k W) (hb : Below W.heap.size W W') : Cnt wn b k W' :=
  ⟨(hb.block _ h.1.lt).trans h.1, grown_trans h.2 (grown_below' hb b)⟩
theorem Cnt.start {wn W : World} {b : Nat} (h : Boxed wn b 3 (.int .i64 0)) (hb : Below wn.heap.size wn W) : Cnt wn b 0 W := ⟨(hb.block _ h.lt).trans h, grown_below' hb b⟩
theorem Cnt.at {wn W : World} {b k : Nat} (h : Cnt wn b k W) {i : Nat} {o : Obj} (hi : wn.heap[i]? = some o) (hne : i ≠ b) : W.heap[i]? = some o :=
  (h.2.block i (Array.getElem?_eq_some_iff.1 hi).1 (fun e => hne (Option.some.inj e))).trans hi
set_option maxHeartbeats 8000000 in
set_option maxRecDepth 100000 in
theorem allWalk (off : Int) (T : ByteArray) (stop : Int) (w : World) (hs : T.size ≤ 1099511627776) :
    Calls Try.prog 3 #[.agg #[.int .i64 off, .string T], .int .i64 stop] w fun e w' => e = .returned (.bool true) ∧ Below w.heap.size w w' := by
  have hcl := cnt_le T
  have hfn := seq_nil
  have HRA := hide (fun W => refAll_any T W hs)
  obtain ⟨w1, hw1⟩ : ∃ w1, w.alloc (.cells #[.int .i64 off, .string T] 23) = w1 := ⟨_, rfl⟩
  obtain ⟨w2, hw2⟩ : ∃ w2, w1.alloc (.cells #[.int .i64 stop] 3) = w2 := ⟨_, rfl⟩
  obtain ⟨w3, hw3⟩ : ∃ w3, w2.alloc (.cells #[.bool false] 4) = w3 := ⟨_, rfl⟩
  have HB1 : Hid (Below w.heap.size w w1) := by rw [← hw1]; exact (Below.refl _ _).alloc (Nat.le_refl _) _
  have HB2 : Hid (Below w1.heap.size w1 w2) := by rw [← hw2]; exact (Below.refl _ _).alloc (Nat.le_refl _) _
  have HB3 : Hid (Below w2.heap.size w2 w3) := by rw [← hw3]; exact (Below.refl _ _).alloc (Nat.le_refl _) _
  have HS1 : Hid (w1.heap[w.heap.size]? = some (.cells #[.int .i64 off, .string T] 23)) := by rw [← hw1]; exact World.alloc_heap_new _ _
  have HT2 : Hid (Boxed w2 w1.heap.size 3 (.int .i64 stop)) := by rw [← hw2]; exact World.alloc_heap_new _ _
  have HR3 : Hid (Boxed w3 w2.heap.size 4 (.bool false)) := by rw [← hw3]; exact World.alloc_heap_new _ _
  obtain ⟨bs, hbs⟩ : ∃ b, w.heap.size = b := ⟨_, rfl⟩
  obtain ⟨bt, hbt⟩ : ∃ b, w1.heap.size = b := ⟨_, rfl⟩
  obtain ⟨br, hbr⟩ : ∃ b, w2.heap.size = b := ⟨_, rfl⟩
  rw [hbs] at HS1
  rw [hbt] at HT2
  rw [hbr] at HR3
  have HBS := hide hbs
  have HBT := hide hbt
  have HBR := hide hbr
  have HL1 : Hid (bs < bt) := by have := (Array.getElem?_eq_some_iff.1 HS1.out).1; show bs < bt; omega
  have HL2 : Hid (bt < br) := by have := HT2.out.lt; show bt < br; omega
  have HS3 : Hid (w3.heap[bs]? = some (.cells #[.int .i64 off, .string T] 23)) := by
    have h1 := (HB2.out.block bs (by have := HL1.out; omega)).trans HS1.out
    exact (HB3.out.block bs (by have := HL1.out; have := HL2.out; omega)).trans h1
  have HT3 : Hid (Boxed w3 bt 3 (.int .i64 stop)) := (HB3.out.block bt (by have := HL2.out; omega)).trans HT2.out
  obtain ⟨p0, p1⟩ := cell2 HS3.out
  refine calls_marks Try.func3 rfl ?_
  simp only [Try.ntmps3, List.size_toArray, List.length_cons, List.length_nil, Nat.reduceAdd, Nat.reduceSub, Array.replicate_succ, Array.replicate_zero, List.push_toArray, List.append_toArray, List.nil_append, List.cons_append]
  go_upto_region 2 with (go_at_call 9; refine (HRA.out _).mono ?_; rintro e w4 ⟨vw, rfl, ho4, hb4⟩; obtain ⟨wa, wc, ew, _, _, _⟩ := ho4.shape; subst ew; have HO4 := hide ho4; have HB4 := hide hb4; clear ho4 hb4)
  have HS4 := hide ((HB4.out.block bs (Array.getElem?_eq_some_iff.1 HS3.out).1).trans HS3.out)
  have HT4 := hide (boxed_below HT3.out HB4.out)
  have HR4 := hide (boxed_below HR3.out HB4.out)
  clear hw1 hw2 hw3 p0 p1 hbs hbt hbr
  obtain ⟨w5, hw5⟩ : ∃ w5, w4.alloc (.cells #[.slice wa (cnt T) wc] 24) = w5 := ⟨_, rfl⟩
  obtain ⟨bw, hbw⟩ : ∃ b, w4.heap.size = b := ⟨_, rfl⟩
  have HB5 : Hid (Below w4.heap.size w4 w5) := by rw [← hw5]; exact (Below.refl _ _).alloc (Nat.le_refl _) _
  have HW5 : Hid (Boxed w5 bw 24 (.slice wa (cnt T) wc)) := by rw [← hw5, ← hbw]; exact World.alloc_heap_new _ _
  have HS5 := hide ((HB5.out.block bs (Array.getElem?_eq_some_iff.1 HS4.out).1).trans HS4.out)
  rw [hw5, hbw]
  obtain ⟨p0, p1⟩ := cell2 HS5.out
  clear hw5 hbw
  obtain ⟨w6, hw6⟩ : ∃ w6, w5.alloc (.cells #[.int .i64 off, .string T] 23) = w6 := ⟨_, rfl⟩
  obtain ⟨gc, hgc⟩ : ∃ b, w5.heap.size = b := ⟨_, rfl⟩
  obtain ⟨w7, hw7⟩ : ∃ w7, w6.alloc (.cells #[.func (.func 25) #[] #[.pointer (some ⟨gc, 0, none⟩)]] 27) = w7 := ⟨_, rfl⟩
  obtain ⟨bq, hbq⟩ : ∃ b, w6.heap.size = b := ⟨_, rfl⟩
  have HB6 : Hid (Below w5.heap.size w5 w6) := by rw [← hw6]; exact (Below.refl _ _).alloc (Nat.le_refl _) _
  have HB7 : Hid (Below w6.heap.size w6 w7) := by rw [← hw7]; exact (Below.refl _ _).alloc (Nat.le_refl _) _
  have HC6 : Hid (w6.heap[gc]? = some (.cells #[.int .i64 off, .string T] 23)) := by rw [← hw6, ← hgc]; exact World.alloc_heap_new _ _
  have HQ7 : Hid (Boxed w7 bq 27 (.func (.func 25) #[] #[.pointer (some ⟨gc, 0, none⟩)])) := by rw [← hw7, ← hbq]; exact World.alloc_heap_new _ _
  have HAA : Hid (∀ W, Calls Try.prog 10 #[.agg #[.int .i64 off, .string T]] W fun e w' => e = .returned (.func (.func 25) #[] #[.pointer (some ⟨W.heap.size, 0, none⟩)]) ∧ w' = W.alloc (.cells #[.int .i64 off, .string T] 23)) := fun W => all_any off T W
  go_upto_region 3 with (go_at_call 10; refine (HAA.out _).mono ?_; rintro e w9 ⟨rfl, e9⟩; rw [hw6] at e9; subst e9)
  have HC7 := hide ((HB7.out.block gc (Array.getElem?_eq_some_iff.1 HC6.out).1).trans HC6.out)
  have HB57 := hide (below_trans HB6.out HB7.out)
  have HB47 := hide (below_trans HB5.out HB57.out)
  have HS7 := hide ((HB57.out.block bs (Array.getElem?_eq_some_iff.1 HS5.out).1).trans HS5.out)
  have HW7 := hide (boxed_below HW5.out HB57.out)
  have HT7 := hide (boxed_below HT4.out HB47.out)
  have HR7 := hide (boxed_below HR4.out HB47.out)
  have HO7 := hide (HO4.out.below HB47.out)
  have HB07 := hide (below_trans HB1.out (below_trans HB2.out (below_trans HB3.out (below_trans HB4.out HB47.out))))
  have HBRG : Hid (w.heap.size ≤ br) := by have := HB1.out.size; have := HB2.out.size; have := HBR.out; show w.heap.size ≤ br; omega
  have HQC : Hid (bq < w7.heap.size) := HQ7.out.lt
  have cq := HQ7.out.cell
  clear hw6 hw7 hgc hbq p0 p1
  go_wp2_with fail
  clear cq
  obtain ⟨W0, hW0⟩ : ∃ W0, w7.alloc (.cells #[.int .i64 0] 3) = W0 := ⟨_, rfl⟩
  obtain ⟨b70, hb70⟩ : ∃ b, w7.heap.size = b := ⟨_, rfl⟩
  have HBW0 : Hid (Below w7.heap.size w7 W0) := by rw [← hW0]; exact (Below.refl _ _).alloc (Nat.le_refl _) _
  have HX0 : Hid (Boxed W0 b70 3 (.int .i64 0)) := by rw [← hW0, ← hb70]; exact World.alloc_heap_new _ _
  have HGE0 : Hid (w7.heap.size ≤ b70) := by rw [hb70]; exact Nat.le_refl _
  have HMK0 : Hid (Marks w7.heap.size W0 []) := trivial
  rw [hW0, hb70]
  clear hW0 hb70
  refine wp_loop_rounds 3 ?_
  rw [rounds_succ]
  have x0 := HX0.out.cell
  go_upto_region 9 with fail
  clear x0
  obtain ⟨n0, hn0⟩ : ∃ n, W0.alloc (.cells #[.int .i64 0] 3) = n := ⟨_, rfl⟩
  obtain ⟨c0, hc0⟩ : ∃ b, W0.heap.size = b := ⟨_, rfl⟩
  have HBN0 : Hid (Below W0.heap.size W0 n0) := by rw [← hn0]; exact (Below.refl _ _).alloc (Nat.le_refl _) _
  have HN0 : Hid (Boxed n0 c0 3 (.int .i64 0)) := by rw [← hn0, ← hc0]; exact World.alloc_heap_new _ _
  have HB7N0 := hide (below_trans HBW0.out HBN0.out)
  have HCG0 : Hid (w7.heap.size ≤ c0) := by have := HBW0.out.size; rw [hc0] at this; exact this
  have HAT0 : Hid (∀ i o, w7.heap[i]? = some o → n0.heap[i]? = some o ∧ i ≠ c0) := fun i o h => ⟨(HB7N0.out.block i (Array.getElem?_eq_some_iff.1 h).1).trans h, fun e => by have := (Array.getElem?_eq_some_iff.1 h).1; have := HCG0.out; omega⟩
  have HXN0 : Hid (Boxed n0 b70 3 (.int .i64 0)) := (HBN0.out.block _ HX0.out.lt).trans HX0.out
  have HXC0 : Hid (b70 ≠ c0) := fun e => by have := HX0.out.lt; have := hc0; omega
  have q0 := (Boxed.cell (HAT0.out bq _ HQ7.out).1 : n0.cell? ⟨bq, 0, none⟩ = some _)
  rw [hn0, hc0]
  clear hn0 hc0
  go_wp2_with fail
  clear q0
  refine wp_range_t (gf := 25) (lb := #[.pointer (some ⟨gc, 0, none⟩)]) (N := cnt T) (E := given off T) rfl (enter_fn Try.func25 (by kernel_rfl) rfl) (all_iter gc off T (by omega)) keeps_below (fun _ _ => rfl)
    (fun k t => (((t.setIfInBounds 24 (.int .i64 (wrap64 (off + (pl T k : Nat))))).setIfInBounds 25 (.string (ln T k))).setIfInBounds 9 (.int .i64 (wrap64 (off + (pl T k : Nat))))).setIfInBounds 10 (.string (ln T k)))
    (Cnt n0 c0) (fun c k W => c = .exit 2 ∧ 0 = 0 ∧ ((k + 1 : Nat) : Int) = stop ∧ Cnt n0 c0 (k + 1) W)
    (fun k => Cnt.lasts HN0.out.lt) (fun c k W j o o' h hj hjo ho => ⟨h.1, h.2.1, h.2.2.1, Cnt.lasts HN0.out.lt W j o o' h.2.2.2 hj hjo ho⟩)
    (fun k W W' h hb => h.below hb) (fun c k W W' h hb => ⟨h.1, h.2.1, h.2.2.1, h.2.2.2.below hb⟩)
    (fun k W h => h.at (HAT0.out gc _ HC7.out).1 (HAT0.out gc _ HC7.out).2) (fun W hb => Cnt.start HN0.out hb) ?assign0 ?body0 ?done0 ?stop0
  case assign0 =>
    intro l k W K hk hK
    unfold given
    gi_wp2
    exact hK
  case body0 =>
    rintro l k W hl hk ⟨rr, hr⟩ hI
    have HIW := hide hI
    have hkn := HIW.out.1.cell
    have HBWV : Hid (∀ V, n0.grownBy V (some c0) → Boxed V bw 24 (.slice wa (cnt T) wc)) := fun V hV => (hV.block bw (Array.getElem?_eq_some_iff.1 (HAT0.out bw _ HW7.out).1).1 (fun e => (HAT0.out bw _ HW7.out).2 (Option.some.inj e))).trans (HAT0.out bw _ HW7.out).1
    have kw := (HBWV.out W HIW.out.2).cell
    have ks := (cell2 (HIW.out.at (HAT0.out bs _ HS7.out).1 (HAT0.out bs _ HS7.out).2)).1
    obtain ⟨gw, gwc, egw, _, _, hgw⟩ := HO7.out.has (by omega)
    simp only [Value.slice.injEq] at egw
    obtain ⟨rfl, _, rfl⟩ := egw
    have HCL : Hid (∀ j u, (lf3 T k)[j]? = some u → j < 3 → W.cell? ⟨gw, k * 3 + j, none⟩ = some u) := fun j u hu hj => by
      have h1 := HO7.out.cellAt (fun _ => rfl) k j u hk hj hu
      have h2 := (HB7N0.out.cell (p := ⟨gw, k * 3 + j, none⟩) hgw).trans h1
      exact HIW.out.2.cell h2 (fun e => by have e2 : gw = c0 := Option.some.inj e; have := HCG0.out; omega)
    have kc0 := HCL.out 0 _ rfl (by omega)
    have kc1 := HCL.out 1 _ rfl (by omega)
    rw [Nat.add_zero] at kc0
    have hkC : ¬ (cnt T : Int) ≤ (k : Int) := by omega
    have hkCd : decide ((cnt T : Int) ≤ (k : Int)) = false := by simpa using hkC
    have hkCn : decide (cnt T ≤ k) = false := by simp; omega
    have hki : (k : Int) < (cnt T : Int) := by omega
    obtain ⟨p, hp⟩ : ∃ p, pl T k = p := ⟨_, rfl⟩
    obtain ⟨L, hL⟩ : ∃ L, ln T k = L := ⟨_, rfl⟩
    rw [hp] at kc0 ⊢
    rw [hL] at kc1 ⊢
    obtain ⟨X, hX⟩ : ∃ X, wrap64 (off + (p : Int)) = X := ⟨_, rfl⟩
    rw [hX]
    have hXw : IntKind.i64.wrap (off + (p : Int)) = X := by rw [IntKind.wrap_i64, ← hX]; unfold wrap64; omega
    clear hp hL hX HCL hI
    gi_wp2
    refine region_quiet (by kernel_rfl) (by kernel_rfl) (by kernel_rfl) ?_
    repeat (gi_big_quiet_step (fail))
    refine wpQuietIn_nil ?_
    rintro _ ⟨nq, rfl⟩
    obtain ⟨Wq, hWq⟩ : ∃ Wq, W.drewN nq = Wq := ⟨_, rfl⟩
    rw [hWq]
    have HBQ : Hid (Below W.heap.size W Wq) := by rw [← hWq]; exact below_drewN' _ _ _
    have HIQ := hide (HIW.out.below HBQ.out)
    have hrq := (HBQ.out.block l (Array.getElem?_eq_some_iff.1 hr).1).trans hr
    clear hWq hkn kw ks kc0 kc1
    have kn2 := HIQ.out.1.cell
    by_cases hk0 : k = 0
    · subst hk0
      gi_upto_region 16 with fail
      obtain ⟨Wi, hWi⟩ : ∃ Wi, Wq.alloc (.cells #[.int .i64 0] 3) = Wi := ⟨_, rfl⟩
      obtain ⟨bi, hbi⟩ : ∃ b, Wq.heap.size = b := ⟨_, rfl⟩
      have HBI : Hid (Below Wq.heap.size Wq Wi) := by rw [← hWi]; exact (Below.refl _ _).alloc (Nat.le_refl _) _
      have HNI : Hid (Boxed Wi bi 3 (.int .i64 0)) := by rw [← hWi, ← hbi]; exact World.alloc_heap_new _ _
      have HLI : Hid (∀ i, i < Wq.heap.size → i ≠ bi) := fun i hi e => by omega
      rw [hWi, hbi]
      clear hWi hbi kn2
      have HII := hide (HIQ.out.below HBI.out)
      have kq := (Boxed.cell (HII.out.at (HAT0.out bq _ HQ7.out).1 (HAT0.out bq _ HQ7.out).2) : Wi.cell? ⟨bq, 0, none⟩ = some _)
      have hri := (HBI.out.block l (Array.getElem?_eq_some_iff.1 hrq).1).trans hrq
      have HCI := hide (HII.out.at (HAT0.out gc _ HC7.out).1 (HAT0.out gc _ HC7.out).2)
      have HGI : Hid (gc ≠ bi) := HLI.out gc (Array.getElem?_eq_some_iff.1 (HIQ.out.at (HAT0.out gc _ HC7.out).1 (HAT0.out gc _ HC7.out).2)).1
      have HCLI : Hid (c0 ≠ bi) := HLI.out c0 HIQ.out.1.lt
      gi_wp2
      refine wp_range_in_t (l₀ := l) (r₀ := rr) hri (gf := 25) (lb := #[.pointer (some ⟨gc, 0, none⟩)]) (N := cnt T) (E := given off T) rfl (enter_fn Try.func25 (by kernel_rfl) rfl) (all_iter gc off T (by omega)) keeps_below (fun _ _ => rfl)
        (fun j t => (t.setIfInBounds 54 (.int .i64 (wrap64 (off + (pl T j : Nat))))).setIfInBounds 55 (.string (ln T j)))
        (Cnt Wi bi) (fun _ _ _ => False) (fun j => Cnt.lasts HNI.out.lt) (fun _ _ _ _ _ _ h _ _ _ => h) (fun j V V' h hb => h.below hb) (fun _ _ _ _ h _ => h)
        (fun j V h => h.at HCI.out HGI.out) (fun V hb => Cnt.start HNI.out hb) ?assign2 ?body2 ?done2 ?stop2
      case assign2 =>
        intro l2 j V K hj hK
        unfold given
        gi_wp2
        exact hK
      case body2 =>
        rintro l2 j V hl2 hj _ hI2
        have HI2 := hide hI2
        have y1 := HI2.out.1.cell
        have y2 := HI2.out.1.frozen
        clear hI2
        have hji : (j : Int) ≤ 1099511627776 := by omega
        gi_wp2
        have e : ((j : Int) + 1) = ((j + 1 : Nat) : Int) := by omega
        rw [e]
        exact ⟨keeps_grown (grownBy_setCell' _ _ _) HI2.out.1, HI2.out.1.set _, grown_trans HI2.out.2 (grownBy_setCell' _ _ _)⟩
      case done2 =>
        intro V hV
        have HV2 := hide hV
        clear hV
        have HIV : Hid (Cnt n0 c0 0 V) := ⟨HV2.out.at HII.out.1 HCLI.out, by
          refine ⟨HV2.out.2.os.trans HII.out.2.os, HV2.out.2.tape.trans HII.out.2.tape, HV2.out.2.output.trans HII.out.2.output, Nat.le_trans HII.out.2.size HV2.out.2.size, fun i hi hne => ?_⟩
          exact (HV2.out.2.block i (Nat.lt_of_lt_of_le hi HII.out.2.size) (fun e => HLI.out i (Nat.lt_of_lt_of_le hi HIQ.out.2.size) (Option.some.inj e))).trans (HII.out.2.block i hi hne)⟩
        have HWV : Hid (W.grownBy V (some c0)) := by
          have h1 := below_trans HBQ.out HBI.out
          exact ⟨HV2.out.2.os.trans h1.os, HV2.out.2.tape.trans h1.tape, HV2.out.2.output.trans h1.output, Nat.le_trans h1.size HV2.out.2.size, fun i hi hne => (HV2.out.2.block i (Nat.lt_of_lt_of_le hi h1.size) (fun e => HLI.out i (Nat.lt_of_lt_of_le hi HBQ.out.size) (Option.some.inj e))).trans (h1.block i hi)⟩
        have z1 := HV2.out.1.cell
        have z2 := (HBWV.out V HIV.out.2).cell
        clear kq
        have v1b := HIV.out.1.cell
        have v2b := HIV.out.1.frozen
        have v3b : V.cell? ⟨b70, 0, none⟩ = some (.int .i64 0) := Boxed.cell (HIV.out.at HXN0.out HXC0.out)
        have v4b : V.cell? ⟨bt, 0, none⟩ = some (.int .i64 stop) := Boxed.cell (HIV.out.at (HAT0.out bt _ HT7.out).1 (HAT0.out bt _ HT7.out).2)
        have v5b : b70 ≠ c0 := HXC0.out
        have v6b : bt ≠ c0 := (HAT0.out bt _ HT7.out).2
        have HEBb : Hid (Cnt n0 c0 (0 + 1) (V.setCell ⟨c0, 0, none⟩ (.int .i64 (((0 : Nat) : Int) + 1)))) := by
          have e : (((0 : Nat) : Int) + 1) = ((0 + 1 : Nat) : Int) := by omega
          rw [e]
          exact ⟨HIV.out.1.set _, grown_trans HIV.out.2 (grownBy_setCell' _ _ _)⟩
        have HKFb : Hid (KeepsFrom n0.heap.size W (V.setCell ⟨c0, 0, none⟩ (.int .i64 (((0 : Nat) : Int) + 1)))) := keeps_grown (grown_trans HWV.out (grownBy_setCell' _ _ _)) HIW.out.1
        by_cases hstb : ((0 : Nat) : Int) + 1 = stop
        · have hsbb : ((1 : Int) == stop) = true := by simpa using hstb
          have HSTb := hide hstb
          clear hstb
          gi_wp2
          all_goals first | exact ⟨HKFb.out, (by first | rfl | trivial), HSTb.out, HEBb.out⟩ | exact absurd HSTb.out (by assumption) | exact absurd (show (1 : Int) = stop from HSTb.out) (by assumption)
        · have hsbb : ((1 : Int) == stop) = false := by simpa using hstb
          gi_wp2
          exact ⟨HKFb.out, HEBb.out⟩

      case stop2 =>
        intro c j V _ h
        exact h.elim
    · have hk0i : ¬ (k : Int) = 0 := by omega
      have hk0d : decide ((k : Int) = 0) = false := by simpa using hk0i
      clear kn2
      have HWQ : Hid (W.grownBy Wq (some c0)) := grown_below' HBQ.out c0
      have v1a := HIQ.out.1.cell
      have v2a := HIQ.out.1.frozen
      have v3a : Wq.cell? ⟨b70, 0, none⟩ = some (.int .i64 0) := Boxed.cell (HIQ.out.at HXN0.out HXC0.out)
      have v4a : Wq.cell? ⟨bt, 0, none⟩ = some (.int .i64 stop) := Boxed.cell (HIQ.out.at (HAT0.out bt _ HT7.out).1 (HAT0.out bt _ HT7.out).2)
      have v5a : b70 ≠ c0 := HXC0.out
      have v6a : bt ≠ c0 := (HAT0.out bt _ HT7.out).2
      have HEBa : Hid (Cnt n0 c0 (k + 1) (Wq.setCell ⟨c0, 0, none⟩ (.int .i64 ((k : Int) + 1)))) := by
        have e : ((k : Int) + 1) = ((k + 1 : Nat) : Int) := by omega
        rw [e]
        exact ⟨HIQ.out.1.set _, grown_trans HIQ.out.2 (grownBy_setCell' _ _ _)⟩
      have HKFa : Hid (KeepsFrom n0.heap.size W (Wq.setCell ⟨c0, 0, none⟩ (.int .i64 ((k : Int) + 1)))) := keeps_grown (grown_trans HWQ.out (grownBy_setCell' _ _ _)) HIW.out.1
      by_cases hsta : (k : Int) + 1 = stop
      · have hsba : ((k : Int) + 1 == stop) = true := by simpa using hsta
        have HSTa := hide hsta
        clear hsta
        gi_wp2
        all_goals first | exact ⟨HKFa.out, (by first | rfl | trivial), HSTa.out, HEBa.out⟩ | exact absurd HSTa.out (by assumption) | exact absurd (show (1 : Int) = stop from HSTa.out) (by assumption)
      · have hsba : ((k : Int) + 1 == stop) = false := by simpa using hsta
        gi_wp2
        exact ⟨HKFa.out, HEBa.out⟩
  case done0 =>
    intro D V hD hI hM
    have HV0 := hide hI
    have HD0 := hide hM
    have HB7V0 : Hid (Below w7.heap.size w7 V) := HB7N0.out.grown HV0.out.2 HB7N0.out.size (fun i e => by cases e; exact HCG0.out)
    have HMV0 : Hid (Marks w7.heap.size V ({ target := .collected D, args := #[] } :: [])) := (HMK0.out.below HBN0.out).more HB7N0.out.size hD hM ((HMK0.out.below HBN0.out).kept (fun E hE h => (HV0.out.2.block E (Array.getElem?_eq_some_iff.1 h).1 (fun e => by have e2 : E = c0 := Option.some.inj e; rw [e2, show n0.heap[c0]? = _ from HN0.out] at h; cases h)).trans h))
    have y10 := HV0.out.1.cell
    have y20 := (Boxed.cell (HV0.out.at (HAT0.out bw _ HW7.out).1 (HAT0.out bw _ HW7.out).2) : V.cell? ⟨bw, 0, none⟩ = some _)
    have y30 : V.cell? ⟨b70, 0, none⟩ = some (.int .i64 0) := Boxed.cell (HV0.out.at HXN0.out HXC0.out)
    have y40 : V.cell? ⟨bt, 0, none⟩ = some (.int .i64 stop) := Boxed.cell (HV0.out.at (HAT0.out bt _ HT7.out).1 (HAT0.out bt _ HT7.out).2)
    clear hI hM
    go_wp2_with fail
    obtain ⟨W1, hW1⟩ : ∃ W', V.alloc (.cells #[.int .i64 1] 3) = W' := ⟨_, rfl⟩
    obtain ⟨b71, hb71⟩ : ∃ b, V.heap.size = b := ⟨_, rfl⟩
    have HBV1 : Hid (Below V.heap.size V W1) := by rw [← hW1]; exact (Below.refl _ _).alloc (Nat.le_refl _) _
    have HX1 : Hid (Boxed W1 b71 3 (.int .i64 1)) := by rw [← hW1, ← hb71]; exact World.alloc_heap_new _ _
    have HBW1 : Hid (Below w7.heap.size w7 W1) := below_trans HB7V0.out HBV1.out
    have HMK1 : Hid (Marks w7.heap.size W1 ({ target := .collected D, args := #[] } :: [])) := (HMV0.out).below HBV1.out
    rw [hW1, hb71]
    clear hW1 hb71
    obtain ⟨D0, hD0⟩ : ∃ D0, D = D0 := ⟨_, rfl⟩
    rw [hD0] at HMK1 ⊢
    clear hD0
    rw [rounds_succ]
    have x1 := HX1.out.cell
    go_upto_region 9 with fail
    clear x1
    obtain ⟨n1, hn1⟩ : ∃ n, W1.alloc (.cells #[.int .i64 0] 3) = n := ⟨_, rfl⟩
    obtain ⟨c1, hc1⟩ : ∃ b, W1.heap.size = b := ⟨_, rfl⟩
    have HBN1 : Hid (Below W1.heap.size W1 n1) := by rw [← hn1]; exact (Below.refl _ _).alloc (Nat.le_refl _) _
    have HN1 : Hid (Boxed n1 c1 3 (.int .i64 0)) := by rw [← hn1, ← hc1]; exact World.alloc_heap_new _ _
    have HB7N1 := hide (below_trans HBW1.out HBN1.out)
    have HCG1 : Hid (w7.heap.size ≤ c1) := by have := HBW1.out.size; rw [hc1] at this; exact this
    have HAT1 : Hid (∀ i o, w7.heap[i]? = some o → n1.heap[i]? = some o ∧ i ≠ c1) := fun i o h => ⟨(HB7N1.out.block i (Array.getElem?_eq_some_iff.1 h).1).trans h, fun e => by have := (Array.getElem?_eq_some_iff.1 h).1; have := HCG1.out; omega⟩
    have HXN1 : Hid (Boxed n1 b71 3 (.int .i64 1)) := (HBN1.out.block _ HX1.out.lt).trans HX1.out
    have HXC1 : Hid (b71 ≠ c1) := fun e => by have := HX1.out.lt; have := hc1; omega
    have q1 := (Boxed.cell (HAT1.out bq _ HQ7.out).1 : n1.cell? ⟨bq, 0, none⟩ = some _)
    rw [hn1, hc1]
    clear hn1 hc1
    go_wp2_with fail
    clear q1
    refine wp_range_t (gf := 25) (lb := #[.pointer (some ⟨gc, 0, none⟩)]) (N := cnt T) (E := given off T) rfl (enter_fn Try.func25 (by kernel_rfl) rfl) (all_iter gc off T (by omega)) keeps_below (fun _ _ => rfl)
      (fun k t => (((t.setIfInBounds 24 (.int .i64 (wrap64 (off + (pl T k : Nat))))).setIfInBounds 25 (.string (ln T k))).setIfInBounds 9 (.int .i64 (wrap64 (off + (pl T k : Nat))))).setIfInBounds 10 (.string (ln T k)))
      (Cnt n1 c1) (fun c k W => c = .exit 2 ∧ 1 = 0 ∧ ((k + 1 : Nat) : Int) = stop ∧ Cnt n1 c1 (k + 1) W)
      (fun k => Cnt.lasts HN1.out.lt) (fun c k W j o o' h hj hjo ho => ⟨h.1, h.2.1, h.2.2.1, Cnt.lasts HN1.out.lt W j o o' h.2.2.2 hj hjo ho⟩)
      (fun k W W' h hb => h.below hb) (fun c k W W' h hb => ⟨h.1, h.2.1, h.2.2.1, h.2.2.2.below hb⟩)
      (fun k W h => h.at (HAT1.out gc _ HC7.out).1 (HAT1.out gc _ HC7.out).2) (fun W hb => Cnt.start HN1.out hb) ?assign1 ?body1 ?done1 ?stop1
    case assign1 =>
      intro l k W K hk hK
      unfold given
      gi_wp2
      exact hK
    case body1 =>
      rintro l k W hl hk ⟨rr, hr⟩ hI
      have HIW := hide hI
      have hkn := HIW.out.1.cell
      have HBWV : Hid (∀ V, n1.grownBy V (some c1) → Boxed V bw 24 (.slice wa (cnt T) wc)) := fun V hV => (hV.block bw (Array.getElem?_eq_some_iff.1 (HAT1.out bw _ HW7.out).1).1 (fun e => (HAT1.out bw _ HW7.out).2 (Option.some.inj e))).trans (HAT1.out bw _ HW7.out).1
      have kw := (HBWV.out W HIW.out.2).cell
      have ks := (cell2 (HIW.out.at (HAT1.out bs _ HS7.out).1 (HAT1.out bs _ HS7.out).2)).1
      obtain ⟨gw, gwc, egw, _, _, hgw⟩ := HO7.out.has (by omega)
      simp only [Value.slice.injEq] at egw
      obtain ⟨rfl, _, rfl⟩ := egw
      have HCL : Hid (∀ j u, (lf3 T k)[j]? = some u → j < 3 → W.cell? ⟨gw, k * 3 + j, none⟩ = some u) := fun j u hu hj => by
        have h1 := HO7.out.cellAt (fun _ => rfl) k j u hk hj hu
        have h2 := (HB7N1.out.cell (p := ⟨gw, k * 3 + j, none⟩) hgw).trans h1
        exact HIW.out.2.cell h2 (fun e => by have e2 : gw = c1 := Option.some.inj e; have := HCG1.out; omega)
      have kc0 := HCL.out 0 _ rfl (by omega)
      have kc1 := HCL.out 1 _ rfl (by omega)
      rw [Nat.add_zero] at kc0
      have hkC : ¬ (cnt T : Int) ≤ (k : Int) := by omega
      have hkCd : decide ((cnt T : Int) ≤ (k : Int)) = false := by simpa using hkC
      have hkCn : decide (cnt T ≤ k) = false := by simp; omega
      have hki : (k : Int) < (cnt T : Int) := by omega
      obtain ⟨p, hp⟩ : ∃ p, pl T k = p := ⟨_, rfl⟩
      obtain ⟨L, hL⟩ : ∃ L, ln T k = L := ⟨_, rfl⟩
      rw [hp] at kc0 ⊢
      rw [hL] at kc1 ⊢
      obtain ⟨X, hX⟩ : ∃ X, wrap64 (off + (p : Int)) = X := ⟨_, rfl⟩
      rw [hX]
      have hXw : IntKind.i64.wrap (off + (p : Int)) = X := by rw [IntKind.wrap_i64, ← hX]; unfold wrap64; omega
      clear hp hL hX HCL hI
      gi_wp2
      refine region_quiet (by kernel_rfl) (by kernel_rfl) (by kernel_rfl) ?_
      repeat (gi_big_quiet_step (fail))
      refine wpQuietIn_nil ?_
      rintro _ ⟨nq, rfl⟩
      obtain ⟨Wq, hWq⟩ : ∃ Wq, W.drewN nq = Wq := ⟨_, rfl⟩
      rw [hWq]
      have HBQ : Hid (Below W.heap.size W Wq) := by rw [← hWq]; exact below_drewN' _ _ _
      have HIQ := hide (HIW.out.below HBQ.out)
      have hrq := (HBQ.out.block l (Array.getElem?_eq_some_iff.1 hr).1).trans hr
      clear hWq hkn kw ks kc0 kc1
      have kn2 := HIQ.out.1.cell
      by_cases hk0 : k = 0
      · subst hk0
        gi_upto_region 16 with fail
        obtain ⟨Wi, hWi⟩ : ∃ Wi, Wq.alloc (.cells #[.int .i64 0] 3) = Wi := ⟨_, rfl⟩
        obtain ⟨bi, hbi⟩ : ∃ b, Wq.heap.size = b := ⟨_, rfl⟩
        have HBI : Hid (Below Wq.heap.size Wq Wi) := by rw [← hWi]; exact (Below.refl _ _).alloc (Nat.le_refl _) _
        have HNI : Hid (Boxed Wi bi 3 (.int .i64 0)) := by rw [← hWi, ← hbi]; exact World.alloc_heap_new _ _
        have HLI : Hid (∀ i, i < Wq.heap.size → i ≠ bi) := fun i hi e => by omega
        rw [hWi, hbi]
        clear hWi hbi kn2
        have HII := hide (HIQ.out.below HBI.out)
        have kq := (Boxed.cell (HII.out.at (HAT1.out bq _ HQ7.out).1 (HAT1.out bq _ HQ7.out).2) : Wi.cell? ⟨bq, 0, none⟩ = some _)
        have hri := (HBI.out.block l (Array.getElem?_eq_some_iff.1 hrq).1).trans hrq
        have HCI := hide (HII.out.at (HAT1.out gc _ HC7.out).1 (HAT1.out gc _ HC7.out).2)
        have HGI : Hid (gc ≠ bi) := HLI.out gc (Array.getElem?_eq_some_iff.1 (HIQ.out.at (HAT1.out gc _ HC7.out).1 (HAT1.out gc _ HC7.out).2)).1
        have HCLI : Hid (c1 ≠ bi) := HLI.out c1 HIQ.out.1.lt
        gi_wp2
        refine wp_range_in_t (l₀ := l) (r₀ := rr) hri (gf := 25) (lb := #[.pointer (some ⟨gc, 0, none⟩)]) (N := cnt T) (E := given off T) rfl (enter_fn Try.func25 (by kernel_rfl) rfl) (all_iter gc off T (by omega)) keeps_below (fun _ _ => rfl)
          (fun j t => (t.setIfInBounds 54 (.int .i64 (wrap64 (off + (pl T j : Nat))))).setIfInBounds 55 (.string (ln T j)))
          (Cnt Wi bi) (fun _ _ _ => False) (fun j => Cnt.lasts HNI.out.lt) (fun _ _ _ _ _ _ h _ _ _ => h) (fun j V V' h hb => h.below hb) (fun _ _ _ _ h _ => h)
          (fun j V h => h.at HCI.out HGI.out) (fun V hb => Cnt.start HNI.out hb) ?assign2 ?body2 ?done2 ?stop2
        case assign2 =>
          intro l2 j V K hj hK
          unfold given
          gi_wp2
          exact hK
        case body2 =>
          rintro l2 j V hl2 hj _ hI2
          have HI2 := hide hI2
          have y1 := HI2.out.1.cell
          have y2 := HI2.out.1.frozen
          clear hI2
          have hji : (j : Int) ≤ 1099511627776 := by omega
          gi_wp2
          have e : ((j : Int) + 1) = ((j + 1 : Nat) : Int) := by omega
          rw [e]
          exact ⟨keeps_grown (grownBy_setCell' _ _ _) HI2.out.1, HI2.out.1.set _, grown_trans HI2.out.2 (grownBy_setCell' _ _ _)⟩
        case done2 =>
          intro V hV
          have HV2 := hide hV
          clear hV
          have HIV : Hid (Cnt n1 c1 0 V) := ⟨HV2.out.at HII.out.1 HCLI.out, by
            refine ⟨HV2.out.2.os.trans HII.out.2.os, HV2.out.2.tape.trans HII.out.2.tape, HV2.out.2.output.trans HII.out.2.output, Nat.le_trans HII.out.2.size HV2.out.2.size, fun i hi hne => ?_⟩
            exact (HV2.out.2.block i (Nat.lt_of_lt_of_le hi HII.out.2.size) (fun e => HLI.out i (Nat.lt_of_lt_of_le hi HIQ.out.2.size) (Option.some.inj e))).trans (HII.out.2.block i hi hne)⟩
          have HWV : Hid (W.grownBy V (some c1)) := by
            have h1 := below_trans HBQ.out HBI.out
            exact ⟨HV2.out.2.os.trans h1.os, HV2.out.2.tape.trans h1.tape, HV2.out.2.output.trans h1.output, Nat.le_trans h1.size HV2.out.2.size, fun i hi hne => (HV2.out.2.block i (Nat.lt_of_lt_of_le hi h1.size) (fun e => HLI.out i (Nat.lt_of_lt_of_le hi HBQ.out.size) (Option.some.inj e))).trans (h1.block i hi)⟩
          have z1 := HV2.out.1.cell
          have z2 := (HBWV.out V HIV.out.2).cell
          clear kq
          have v1b := HIV.out.1.cell
          have v2b := HIV.out.1.frozen
          have v3b : V.cell? ⟨b71, 0, none⟩ = some (.int .i64 1) := Boxed.cell (HIV.out.at HXN1.out HXC1.out)
          have v4b : V.cell? ⟨bt, 0, none⟩ = some (.int .i64 stop) := Boxed.cell (HIV.out.at (HAT1.out bt _ HT7.out).1 (HAT1.out bt _ HT7.out).2)
          have v5b : b71 ≠ c1 := HXC1.out
          have v6b : bt ≠ c1 := (HAT1.out bt _ HT7.out).2
          have HEBb : Hid (Cnt n1 c1 (0 + 1) (V.setCell ⟨c1, 0, none⟩ (.int .i64 (((0 : Nat) : Int) + 1)))) := by
            have e : (((0 : Nat) : Int) + 1) = ((0 + 1 : Nat) : Int) := by omega
            rw [e]
            exact ⟨HIV.out.1.set _, grown_trans HIV.out.2 (grownBy_setCell' _ _ _)⟩
          have HKFb : Hid (KeepsFrom n1.heap.size W (V.setCell ⟨c1, 0, none⟩ (.int .i64 (((0 : Nat) : Int) + 1)))) := keeps_grown (grown_trans HWV.out (grownBy_setCell' _ _ _)) HIW.out.1
          gi_wp2
          exact ⟨HKFb.out, HEBb.out⟩

        case stop2 =>
          intro c j V _ h
          exact h.elim
      · have hk0i : ¬ (k : Int) = 0 := by omega
        have hk0d : decide ((k : Int) = 0) = false := by simpa using hk0i
        clear kn2
        have HWQ : Hid (W.grownBy Wq (some c1)) := grown_below' HBQ.out c1
        have v1a := HIQ.out.1.cell
        have v2a := HIQ.out.1.frozen
        have v3a : Wq.cell? ⟨b71, 0, none⟩ = some (.int .i64 1) := Boxed.cell (HIQ.out.at HXN1.out HXC1.out)
        have v4a : Wq.cell? ⟨bt, 0, none⟩ = some (.int .i64 stop) := Boxed.cell (HIQ.out.at (HAT1.out bt _ HT7.out).1 (HAT1.out bt _ HT7.out).2)
        have v5a : b71 ≠ c1 := HXC1.out
        have v6a : bt ≠ c1 := (HAT1.out bt _ HT7.out).2
        have HEBa : Hid (Cnt n1 c1 (k + 1) (Wq.setCell ⟨c1, 0, none⟩ (.int .i64 ((k : Int) + 1)))) := by
          have e : ((k : Int) + 1) = ((k + 1 : Nat) : Int) := by omega
          rw [e]
          exact ⟨HIQ.out.1.set _, grown_trans HIQ.out.2 (grownBy_setCell' _ _ _)⟩
        have HKFa : Hid (KeepsFrom n1.heap.size W (Wq.setCell ⟨c1, 0, none⟩ (.int .i64 ((k : Int) + 1)))) := keeps_grown (grown_trans HWQ.out (grownBy_setCell' _ _ _)) HIW.out.1
        gi_wp2
        exact ⟨HKFa.out, HEBa.out⟩
    case done1 =>
      intro D V hD hI hM
      have HV1 := hide hI
      have HD1 := hide hM
      have HB7V1 : Hid (Below w7.heap.size w7 V) := HB7N1.out.grown HV1.out.2 HB7N1.out.size (fun i e => by cases e; exact HCG1.out)
      have HMV1 : Hid (Marks w7.heap.size V ({ target := .collected D, args := #[] } :: [{ target := .collected D0, args := #[] }])) := (HMK1.out.below HBN1.out).more HB7N1.out.size hD hM ((HMK1.out.below HBN1.out).kept (fun E hE h => (HV1.out.2.block E (Array.getElem?_eq_some_iff.1 h).1 (fun e => by have e2 : E = c1 := Option.some.inj e; rw [e2, show n1.heap[c1]? = _ from HN1.out] at h; cases h)).trans h))
      have y11 := HV1.out.1.cell
      have y21 := (Boxed.cell (HV1.out.at (HAT1.out bw _ HW7.out).1 (HAT1.out bw _ HW7.out).2) : V.cell? ⟨bw, 0, none⟩ = some _)
      have y31 : V.cell? ⟨b71, 0, none⟩ = some (.int .i64 1) := Boxed.cell (HV1.out.at HXN1.out HXC1.out)
      have y41 : V.cell? ⟨bt, 0, none⟩ = some (.int .i64 stop) := Boxed.cell (HV1.out.at (HAT1.out bt _ HT7.out).1 (HAT1.out bt _ HT7.out).2)
      clear hI hM
      go_wp2_with fail
      obtain ⟨W2, hW2⟩ : ∃ W', V.alloc (.cells #[.int .i64 2] 3) = W' := ⟨_, rfl⟩
      obtain ⟨b72, hb72⟩ : ∃ b, V.heap.size = b := ⟨_, rfl⟩
      have HBV2 : Hid (Below V.heap.size V W2) := by rw [← hW2]; exact (Below.refl _ _).alloc (Nat.le_refl _) _
      have HX2 : Hid (Boxed W2 b72 3 (.int .i64 2)) := by rw [← hW2, ← hb72]; exact World.alloc_heap_new _ _
      have HBW2 : Hid (Below w7.heap.size w7 W2) := below_trans HB7V1.out HBV2.out
      have HMK2 : Hid (Marks w7.heap.size W2 ({ target := .collected D, args := #[] } :: [{ target := .collected D0, args := #[] }])) := (HMV1.out).below HBV2.out
      rw [hW2, hb72]
      clear hW2 hb72
      rw [rounds_succ]
      have x2 := HX2.out.cell
      have r1 := (boxed_below HR7.out HBW2.out).cell
      have r2 := (boxed_below HR7.out HBW2.out).frozen
      have HRR := hide ((boxed_below HR7.out HBW2.out).set (.bool true))
      have HGR := hide (grownBy_setCell' W2 br (.bool true))
      have HRL : Hid (br < w7.heap.size) := HR7.out.lt
      go_wp2_with fail
      refine leaves_marks (B := w7.heap.size) (v := .bool true) (gc := br) HRL.out (load_bool (p := 4) rfl br true rfl) _ _ ?_ ?_ HRR.out.cell ?_
      · exact Nat.le_trans HBW2.out.size HGR.out.size
      · refine HMK2.out.kept (fun E hE h => (HGR.out.block E (Array.getElem?_eq_some_iff.1 h).1 (fun e => by have e2 : E = br := Option.some.inj e; have := HRL.out; omega)).trans h)
      · intro V' hV'
        refine ⟨rfl, ?_⟩
        have h1 : Below w.heap.size w W2 := below_trans HB07.out HBW2.out
        have h2 : Below w.heap.size w (W2.setCell ⟨br, 0, none⟩ (.bool true)) := h1.grown HGR.out h1.size (fun i e => by cases e; have := HBRG.out; omega)
        exact h2.trans (hV'.mono HB07.out.size)
    case stop1 =>
      rintro D c k V hD hk ⟨_, h0, _⟩ hM
      exact absurd h0 (by omega)
  case stop0 =>
    rintro D c k V hD hk ⟨rfl, h0, hst, hI⟩ hM
    have HV0 := hide hI
    have HD0 := hide hM
    have HB7V0 : Hid (Below w7.heap.size w7 V) := HB7N0.out.grown HV0.out.2 HB7N0.out.size (fun i e => by cases e; exact HCG0.out)
    have HMV0 : Hid (Marks w7.heap.size V ({ target := .collected D, args := #[] } :: [])) := (HMK0.out.below HBN0.out).more HB7N0.out.size hD hM ((HMK0.out.below HBN0.out).kept (fun E hE h => (HV0.out.2.block E (Array.getElem?_eq_some_iff.1 h).1 (fun e => by have e2 : E = c0 := Option.some.inj e; rw [e2, show n0.heap[c0]? = _ from HN0.out] at h; cases h)).trans h))
    have y10 := HV0.out.1.cell
    have y20 := (Boxed.cell (HV0.out.at (HAT0.out bw _ HW7.out).1 (HAT0.out bw _ HW7.out).2) : V.cell? ⟨bw, 0, none⟩ = some _)
    have y30 : V.cell? ⟨b70, 0, none⟩ = some (.int .i64 0) := Boxed.cell (HV0.out.at HXN0.out HXC0.out)
    have y40 : V.cell? ⟨bt, 0, none⟩ = some (.int .i64 stop) := Boxed.cell (HV0.out.at (HAT0.out bt _ HT7.out).1 (HAT0.out bt _ HT7.out).2)
    clear hI hM
    rw [hst] at y10
    clear hst h0
    by_cases hkC : stop = (cnt T : Int)
    · have hb1 : (stop == (cnt T : Int)) = true := by simpa using hkC
      have hb2 : (stop != (cnt T : Int)) = false := by simpa using hkC
      clear hkC
      go_wp2_with fail
      obtain ⟨W1, hW1⟩ : ∃ W', V.alloc (.cells #[.int .i64 1] 3) = W' := ⟨_, rfl⟩
      obtain ⟨b71, hb71⟩ : ∃ b, V.heap.size = b := ⟨_, rfl⟩
      have HBV1 : Hid (Below V.heap.size V W1) := by rw [← hW1]; exact (Below.refl _ _).alloc (Nat.le_refl _) _
      have HX1 : Hid (Boxed W1 b71 3 (.int .i64 1)) := by rw [← hW1, ← hb71]; exact World.alloc_heap_new _ _
      have HBW1 : Hid (Below w7.heap.size w7 W1) := below_trans HB7V0.out HBV1.out
      have HMK1 : Hid (Marks w7.heap.size W1 ({ target := .collected D, args := #[] } :: [])) := (HMV0.out).below HBV1.out
      rw [hW1, hb71]
      clear hW1 hb71
      obtain ⟨D0, hD0⟩ : ∃ D0, D = D0 := ⟨_, rfl⟩
      rw [hD0] at HMK1 ⊢
      clear hD0
      rw [rounds_succ]
      have x1 := HX1.out.cell
      go_upto_region 9 with fail
      clear x1
      obtain ⟨n1, hn1⟩ : ∃ n, W1.alloc (.cells #[.int .i64 0] 3) = n := ⟨_, rfl⟩
      obtain ⟨c1, hc1⟩ : ∃ b, W1.heap.size = b := ⟨_, rfl⟩
      have HBN1 : Hid (Below W1.heap.size W1 n1) := by rw [← hn1]; exact (Below.refl _ _).alloc (Nat.le_refl _) _
      have HN1 : Hid (Boxed n1 c1 3 (.int .i64 0)) := by rw [← hn1, ← hc1]; exact World.alloc_heap_new _ _
      have HB7N1 := hide (below_trans HBW1.out HBN1.out)
      have HCG1 : Hid (w7.heap.size ≤ c1) := by have := HBW1.out.size; rw [hc1] at this; exact this
      have HAT1 : Hid (∀ i o, w7.heap[i]? = some o → n1.heap[i]? = some o ∧ i ≠ c1) := fun i o h => ⟨(HB7N1.out.block i (Array.getElem?_eq_some_iff.1 h).1).trans h, fun e => by have := (Array.getElem?_eq_some_iff.1 h).1; have := HCG1.out; omega⟩
      have HXN1 : Hid (Boxed n1 b71 3 (.int .i64 1)) := (HBN1.out.block _ HX1.out.lt).trans HX1.out
      have HXC1 : Hid (b71 ≠ c1) := fun e => by have := HX1.out.lt; have := hc1; omega
      have q1 := (Boxed.cell (HAT1.out bq _ HQ7.out).1 : n1.cell? ⟨bq, 0, none⟩ = some _)
      rw [hn1, hc1]
      clear hn1 hc1
      go_wp2_with fail
      clear q1
      refine wp_range_t (gf := 25) (lb := #[.pointer (some ⟨gc, 0, none⟩)]) (N := cnt T) (E := given off T) rfl (enter_fn Try.func25 (by kernel_rfl) rfl) (all_iter gc off T (by omega)) keeps_below (fun _ _ => rfl)
        (fun k t => (((t.setIfInBounds 24 (.int .i64 (wrap64 (off + (pl T k : Nat))))).setIfInBounds 25 (.string (ln T k))).setIfInBounds 9 (.int .i64 (wrap64 (off + (pl T k : Nat))))).setIfInBounds 10 (.string (ln T k)))
        (Cnt n1 c1) (fun c k W => c = .exit 2 ∧ 1 = 0 ∧ ((k + 1 : Nat) : Int) = stop ∧ Cnt n1 c1 (k + 1) W)
        (fun k => Cnt.lasts HN1.out.lt) (fun c k W j o o' h hj hjo ho => ⟨h.1, h.2.1, h.2.2.1, Cnt.lasts HN1.out.lt W j o o' h.2.2.2 hj hjo ho⟩)
        (fun k W W' h hb => h.below hb) (fun c k W W' h hb => ⟨h.1, h.2.1, h.2.2.1, h.2.2.2.below hb⟩)
        (fun k W h => h.at (HAT1.out gc _ HC7.out).1 (HAT1.out gc _ HC7.out).2) (fun W hb => Cnt.start HN1.out hb) ?assign1 ?body1 ?done1 ?stop1
      case assign1 =>
        intro l k W K hk hK
        unfold given
        gi_wp2
        exact hK
      case body1 =>
        rintro l k W hl hk ⟨rr, hr⟩ hI
        have HIW := hide hI
        have hkn := HIW.out.1.cell
        have HBWV : Hid (∀ V, n1.grownBy V (some c1) → Boxed V bw 24 (.slice wa (cnt T) wc)) := fun V hV => (hV.block bw (Array.getElem?_eq_some_iff.1 (HAT1.out bw _ HW7.out).1).1 (fun e => (HAT1.out bw _ HW7.out).2 (Option.some.inj e))).trans (HAT1.out bw _ HW7.out).1
        have kw := (HBWV.out W HIW.out.2).cell
        have ks := (cell2 (HIW.out.at (HAT1.out bs _ HS7.out).1 (HAT1.out bs _ HS7.out).2)).1
        obtain ⟨gw, gwc, egw, _, _, hgw⟩ := HO7.out.has (by omega)
        simp only [Value.slice.injEq] at egw
        obtain ⟨rfl, _, rfl⟩ := egw
        have HCL : Hid (∀ j u, (lf3 T k)[j]? = some u → j < 3 → W.cell? ⟨gw, k * 3 + j, none⟩ = some u) := fun j u hu hj => by
          have h1 := HO7.out.cellAt (fun _ => rfl) k j u hk hj hu
          have h2 := (HB7N1.out.cell (p := ⟨gw, k * 3 + j, none⟩) hgw).trans h1
          exact HIW.out.2.cell h2 (fun e => by have e2 : gw = c1 := Option.some.inj e; have := HCG1.out; omega)
        have kc0 := HCL.out 0 _ rfl (by omega)
        have kc1 := HCL.out 1 _ rfl (by omega)
        rw [Nat.add_zero] at kc0
        have hkC : ¬ (cnt T : Int) ≤ (k : Int) := by omega
        have hkCd : decide ((cnt T : Int) ≤ (k : Int)) = false := by simpa using hkC
        have hkCn : decide (cnt T ≤ k) = false := by simp; omega
        have hki : (k : Int) < (cnt T : Int) := by omega
        obtain ⟨p, hp⟩ : ∃ p, pl T k = p := ⟨_, rfl⟩
        obtain ⟨L, hL⟩ : ∃ L, ln T k = L := ⟨_, rfl⟩
        rw [hp] at kc0 ⊢
        rw [hL] at kc1 ⊢
        obtain ⟨X, hX⟩ : ∃ X, wrap64 (off + (p : Int)) = X := ⟨_, rfl⟩
        rw [hX]
        have hXw : IntKind.i64.wrap (off + (p : Int)) = X := by rw [IntKind.wrap_i64, ← hX]; unfold wrap64; omega
        clear hp hL hX HCL hI
        gi_wp2
        refine region_quiet (by kernel_rfl) (by kernel_rfl) (by kernel_rfl) ?_
        repeat (gi_big_quiet_step (fail))
        refine wpQuietIn_nil ?_
        rintro _ ⟨nq, rfl⟩
        obtain ⟨Wq, hWq⟩ : ∃ Wq, W.drewN nq = Wq := ⟨_, rfl⟩
        rw [hWq]
        have HBQ : Hid (Below W.heap.size W Wq) := by rw [← hWq]; exact below_drewN' _ _ _
        have HIQ := hide (HIW.out.below HBQ.out)
        have hrq := (HBQ.out.block l (Array.getElem?_eq_some_iff.1 hr).1).trans hr
        clear hWq hkn kw ks kc0 kc1
        have kn2 := HIQ.out.1.cell
        by_cases hk0 : k = 0
        · subst hk0
          gi_upto_region 16 with fail
          obtain ⟨Wi, hWi⟩ : ∃ Wi, Wq.alloc (.cells #[.int .i64 0] 3) = Wi := ⟨_, rfl⟩
          obtain ⟨bi, hbi⟩ : ∃ b, Wq.heap.size = b := ⟨_, rfl⟩
          have HBI : Hid (Below Wq.heap.size Wq Wi) := by rw [← hWi]; exact (Below.refl _ _).alloc (Nat.le_refl _) _
          have HNI : Hid (Boxed Wi bi 3 (.int .i64 0)) := by rw [← hWi, ← hbi]; exact World.alloc_heap_new _ _
          have HLI : Hid (∀ i, i < Wq.heap.size → i ≠ bi) := fun i hi e => by omega
          rw [hWi, hbi]
          clear hWi hbi kn2
          have HII := hide (HIQ.out.below HBI.out)
          have kq := (Boxed.cell (HII.out.at (HAT1.out bq _ HQ7.out).1 (HAT1.out bq _ HQ7.out).2) : Wi.cell? ⟨bq, 0, none⟩ = some _)
          have hri := (HBI.out.block l (Array.getElem?_eq_some_iff.1 hrq).1).trans hrq
          have HCI := hide (HII.out.at (HAT1.out gc _ HC7.out).1 (HAT1.out gc _ HC7.out).2)
          have HGI : Hid (gc ≠ bi) := HLI.out gc (Array.getElem?_eq_some_iff.1 (HIQ.out.at (HAT1.out gc _ HC7.out).1 (HAT1.out gc _ HC7.out).2)).1
          have HCLI : Hid (c1 ≠ bi) := HLI.out c1 HIQ.out.1.lt
          gi_wp2
          refine wp_range_in_t (l₀ := l) (r₀ := rr) hri (gf := 25) (lb := #[.pointer (some ⟨gc, 0, none⟩)]) (N := cnt T) (E := given off T) rfl (enter_fn Try.func25 (by kernel_rfl) rfl) (all_iter gc off T (by omega)) keeps_below (fun _ _ => rfl)
            (fun j t => (t.setIfInBounds 54 (.int .i64 (wrap64 (off + (pl T j : Nat))))).setIfInBounds 55 (.string (ln T j)))
            (Cnt Wi bi) (fun _ _ _ => False) (fun j => Cnt.lasts HNI.out.lt) (fun _ _ _ _ _ _ h _ _ _ => h) (fun j V V' h hb => h.below hb) (fun _ _ _ _ h _ => h)
            (fun j V h => h.at HCI.out HGI.out) (fun V hb => Cnt.start HNI.out hb) ?assign2 ?body2 ?done2 ?stop2
          case assign2 =>
            intro l2 j V K hj hK
            unfold given
            gi_wp2
            exact hK
          case body2 =>
            rintro l2 j V hl2 hj _ hI2
            have HI2 := hide hI2
            have y1 := HI2.out.1.cell
            have y2 := HI2.out.1.frozen
            clear hI2
            have hji : (j : Int) ≤ 1099511627776 := by omega
            gi_wp2
            have e : ((j : Int) + 1) = ((j + 1 : Nat) : Int) := by omega
            rw [e]
            exact ⟨keeps_grown (grownBy_setCell' _ _ _) HI2.out.1, HI2.out.1.set _, grown_trans HI2.out.2 (grownBy_setCell' _ _ _)⟩
          case done2 =>
            intro V hV
            have HV2 := hide hV
            clear hV
            have HIV : Hid (Cnt n1 c1 0 V) := ⟨HV2.out.at HII.out.1 HCLI.out, by
              refine ⟨HV2.out.2.os.trans HII.out.2.os, HV2.out.2.tape.trans HII.out.2.tape, HV2.out.2.output.trans HII.out.2.output, Nat.le_trans HII.out.2.size HV2.out.2.size, fun i hi hne => ?_⟩
              exact (HV2.out.2.block i (Nat.lt_of_lt_of_le hi HII.out.2.size) (fun e => HLI.out i (Nat.lt_of_lt_of_le hi HIQ.out.2.size) (Option.some.inj e))).trans (HII.out.2.block i hi hne)⟩
            have HWV : Hid (W.grownBy V (some c1)) := by
              have h1 := below_trans HBQ.out HBI.out
              exact ⟨HV2.out.2.os.trans h1.os, HV2.out.2.tape.trans h1.tape, HV2.out.2.output.trans h1.output, Nat.le_trans h1.size HV2.out.2.size, fun i hi hne => (HV2.out.2.block i (Nat.lt_of_lt_of_le hi h1.size) (fun e => HLI.out i (Nat.lt_of_lt_of_le hi HBQ.out.size) (Option.some.inj e))).trans (h1.block i hi)⟩
            have z1 := HV2.out.1.cell
            have z2 := (HBWV.out V HIV.out.2).cell
            clear kq
            have v1b := HIV.out.1.cell
            have v2b := HIV.out.1.frozen
            have v3b : V.cell? ⟨b71, 0, none⟩ = some (.int .i64 1) := Boxed.cell (HIV.out.at HXN1.out HXC1.out)
            have v4b : V.cell? ⟨bt, 0, none⟩ = some (.int .i64 stop) := Boxed.cell (HIV.out.at (HAT1.out bt _ HT7.out).1 (HAT1.out bt _ HT7.out).2)
            have v5b : b71 ≠ c1 := HXC1.out
            have v6b : bt ≠ c1 := (HAT1.out bt _ HT7.out).2
            have HEBb : Hid (Cnt n1 c1 (0 + 1) (V.setCell ⟨c1, 0, none⟩ (.int .i64 (((0 : Nat) : Int) + 1)))) := by
              have e : (((0 : Nat) : Int) + 1) = ((0 + 1 : Nat) : Int) := by omega
              rw [e]
              exact ⟨HIV.out.1.set _, grown_trans HIV.out.2 (grownBy_setCell' _ _ _)⟩
            have HKFb : Hid (KeepsFrom n1.heap.size W (V.setCell ⟨c1, 0, none⟩ (.int .i64 (((0 : Nat) : Int) + 1)))) := keeps_grown (grown_trans HWV.out (grownBy_setCell' _ _ _)) HIW.out.1
            gi_wp2
            exact ⟨HKFb.out, HEBb.out⟩

          case stop2 =>
            intro c j V _ h
            exact h.elim
        · have hk0i : ¬ (k : Int) = 0 := by omega
          have hk0d : decide ((k : Int) = 0) = false := by simpa using hk0i
          clear kn2
          have HWQ : Hid (W.grownBy Wq (some c1)) := grown_below' HBQ.out c1
          have v1a := HIQ.out.1.cell
          have v2a := HIQ.out.1.frozen
          have v3a : Wq.cell? ⟨b71, 0, none⟩ = some (.int .i64 1) := Boxed.cell (HIQ.out.at HXN1.out HXC1.out)
          have v4a : Wq.cell? ⟨bt, 0, none⟩ = some (.int .i64 stop) := Boxed.cell (HIQ.out.at (HAT1.out bt _ HT7.out).1 (HAT1.out bt _ HT7.out).2)
          have v5a : b71 ≠ c1 := HXC1.out
          have v6a : bt ≠ c1 := (HAT1.out bt _ HT7.out).2
          have HEBa : Hid (Cnt n1 c1 (k + 1) (Wq.setCell ⟨c1, 0, none⟩ (.int .i64 ((k : Int) + 1)))) := by
            have e : ((k : Int) + 1) = ((k + 1 : Nat) : Int) := by omega
            rw [e]
            exact ⟨HIQ.out.1.set _, grown_trans HIQ.out.2 (grownBy_setCell' _ _ _)⟩
          have HKFa : Hid (KeepsFrom n1.heap.size W (Wq.setCell ⟨c1, 0, none⟩ (.int .i64 ((k : Int) + 1)))) := keeps_grown (grown_trans HWQ.out (grownBy_setCell' _ _ _)) HIW.out.1
          gi_wp2
          exact ⟨HKFa.out, HEBa.out⟩
      case done1 =>
        intro D V hD hI hM
        have HV1 := hide hI
        have HD1 := hide hM
        have HB7V1 : Hid (Below w7.heap.size w7 V) := HB7N1.out.grown HV1.out.2 HB7N1.out.size (fun i e => by cases e; exact HCG1.out)
        have HMV1 : Hid (Marks w7.heap.size V ({ target := .collected D, args := #[] } :: [{ target := .collected D0, args := #[] }])) := (HMK1.out.below HBN1.out).more HB7N1.out.size hD hM ((HMK1.out.below HBN1.out).kept (fun E hE h => (HV1.out.2.block E (Array.getElem?_eq_some_iff.1 h).1 (fun e => by have e2 : E = c1 := Option.some.inj e; rw [e2, show n1.heap[c1]? = _ from HN1.out] at h; cases h)).trans h))
        have y11 := HV1.out.1.cell
        have y21 := (Boxed.cell (HV1.out.at (HAT1.out bw _ HW7.out).1 (HAT1.out bw _ HW7.out).2) : V.cell? ⟨bw, 0, none⟩ = some _)
        have y31 : V.cell? ⟨b71, 0, none⟩ = some (.int .i64 1) := Boxed.cell (HV1.out.at HXN1.out HXC1.out)
        have y41 : V.cell? ⟨bt, 0, none⟩ = some (.int .i64 stop) := Boxed.cell (HV1.out.at (HAT1.out bt _ HT7.out).1 (HAT1.out bt _ HT7.out).2)
        clear hI hM
        go_wp2_with fail
        obtain ⟨W2, hW2⟩ : ∃ W', V.alloc (.cells #[.int .i64 2] 3) = W' := ⟨_, rfl⟩
        obtain ⟨b72, hb72⟩ : ∃ b, V.heap.size = b := ⟨_, rfl⟩
        have HBV2 : Hid (Below V.heap.size V W2) := by rw [← hW2]; exact (Below.refl _ _).alloc (Nat.le_refl _) _
        have HX2 : Hid (Boxed W2 b72 3 (.int .i64 2)) := by rw [← hW2, ← hb72]; exact World.alloc_heap_new _ _
        have HBW2 : Hid (Below w7.heap.size w7 W2) := below_trans HB7V1.out HBV2.out
        have HMK2 : Hid (Marks w7.heap.size W2 ({ target := .collected D, args := #[] } :: [{ target := .collected D0, args := #[] }])) := (HMV1.out).below HBV2.out
        rw [hW2, hb72]
        clear hW2 hb72
        rw [rounds_succ]
        have x2 := HX2.out.cell
        have r1 := (boxed_below HR7.out HBW2.out).cell
        have r2 := (boxed_below HR7.out HBW2.out).frozen
        have HRR := hide ((boxed_below HR7.out HBW2.out).set (.bool true))
        have HGR := hide (grownBy_setCell' W2 br (.bool true))
        have HRL : Hid (br < w7.heap.size) := HR7.out.lt
        go_wp2_with fail
        refine leaves_marks (B := w7.heap.size) (v := .bool true) (gc := br) HRL.out (load_bool (p := 4) rfl br true rfl) _ _ ?_ ?_ HRR.out.cell ?_
        · exact Nat.le_trans HBW2.out.size HGR.out.size
        · refine HMK2.out.kept (fun E hE h => (HGR.out.block E (Array.getElem?_eq_some_iff.1 h).1 (fun e => by have e2 : E = br := Option.some.inj e; have := HRL.out; omega)).trans h)
        · intro V' hV'
          refine ⟨rfl, ?_⟩
          have h1 : Below w.heap.size w W2 := below_trans HB07.out HBW2.out
          have h2 : Below w.heap.size w (W2.setCell ⟨br, 0, none⟩ (.bool true)) := h1.grown HGR.out h1.size (fun i e => by cases e; have := HBRG.out; omega)
          exact h2.trans (hV'.mono HB07.out.size)
      case stop1 =>
        rintro D c k V hD hk ⟨_, h0, _⟩ hM
        exact absurd h0 (by omega)
    · have hb1 : (stop == (cnt T : Int)) = false := by simpa using hkC
      have hb2 : (stop != (cnt T : Int)) = true := by simpa using hkC
      clear hkC
      go_wp2_with fail
      obtain ⟨W1, hW1⟩ : ∃ W', V.alloc (.cells #[.int .i64 1] 3) = W' := ⟨_, rfl⟩
      obtain ⟨b71, hb71⟩ : ∃ b, V.heap.size = b := ⟨_, rfl⟩
      have HBV1 : Hid (Below V.heap.size V W1) := by rw [← hW1]; exact (Below.refl _ _).alloc (Nat.le_refl _) _
      have HX1 : Hid (Boxed W1 b71 3 (.int .i64 1)) := by rw [← hW1, ← hb71]; exact World.alloc_heap_new _ _
      have HBW1 : Hid (Below w7.heap.size w7 W1) := below_trans HB7V0.out HBV1.out
      have HMK1 : Hid (Marks w7.heap.size W1 ({ target := .collected D, args := #[] } :: [])) := (HMV0.out).below HBV1.out
      rw [hW1, hb71]
      clear hW1 hb71
      obtain ⟨D0, hD0⟩ : ∃ D0, D = D0 := ⟨_, rfl⟩
      rw [hD0] at HMK1 ⊢
      clear hD0
      rw [rounds_succ]
      have x1 := HX1.out.cell
      go_upto_region 9 with fail
      clear x1
      obtain ⟨n1, hn1⟩ : ∃ n, W1.alloc (.cells #[.int .i64 0] 3) = n := ⟨_, rfl⟩
      obtain ⟨c1, hc1⟩ : ∃ b, W1.heap.size = b := ⟨_, rfl⟩
      have HBN1 : Hid (Below W1.heap.size W1 n1) := by rw [← hn1]; exact (Below.refl _ _).alloc (Nat.le_refl _) _
      have HN1 : Hid (Boxed n1 c1 3 (.int .i64 0)) := by rw [← hn1, ← hc1]; exact World.alloc_heap_new _ _
      have HB7N1 := hide (below_trans HBW1.out HBN1.out)
      have HCG1 : Hid (w7.heap.size ≤ c1) := by have := HBW1.out.size; rw [hc1] at this; exact this
      have HAT1 : Hid (∀ i o, w7.heap[i]? = some o → n1.heap[i]? = some o ∧ i ≠ c1) := fun i o h => ⟨(HB7N1.out.block i (Array.getElem?_eq_some_iff.1 h).1).trans h, fun e => by have := (Array.getElem?_eq_some_iff.1 h).1; have := HCG1.out; omega⟩
      have HXN1 : Hid (Boxed n1 b71 3 (.int .i64 1)) := (HBN1.out.block _ HX1.out.lt).trans HX1.out
      have HXC1 : Hid (b71 ≠ c1) := fun e => by have := HX1.out.lt; have := hc1; omega
      have q1 := (Boxed.cell (HAT1.out bq _ HQ7.out).1 : n1.cell? ⟨bq, 0, none⟩ = some _)
      rw [hn1, hc1]
      clear hn1 hc1
      go_wp2_with fail
      clear q1
      refine wp_range_t (gf := 25) (lb := #[.pointer (some ⟨gc, 0, none⟩)]) (N := cnt T) (E := given off T) rfl (enter_fn Try.func25 (by kernel_rfl) rfl) (all_iter gc off T (by omega)) keeps_below (fun _ _ => rfl)
        (fun k t => (((t.setIfInBounds 24 (.int .i64 (wrap64 (off + (pl T k : Nat))))).setIfInBounds 25 (.string (ln T k))).setIfInBounds 9 (.int .i64 (wrap64 (off + (pl T k : Nat))))).setIfInBounds 10 (.string (ln T k)))
        (Cnt n1 c1) (fun c k W => c = .exit 2 ∧ 1 = 0 ∧ ((k + 1 : Nat) : Int) = stop ∧ Cnt n1 c1 (k + 1) W)
        (fun k => Cnt.lasts HN1.out.lt) (fun c k W j o o' h hj hjo ho => ⟨h.1, h.2.1, h.2.2.1, Cnt.lasts HN1.out.lt W j o o' h.2.2.2 hj hjo ho⟩)
        (fun k W W' h hb => h.below hb) (fun c k W W' h hb => ⟨h.1, h.2.1, h.2.2.1, h.2.2.2.below hb⟩)
        (fun k W h => h.at (HAT1.out gc _ HC7.out).1 (HAT1.out gc _ HC7.out).2) (fun W hb => Cnt.start HN1.out hb) ?assign1 ?body1 ?done1 ?stop1
      case assign1 =>
        intro l k W K hk hK
        unfold given
        gi_wp2
        exact hK
      case body1 =>
        rintro l k W hl hk ⟨rr, hr⟩ hI
        have HIW := hide hI
        have hkn := HIW.out.1.cell
        have HBWV : Hid (∀ V, n1.grownBy V (some c1) → Boxed V bw 24 (.slice wa (cnt T) wc)) := fun V hV => (hV.block bw (Array.getElem?_eq_some_iff.1 (HAT1.out bw _ HW7.out).1).1 (fun e => (HAT1.out bw _ HW7.out).2 (Option.some.inj e))).trans (HAT1.out bw _ HW7.out).1
        have kw := (HBWV.out W HIW.out.2).cell
        have ks := (cell2 (HIW.out.at (HAT1.out bs _ HS7.out).1 (HAT1.out bs _ HS7.out).2)).1
        obtain ⟨gw, gwc, egw, _, _, hgw⟩ := HO7.out.has (by omega)
        simp only [Value.slice.injEq] at egw
        obtain ⟨rfl, _, rfl⟩ := egw
        have HCL : Hid (∀ j u, (lf3 T k)[j]? = some u → j < 3 → W.cell? ⟨gw, k * 3 + j, none⟩ = some u) := fun j u hu hj => by
          have h1 := HO7.out.cellAt (fun _ => rfl) k j u hk hj hu
          have h2 := (HB7N1.out.cell (p := ⟨gw, k * 3 + j, none⟩) hgw).trans h1
          exact HIW.out.2.cell h2 (fun e => by have e2 : gw = c1 := Option.some.inj e; have := HCG1.out; omega)
        have kc0 := HCL.out 0 _ rfl (by omega)
        have kc1 := HCL.out 1 _ rfl (by omega)
        rw [Nat.add_zero] at kc0
        have hkC : ¬ (cnt T : Int) ≤ (k : Int) := by omega
        have hkCd : decide ((cnt T : Int) ≤ (k : Int)) = false := by simpa using hkC
        have hkCn : decide (cnt T ≤ k) = false := by simp; omega
        have hki : (k : Int) < (cnt T : Int) := by omega
        obtain ⟨p, hp⟩ : ∃ p, pl T k = p := ⟨_, rfl⟩
        obtain ⟨L, hL⟩ : ∃ L, ln T k = L := ⟨_, rfl⟩
        rw [hp] at kc0 ⊢
        rw [hL] at kc1 ⊢
        obtain ⟨X, hX⟩ : ∃ X, wrap64 (off + (p : Int)) = X := ⟨_, rfl⟩
        rw [hX]
        have hXw : IntKind.i64.wrap (off + (p : Int)) = X := by rw [IntKind.wrap_i64, ← hX]; unfold wrap64; omega
        clear hp hL hX HCL hI
        gi_wp2
        refine region_quiet (by kernel_rfl) (by kernel_rfl) (by kernel_rfl) ?_
        repeat (gi_big_quiet_step (fail))
        refine wpQuietIn_nil ?_
        rintro _ ⟨nq, rfl⟩
        obtain ⟨Wq, hWq⟩ : ∃ Wq, W.drewN nq = Wq := ⟨_, rfl⟩
        rw [hWq]
        have HBQ : Hid (Below W.heap.size W Wq) := by rw [← hWq]; exact below_drewN' _ _ _
        have HIQ := hide (HIW.out.below HBQ.out)
        have hrq := (HBQ.out.block l (Array.getElem?_eq_some_iff.1 hr).1).trans hr
        clear hWq hkn kw ks kc0 kc1
        have kn2 := HIQ.out.1.cell
        by_cases hk0 : k = 0
        · subst hk0
          gi_upto_region 16 with fail
          obtain ⟨Wi, hWi⟩ : ∃ Wi, Wq.alloc (.cells #[.int .i64 0] 3) = Wi := ⟨_, rfl⟩
          obtain ⟨bi, hbi⟩ : ∃ b, Wq.heap.size = b := ⟨_, rfl⟩
          have HBI : Hid (Below Wq.heap.size Wq Wi) := by rw [← hWi]; exact (Below.refl _ _).alloc (Nat.le_refl _) _
          have HNI : Hid (Boxed Wi bi 3 (.int .i64 0)) := by rw [← hWi, ← hbi]; exact World.alloc_heap_new _ _
          have HLI : Hid (∀ i, i < Wq.heap.size → i ≠ bi) := fun i hi e => by omega
          rw [hWi, hbi]
          clear hWi hbi kn2
          have HII := hide (HIQ.out.below HBI.out)
          have kq := (Boxed.cell (HII.out.at (HAT1.out bq _ HQ7.out).1 (HAT1.out bq _ HQ7.out).2) : Wi.cell? ⟨bq, 0, none⟩ = some _)
          have hri := (HBI.out.block l (Array.getElem?_eq_some_iff.1 hrq).1).trans hrq
          have HCI := hide (HII.out.at (HAT1.out gc _ HC7.out).1 (HAT1.out gc _ HC7.out).2)
          have HGI : Hid (gc ≠ bi) := HLI.out gc (Array.getElem?_eq_some_iff.1 (HIQ.out.at (HAT1.out gc _ HC7.out).1 (HAT1.out gc _ HC7.out).2)).1
          have HCLI : Hid (c1 ≠ bi) := HLI.out c1 HIQ.out.1.lt
          gi_wp2
          refine wp_range_in_t (l₀ := l) (r₀ := rr) hri (gf := 25) (lb := #[.pointer (some ⟨gc, 0, none⟩)]) (N := cnt T) (E := given off T) rfl (enter_fn Try.func25 (by kernel_rfl) rfl) (all_iter gc off T (by omega)) keeps_below (fun _ _ => rfl)
            (fun j t => (t.setIfInBounds 54 (.int .i64 (wrap64 (off + (pl T j : Nat))))).setIfInBounds 55 (.string (ln T j)))
            (Cnt Wi bi) (fun _ _ _ => False) (fun j => Cnt.lasts HNI.out.lt) (fun _ _ _ _ _ _ h _ _ _ => h) (fun j V V' h hb => h.below hb) (fun _ _ _ _ h _ => h)
            (fun j V h => h.at HCI.out HGI.out) (fun V hb => Cnt.start HNI.out hb) ?assign2 ?body2 ?done2 ?stop2
          case assign2 =>
            intro l2 j V K hj hK
            unfold given
            gi_wp2
            exact hK
          case body2 =>
            rintro l2 j V hl2 hj _ hI2
            have HI2 := hide hI2
            have y1 := HI2.out.1.cell
            have y2 := HI2.out.1.frozen
            clear hI2
            have hji : (j : Int) ≤ 1099511627776 := by omega
            gi_wp2
            have e : ((j : Int) + 1) = ((j + 1 : Nat) : Int) := by omega
            rw [e]
            exact ⟨keeps_grown (grownBy_setCell' _ _ _) HI2.out.1, HI2.out.1.set _, grown_trans HI2.out.2 (grownBy_setCell' _ _ _)⟩
          case done2 =>
            intro V hV
            have HV2 := hide hV
            clear hV
            have HIV : Hid (Cnt n1 c1 0 V) := ⟨HV2.out.at HII.out.1 HCLI.out, by
              refine ⟨HV2.out.2.os.trans HII.out.2.os, HV2.out.2.tape.trans HII.out.2.tape, HV2.out.2.output.trans HII.out.2.output, Nat.le_trans HII.out.2.size HV2.out.2.size, fun i hi hne => ?_⟩
              exact (HV2.out.2.block i (Nat.lt_of_lt_of_le hi HII.out.2.size) (fun e => HLI.out i (Nat.lt_of_lt_of_le hi HIQ.out.2.size) (Option.some.inj e))).trans (HII.out.2.block i hi hne)⟩
            have HWV : Hid (W.grownBy V (some c1)) := by
              have h1 := below_trans HBQ.out HBI.out
              exact ⟨HV2.out.2.os.trans h1.os, HV2.out.2.tape.trans h1.tape, HV2.out.2.output.trans h1.output, Nat.le_trans h1.size HV2.out.2.size, fun i hi hne => (HV2.out.2.block i (Nat.lt_of_lt_of_le hi h1.size) (fun e => HLI.out i (Nat.lt_of_lt_of_le hi HBQ.out.size) (Option.some.inj e))).trans (h1.block i hi)⟩
            have z1 := HV2.out.1.cell
            have z2 := (HBWV.out V HIV.out.2).cell
            clear kq
            have v1b := HIV.out.1.cell
            have v2b := HIV.out.1.frozen
            have v3b : V.cell? ⟨b71, 0, none⟩ = some (.int .i64 1) := Boxed.cell (HIV.out.at HXN1.out HXC1.out)
            have v4b : V.cell? ⟨bt, 0, none⟩ = some (.int .i64 stop) := Boxed.cell (HIV.out.at (HAT1.out bt _ HT7.out).1 (HAT1.out bt _ HT7.out).2)
            have v5b : b71 ≠ c1 := HXC1.out
            have v6b : bt ≠ c1 := (HAT1.out bt _ HT7.out).2
            have HEBb : Hid (Cnt n1 c1 (0 + 1) (V.setCell ⟨c1, 0, none⟩ (.int .i64 (((0 : Nat) : Int) + 1)))) := by
              have e : (((0 : Nat) : Int) + 1) = ((0 + 1 : Nat) : Int) := by omega
              rw [e]
              exact ⟨HIV.out.1.set _, grown_trans HIV.out.2 (grownBy_setCell' _ _ _)⟩
            have HKFb : Hid (KeepsFrom n1.heap.size W (V.setCell ⟨c1, 0, none⟩ (.int .i64 (((0 : Nat) : Int) + 1)))) := keeps_grown (grown_trans HWV.out (grownBy_setCell' _ _ _)) HIW.out.1
            gi_wp2
            exact ⟨HKFb.out, HEBb.out⟩

          case stop2 =>
            intro c j V _ h
            exact h.elim
        · have hk0i : ¬ (k : Int) = 0 := by omega
          have hk0d : decide ((k : Int) = 0) = false := by simpa using hk0i
          clear kn2
          have HWQ : Hid (W.grownBy Wq (some c1)) := grown_below' HBQ.out c1
          have v1a := HIQ.out.1.cell
          have v2a := HIQ.out.1.frozen
          have v3a : Wq.cell? ⟨b71, 0, none⟩ = some (.int .i64 1) := Boxed.cell (HIQ.out.at HXN1.out HXC1.out)
          have v4a : Wq.cell? ⟨bt, 0, none⟩ = some (.int .i64 stop) := Boxed.cell (HIQ.out.at (HAT1.out bt _ HT7.out).1 (HAT1.out bt _ HT7.out).2)
          have v5a : b71 ≠ c1 := HXC1.out
          have v6a : bt ≠ c1 := (HAT1.out bt _ HT7.out).2
          have HEBa : Hid (Cnt n1 c1 (k + 1) (Wq.setCell ⟨c1, 0, none⟩ (.int .i64 ((k : Int) + 1)))) := by
            have e : ((k : Int) + 1) = ((k + 1 : Nat) : Int) := by omega
            rw [e]
            exact ⟨HIQ.out.1.set _, grown_trans HIQ.out.2 (grownBy_setCell' _ _ _)⟩
          have HKFa : Hid (KeepsFrom n1.heap.size W (Wq.setCell ⟨c1, 0, none⟩ (.int .i64 ((k : Int) + 1)))) := keeps_grown (grown_trans HWQ.out (grownBy_setCell' _ _ _)) HIW.out.1
          gi_wp2
          exact ⟨HKFa.out, HEBa.out⟩
      case done1 =>
        intro D V hD hI hM
        have HV1 := hide hI
        have HD1 := hide hM
        have HB7V1 : Hid (Below w7.heap.size w7 V) := HB7N1.out.grown HV1.out.2 HB7N1.out.size (fun i e => by cases e; exact HCG1.out)
        have HMV1 : Hid (Marks w7.heap.size V ({ target := .collected D, args := #[] } :: [{ target := .collected D0, args := #[] }])) := (HMK1.out.below HBN1.out).more HB7N1.out.size hD hM ((HMK1.out.below HBN1.out).kept (fun E hE h => (HV1.out.2.block E (Array.getElem?_eq_some_iff.1 h).1 (fun e => by have e2 : E = c1 := Option.some.inj e; rw [e2, show n1.heap[c1]? = _ from HN1.out] at h; cases h)).trans h))
        have y11 := HV1.out.1.cell
        have y21 := (Boxed.cell (HV1.out.at (HAT1.out bw _ HW7.out).1 (HAT1.out bw _ HW7.out).2) : V.cell? ⟨bw, 0, none⟩ = some _)
        have y31 : V.cell? ⟨b71, 0, none⟩ = some (.int .i64 1) := Boxed.cell (HV1.out.at HXN1.out HXC1.out)
        have y41 : V.cell? ⟨bt, 0, none⟩ = some (.int .i64 stop) := Boxed.cell (HV1.out.at (HAT1.out bt _ HT7.out).1 (HAT1.out bt _ HT7.out).2)
        clear hI hM
        go_wp2_with fail
        obtain ⟨W2, hW2⟩ : ∃ W', V.alloc (.cells #[.int .i64 2] 3) = W' := ⟨_, rfl⟩
        obtain ⟨b72, hb72⟩ : ∃ b, V.heap.size = b := ⟨_, rfl⟩
        have HBV2 : Hid (Below V.heap.size V W2) := by rw [← hW2]; exact (Below.refl _ _).alloc (Nat.le_refl _) _
        have HX2 : Hid (Boxed W2 b72 3 (.int .i64 2)) := by rw [← hW2, ← hb72]; exact World.alloc_heap_new _ _
        have HBW2 : Hid (Below w7.heap.size w7 W2) := below_trans HB7V1.out HBV2.out
        have HMK2 : Hid (Marks w7.heap.size W2 ({ target := .collected D, args := #[] } :: [{ target := .collected D0, args := #[] }])) := (HMV1.out).below HBV2.out
        rw [hW2, hb72]
        clear hW2 hb72
        rw [rounds_succ]
        have x2 := HX2.out.cell
        have r1 := (boxed_below HR7.out HBW2.out).cell
        have r2 := (boxed_below HR7.out HBW2.out).frozen
        have HRR := hide ((boxed_below HR7.out HBW2.out).set (.bool true))
        have HGR := hide (grownBy_setCell' W2 br (.bool true))
        have HRL : Hid (br < w7.heap.size) := HR7.out.lt
        go_wp2_with fail
        refine leaves_marks (B := w7.heap.size) (v := .bool true) (gc := br) HRL.out (load_bool (p := 4) rfl br true rfl) _ _ ?_ ?_ HRR.out.cell ?_
        · exact Nat.le_trans HBW2.out.size HGR.out.size
        · refine HMK2.out.kept (fun E hE h => (HGR.out.block E (Array.getElem?_eq_some_iff.1 h).1 (fun e => by have e2 : E = br := Option.some.inj e; have := HRL.out; omega)).trans h)
        · intro V' hV'
          refine ⟨rfl, ?_⟩
          have h1 : Below w.heap.size w W2 := below_trans HB07.out HBW2.out
          have h2 : Below w.heap.size w (W2.setCell ⟨br, 0, none⟩ (.bool true)) := h1.grown HGR.out h1.size (fun i e => by cases e; have := HBRG.out; omega)
          exact h2.trans (hV'.mono HB07.out.size)
      case stop1 =>
        rintro D c k V hD hk ⟨_, h0, _⟩ hM
        exact absurd h0 (by omega)
theorem allWalk2 (off : Int) (T : ByteArray) (stop : Int) (w : World) (hs : T.size ≤ 1099511627776) (wn : (Lit.int .i64 stop).wf = true) :
    Calls Try.prog 3 #[.agg #[.int .i64 off, .string T], .int .i64 stop] w fun e w' => e = .returned (.bool true) ∧ Below w.heap.size w w' := allWalk off T stop w hs
end Go.Proofs.Ytmhebaknoginhaa.Ln
