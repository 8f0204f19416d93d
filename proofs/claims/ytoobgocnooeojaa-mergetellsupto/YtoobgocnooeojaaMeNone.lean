/-
  MergeNone: nil merges, nil sources, a nil compare.
-/
import Derived.Test.YtoobgocnooeojaaMeHead
import Derived.Test.YtoobgocnooeojaaMeRange
import Derived.Test.YtoobgocnooeojaaMeTidy
import Derived.Laws.EntriesVeiled
namespace Go.Proofs.Ytoobgocnooeojaa.Me
open Go.ChangeShapes Go.WideShapes Go.ChangeAt Go.RowKit
open Go.Proofs.Ytoobgocnooeojaa.Base
set_option linter.unusedVariables false
set_option linter.unusedSimpArgs false
theorem nilnil_in (d : Nat) (t : TypeId) (W : World) {a b : Array TypeId} {c : Bool} (ht : Try.prog.underlying t = some (.func a b c)) : (Op.equalIn (d + 1) t .nilFunc .nilFunc).run Try.prog W = .ok true W := by
  simp [Op.equalIn, run_underlying ht]
theorem nilnil (t : TypeId) (W : World) {a b : Array TypeId} {c : Bool} (ht : Try.prog.underlying t = some (.func a b c)) : (binOp .eql t .nilFunc .nilFunc).run Try.prog W = .ok (.bool true) W := by
  have h : (Op.equal t .nilFunc .nilFunc).run Try.prog W = .ok true W := nilnil_in 9999 t W ht
  simp only [binOp]
  simp [h]
theorem snext_nil (w : World) : Calls Try.prog 20 #[.pointer none] w fun e w' => e = .returned (.tuple #[.string ⟨#[]⟩, .bool false, .int .i64 1]) ∧ w' = w := by
  go_enter Try.func20, Try.ntmps20
  go_wp2_with fail
  go_ret3
  exact ⟨rfl, rfl⟩
theorem serr_nil (w : World) : Calls Try.prog 25 #[.pointer none] w fun e w' => e = .returned (.int .i64 1) ∧ w' = w := by
  go_enter Try.func25, Try.ntmps25
  go_wp2_with fail
  go_ret
  exact ⟨rfl, rfl⟩
theorem new_nocmp (v : Value) (w : World) : Calls Try.prog 22 #[.nilFunc, v] w fun e w' => e = .returned (.tuple #[.pointer none, .int .i64 1]) ∧ w' = w := by
  have hcn : ∀ W, (binOp .eql 64 .nilFunc .nilFunc).run Try.prog W = .ok (.bool true) W := fun W => by
    obtain ⟨a, b, c, h⟩ := ucmp
    exact nilnil _ W h
  go_enter Try.func22, Try.ntmps22
  go_wp2_with fail
  go_ret2
  exact ⟨rfl, rfl⟩
set_option maxHeartbeats 4000000 in
set_option maxRecDepth 100000 in
theorem new_nilsrc (b gf c : Nat) (w : World) (h0 : w.cell? ⟨b, 0, none⟩ = some (feedV gf)) (h1 : w.cell? ⟨b, 1, none⟩ = some .nilFunc) : Calls Try.prog 22 #[fcmp, .slice (some ⟨b, 0, none⟩) 2 c] w fun e w' => e = .returned (.tuple #[.pointer none, .int .i64 1]) ∧ w' = w := by
  have hcn : ∀ W, (binOp .eql 64 (.func (.func 23) #[] #[]) .nilFunc).run Try.prog W = .ok (.bool false) W := cmp_nil
  have han : ∀ W, (binOp .eql 38 (.func (.func 24) #[.pointer (some ⟨gf, 0, none⟩)] #[]) .nilFunc).run Try.prog W = .ok (.bool false) W := fun W => ask_nil gf W
  have hnn : ∀ W, (binOp .eql 38 .nilFunc .nilFunc).run Try.prog W = .ok (.bool true) W := fun W => by
    obtain ⟨a, b, c, h⟩ := uask
    exact nilnil _ W h
  unfold feedV at h0
  unfold fcmp
  go_enter Try.func22, Try.ntmps22
  go_wp2_with fail
  go_loopw [15] (fun s wr => (.int .i64 0 = s ∨ .int .i64 1 = s) ∧ w = wr) (fun s _ => 2 - (intOf s).toNat)
  case atStart => exact ⟨.inl rfl, rfl⟩
  case round =>
    obtain ⟨rfl | rfl, rfl⟩ := hrel
    · go_wp2_with fail
      go_roundw
      case rel => exact ⟨.inr rfl, by first | rfl | trivial⟩
      case measure => simp [intOf]
    · go_wp2_with fail
      go_ret2
      exact ⟨rfl, rfl⟩
theorem sall_nil (w : World) : Calls Try.prog 21 #[.pointer none] w fun e w' => e = .returned (.func (.func 32) #[] #[.pointer (some ⟨w.heap.size, 0, none⟩)]) ∧ w' = w.alloc (.cells #[.pointer none] 57) := by
  go_enter Try.func21, Try.ntmps21
  go_wp2_with fail
  go_ret
  exact ⟨rfl, rfl⟩
theorem siter_nil (y : Value) (g : Nat) (w : World) (hc : w.cell? ⟨g, 0, none⟩ = some (.pointer none)) : Calls Try.prog 32 #[y, .pointer (some ⟨g, 0, none⟩)] w fun e w' => (∃ v, e = .returned v) ∧ Below w.heap.size w w' := by
  have HN := hide snext_nil
  go_enter Try.func32, Try.ntmps32
  go_wp2_with fail
  go_loopw [3] (fun s wr => w = wr) (fun _ _ => 0)
  case atStart => exact rfl
  case round =>
    obtain rfl := hrel
    go_wp2_with (go_at_call 20; refine (HN.out _).mono ?_; rintro e w1 ⟨rfl, rfl⟩)
    refine bodyPost_ret (results_none rfl _ _ _) rfl ?_
    exact ⟨⟨_, rfl⟩, Below.refl _ _⟩
theorem load_bool {p : Tmp} {tmps : Array Value} {fn : Func} (h : fn.results = #[.cell p 4]) (gc : Nat) (v : Bool) (hp : tmps.getD p undef = .pointer (some ⟨gc, 0, none⟩)) (V : World) (hV : V.cell? ⟨gc, 0, none⟩ = some (.bool v)) : (results fn tmps).run Try.prog V = .ok (.bool v) V := by
  have hp' : tmps[p]?.getD undef = .pointer (some ⟨gc, 0, none⟩) := by simpa using hp
  simp [results, h, hp', asAddr, loadVar, go_sem, hV]
set_option maxHeartbeats 4000000 in
set_option maxRecDepth 100000 in
theorem nwalk (w : World) : Calls Try.prog 7 #[] w fun e w' => e = .returned (.bool true) ∧ Below w.heap.size w w' := by
  have HN := hide snext_nil
  have HE := hide serr_nil
  have HA := hide sall_nil
  have hfn : ∀ W x, (binOp .eql 61 (.func (.func 32) #[] x) .nilFunc).run Try.prog W = .ok (.bool false) W := fun W x => fnil _ _ _ _ W (a := #[84]) (b := #[]) (c := false) (by kernel_rfl)
  have hzf : ∀ W, (zeroValue 53).run Try.prog W = .ok (.agg #[.slice none 0 0, .int .i64 0, .int .i64 0, .int .i64 0, .bool false, .bool false]) W := fun W => by kernel_rfl
  have HNC := hide new_nocmp
  have HNS := hide new_nilsrc
  obtain ⟨gr, hgr⟩ : ∃ g, w.heap.size = g := ⟨_, rfl⟩
  obtain ⟨w1, hw1⟩ : ∃ w1, w.alloc (.cells #[.bool false] 4) = w1 := ⟨_, rfl⟩
  obtain ⟨ga, hga⟩ : ∃ g, w1.heap.size = g := ⟨_, rfl⟩
  obtain ⟨w2, hw2⟩ : ∃ w2, w1.alloc (.cells #[.pointer none] 57) = w2 := ⟨_, rfl⟩
  have HB1 : Hid (Below w.heap.size w w1) := by rw [← hw1]; exact (Below.refl _ _).alloc (Nat.le_refl _) _
  have HB2 : Hid (Below w1.heap.size w1 w2) := by rw [← hw2]; exact (Below.refl _ _).alloc (Nat.le_refl _) _
  have HR1 : Hid (w1.heap[gr]? = some (.cells #[.bool false] 4)) := by rw [← hw1, ← hgr]; exact heap_alloc_new _ _
  have HA2 : Hid (w2.heap[ga]? = some (.cells #[.pointer none] 57)) := by rw [← hw2, ← hga]; exact heap_alloc_new _ _
  have HR2 := hide ((HB2.out.block gr (lt_row HR1.out)).trans HR1.out)
  have HGR := hide hgr
  refine calls_marks Try.func7 rfl ?_
  simp only [Try.ntmps7, List.size_toArray, List.length_cons, List.length_nil, Nat.reduceAdd, Nat.reduceSub, Array.replicate_succ, Array.replicate_zero, List.push_toArray, List.append_toArray, List.nil_append, List.cons_append]
  go_wp2_with (first
    | (go_at_call 20; refine (HN.out _).mono ?_; rintro e w9 ⟨rfl, e9⟩; subst e9)
    | (go_at_call 21; refine (HA.out _).mono ?_; rintro e w9 ⟨rfl, e9⟩; rw [hw2] at e9; obtain rfl := e9.symm))
  clear hw2 hw1 hga hgr
  refine wp_range_none (gf := 32) (lb := #[.pointer (some ⟨ga, 0, none⟩)]) ?hg ?eg ?hcall ?hQ
  case hg => rfl
  case eg => exact enter_fn Try.func32 (by kernel_rfl) rfl
  case hcall => exact fun l W hb => siter_nil _ ga W (by rw [cell_of_row _ _ _ _ _ _ ((hb.block ga (lt_row HA2.out)).trans HA2.out)]; rfl)
  intro D w3 hb3 hs3
  have HB3 := hide hb3
  have HS3 := hide hs3
  clear hb3 hs3 HA2
  have HR3 := hide ((HB3.out.block gr (lt_row HR2.out)).trans HR2.out)
  obtain ⟨gf, hgf⟩ : ∃ g, w3.heap.size = g := ⟨_, rfl⟩
  obtain ⟨w4, hw4⟩ : ∃ w4, w3.alloc (.cells #[.slice none 0 0, .int .i64 0, .int .i64 0, .int .i64 0, .bool false, .bool false] 53) = w4 := ⟨_, rfl⟩
  obtain ⟨g5, hg5⟩ : ∃ g, w4.heap.size = g := ⟨_, rfl⟩
  obtain ⟨w5, hw5⟩ : ∃ w5, w4.alloc (.cells #[.func (.func 24) #[.pointer (some ⟨gf, 0, none⟩)] #[], .nilFunc] 38) = w5 := ⟨_, rfl⟩
  obtain ⟨g6, hg6⟩ : ∃ g, w5.heap.size = g := ⟨_, rfl⟩
  obtain ⟨w6, hw6⟩ : ∃ w6, w5.alloc (.cells #[.func (.func 24) #[.pointer (some ⟨gf, 0, none⟩)] #[]] 38) = w6 := ⟨_, rfl⟩
  have HB4 : Hid (Below w3.heap.size w3 w4) := by rw [← hw4]; exact (Below.refl _ _).alloc (Nat.le_refl _) _
  have HB5 : Hid (Below w4.heap.size w4 w5) := by rw [← hw5]; exact (Below.refl _ _).alloc (Nat.le_refl _) _
  have HB6 : Hid (Below w5.heap.size w5 w6) := by rw [← hw6]; exact (Below.refl _ _).alloc (Nat.le_refl _) _
  have HF4 : Hid (w4.heap[gf]? = some (.cells #[.slice none 0 0, .int .i64 0, .int .i64 0, .int .i64 0, .bool false, .bool false] 53)) := by rw [← hw4, ← hgf]; exact heap_alloc_new _ _
  have HX5 : Hid (w5.heap[g5]? = some (.cells #[.func (.func 24) #[.pointer (some ⟨gf, 0, none⟩)] #[], .nilFunc] 38)) := by rw [← hw5, ← hg5]; exact heap_alloc_new _ _
  have HNF := hide (new_few none 0 0 (fun _ => 0) w6 (fun h => absurd h (by omega)) (by omega))
  have HN5 : Hid (Calls Try.prog 22 #[.func (.func 23) #[] #[], .slice (some ⟨g5, 0, none⟩) 2 2] w5 fun e w' => e = .returned (.tuple #[.pointer none, .int .i64 1]) ∧ w' = w5) := HNS.out g5 gf 2 w5 (two_of HX5.out).1 (two_of HX5.out).2
  go_upto_region 12 with (first
    | (go_at_call 22; refine HN5.out.mono ?_; rintro e w9 ⟨rfl, e9⟩; subst e9; clear HN5)
    | (go_at_call 22; refine (HNC.out _ _).mono ?_; rintro e w9 ⟨rfl, e9⟩; subst e9; clear HNC)
    | (go_at_call 22; refine HNF.out.mono ?_; rintro e w7 ⟨gm, gs, rfl, h1, h2, h3, h4⟩; have HG7 := hide (And.intro h1 h2); have HB7 := hide h3; have HM7 := hide h4; clear h1 h2 h3 h4))
  clear hw4 hw5 hw6 hgf hg5 hg6 HNS HNF HX5
  have HB37 := hide (below_trans HB4.out (below_trans HB5.out (below_trans HB6.out HB7.out)))
  have HF7 : Hid (w7.heap[gf]? = some (.cells #[.slice none 0 0, .int .i64 0, .int .i64 0, .int .i64 0, .bool false, .bool false] 53)) := ((below_trans HB5.out (below_trans HB6.out HB7.out)).block gf (lt_row HF4.out)).trans HF4.out
  have f3 : w7.cell? ⟨gf, 3, none⟩ = some (.int .i64 0) := by rw [cell_of_row _ _ _ _ _ _ HF7.out]; rfl
  have HNW : Hid (Newly w7 gm gs 0 (fun _ => 0) (fun _ => src0.fd)) := ⟨⟨fun j hj => absurd hj (by omega), fun j hj => absurd hj (by omega), fun j hj => absurd hj (by omega), fun j k hj => absurd hj (by omega), fun j hj => absurd hj (by omega), fun j hj => absurd hj (by omega), fun j hj => absurd hj (by omega)⟩, ⟨_, HM7.out⟩, fun j hj => absurd hj (by omega)⟩
  have HNX : Hid (Calls Try.prog 12 #[.pointer (some ⟨gm, 0, none⟩)] w7 fun e w' => e = .returned (.tuple #[.agg #[.int .i64 0, .int .i64 0], .bool false, .int .i64 0]) ∧ Tn w7 w' (All 0 gm gs (fun _ => 0))) := by
    refine (next_at gm gs 0 (fun _ => 0) (fun _ => src0.fd) [] w7 (.inl ⟨rfl, HNW.out⟩) (fun j hj => absurd hj (by omega))).mono ?_
    rintro e w' ⟨ht, ⟨x, rfl, hr⟩ | ⟨t, rfl, ha⟩⟩
    · refine ⟨?_, ht⟩
      have hx : x = 0 := by
        rcases hr with ⟨m, h1, _⟩ | ⟨_, hr⟩
        · omega
        · rcases hr.inv with ⟨_, h2, _⟩ | ⟨v, hb, _⟩ | ⟨v, _, hb, _⟩
          · exact h2
          · have := hb.1; omega
          · have := hb.1; omega
      rw [hx]
      rfl
    · have := ha.len
      rw [List.length_append, List.length_singleton] at this
      unfold sumN at this
      omega
  have HGG : Hid (∀ k, k < w3.heap.size → ¬ All 0 gm gs (fun _ => 0) k) := fun k hk h => by
    have h1 := HG7.out
    have h2 := (below_trans HB4.out (below_trans HB5.out HB6.out)).size
    rcases h with e | e | ⟨j, hj, _⟩ <;> omega
  go_upto_region 15 with (first
    | (go_at_call 25; refine (HE.out _).mono ?_; rintro e w9 ⟨rfl, e9⟩; subst e9; clear HE)
    | (go_at_call 12; refine HNX.out.mono ?_; rintro e w8 ⟨rfl, ht8⟩; have HT8 := hide ht8; clear ht8 HNX))
  obtain ⟨V9, hV9⟩ : ∃ V, w8.alloc (.cells #[.int .i64 0, .int .i64 0] 36) = V := ⟨_, rfl⟩
  have HB9 : Hid (Below w8.heap.size w8 V9) := by rw [← hV9]; exact (Below.refl _ _).alloc (Nat.le_refl _) _
  rw [hV9]
  clear hV9
  have HB39 : Hid (Below w3.heap.size w3 V9) := ⟨HB9.out.os.trans (HT8.out.os.trans HB37.out.os), HB9.out.tape.trans (HT8.out.tape.trans HB37.out.tape), HB9.out.output.trans (HT8.out.output.trans HB37.out.output), Nat.le_trans HB37.out.size (Nat.le_trans HT8.out.size HB9.out.size), fun k hk => (HB9.out.block k (by have := HB37.out.size; have := HT8.out.size; omega)).trans ((HT8.out.block k (by have := HB37.out.size; omega) (HGG.out k hk)).trans (HB37.out.block k hk))⟩
  go_upto_region 16 with (go_at_call 16; refine (head_any _).mono ?_; rintro e V10 ⟨rfl, hb10⟩; have HB10 := hide (below_trans HB39.out hb10); have c0 : V10.cell? ⟨gr, 0, none⟩ = some (.bool false) := (by rw [cell_of_row _ _ _ _ _ _ (((below_trans HB39.out hb10).block gr (lt_row HR3.out)).trans HR3.out)]; rfl); have f0 : V10.frozen? ⟨gr, 0, none⟩ = false := frozen_of_row _ _ _ _ _ (((below_trans HB39.out hb10).block gr (lt_row HR3.out)).trans HR3.out); clear hb10)
  have HRX := hide ((HB10.out.block gr (lt_row HR3.out)).trans HR3.out)
  have HLR : Hid (gr < w2.heap.size) := lt_row HR2.out
  have hne : gr ≠ D := fun e => by have h1 := HS3.out.1; have h2 := HLR.out; omega
  have HSH : Hid (Shut w2 (V10.setCell ⟨gr, 0, none⟩ (.bool true)) D) := by
    have h1 := HS3.out.below HB10.out
    have hl : D < V10.heap.size := (Array.getElem?_eq_some_iff.1 h1.2).1
    exact ⟨h1.1, ((grown_cell (World.grownBy.refl V10 (some gr)) 0 (.bool true)).block D hl (fun e => hne (Option.some.inj e).symm)).trans h1.2⟩
  have HB0 : Hid (Below w.heap.size w (V10.setCell ⟨gr, 0, none⟩ (.bool true))) := below_by (below_trans HB1.out (below_trans HB2.out (below_trans HB3.out HB10.out))) (grown_cell (World.grownBy.refl _ _) _ _) (fun j e => by have e2 : gr = j := Option.some.inj e; have := HGR.out; omega)
  refine leaves_cell (p := 0) (ty := 4) (gc := gr) (v := .bool true) rfl HSH.out (by rw [cell_of_row _ _ _ _ _ _ (heap_setCell_same _ _ _ _ _ _ HRX.out)]; rfl) hne rfl (load_bool rfl gr true rfl) ?_
  intro V hV
  exact ⟨rfl, HB0.out.trans (hV.mono (Nat.le_trans HB1.out.size HB2.out.size))⟩
end Go.Proofs.Ytoobgocnooeojaa.Me
