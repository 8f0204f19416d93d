/-
  What lies behind a list is written over and added to: the list stays.
-/
import Derived.Test.YtlbplicafcoifaaSoRoom
import Derived.ArgAppend
import Derived.Deep.AppendLies
namespace Go.Proofs.Ytlbplicafcoifaa.So
open Go.ChangeShapes Go.WideShapes Go.ChangeAt Go.RowKit
open Go.Proofs.Ytlbplicafcoifaa.Base
set_option linter.unusedVariables false
/-- The first m cells of the block g stay, and so do its type and its size. -/
def Pre (w w' : World) (g m : Nat) : Prop := ∀ cur : Array Value, w.heap[g]? = some (.cells cur 34) → ∃ cur' : Array Value, w'.heap[g]? = some (.cells cur' 34) ∧ cur'.size = cur.size ∧ ∀ j, j < m → cur'[j]? = cur[j]?
theorem Pre.refl (w : World) (g m : Nat) : Pre w w g m := fun cur h => ⟨cur, h, rfl, fun _ _ => rfl⟩
theorem Pre.trans {w w1 w2 : World} {g m : Nat} (h : Pre w w1 g m) (k : Pre w1 w2 g m) : Pre w w2 g m := fun cur h0 => by
  obtain ⟨c, h1, h2, h3⟩ := h cur h0
  obtain ⟨d, k1, k2, k3⟩ := k c h1
  exact ⟨d, k1, k2.trans h2, fun j hj => (k3 j hj).trans (h3 j hj)⟩
theorem Pre.same {w w1 w2 : World} {g m : Nat} (h : Pre w w1 g m) (e : w2.heap[g]? = w1.heap[g]?) : Pre w w2 g m := fun cur h0 => by
  obtain ⟨c, h1, h2, h3⟩ := h cur h0
  exact ⟨c, by rw [e]; exact h1, h2, h3⟩
theorem pre_cell (w : World) (g m k : Nat) (v : Value) (h : m ≤ k) : Pre w (w.setCell ⟨g, k, none⟩ v) g m := fun cur h0 => ⟨cur.setIfInBounds k v, by rw [heap_setCell_same _ _ _ _ _ _ h0], by simp, fun j hj => by rw [Array.getElem?_setIfInBounds, if_neg (by omega)]⟩
theorem pre_cells (g m : Nat) : ∀ (vs : List Value) (w : World) (k : Nat), m ≤ k → Pre w (w.setCells g k vs) g m ∧ w.grownBy (w.setCells g k vs) (some g)
  | [], w, k, h => ⟨Pre.refl _ _ _, World.grownBy.refl _ _⟩
  | v :: vs, w, k, h => by
    obtain ⟨h1, h2⟩ := pre_cells g m vs (w.setCell ⟨g, k, none⟩ v) (k + 1) (by omega)
    exact ⟨(pre_cell w g m k v h).trans h1, (grown_cell (World.grownBy.refl _ _) _ _).trans h2⟩
theorem owns_base {w : World} {b b' : Nat} {e : TypeId} {size n : Nat} {v : Value} {xs : List Value} (h : w.ownsRow b e size v n xs) (hb : b' ≤ b) : w.ownsRow b' e size v n xs := by
  obtain ⟨h1, h2⟩ := h
  refine ⟨h1, ?_⟩
  rcases h2 with h2 | ⟨g, cap, cur, e1, e2, e3⟩
  · exact .inl h2
  · exact .inr ⟨g, cap, cur, e1, by omega, e3⟩
theorem owns_below {w w' : World} {b : Nat} {e : TypeId} {size n : Nat} {v : Value} {xs : List Value} (h : w.ownsRow b e size v n xs) (hb : Below w.heap.size w w') : w'.ownsRow b e size v n xs := by
  obtain ⟨h1, h2⟩ := h
  refine ⟨h1, ?_⟩
  rcases h2 with h2 | ⟨g, cap, cur, e1, e2, e3, e4⟩
  · exact .inl h2
  · exact .inr ⟨g, cap, cur, e1, e2, by rw [hb.block g (lt_row e3)]; exact e3, e4⟩
/-- append of one record where there is room. -/
theorem push_room {ops : Array Oper} {rest : List Oper} {o : Oper} {a : Act} {Q : Exit → Act → World → Prop} (w : World) (hgd : o.guard = none) (s x : Operand)
    (ho : o.op = .call { callee := .builtin .append, args := #[s, x], argTypes := #[38, 38] })
    (g off n cap g0 : Nat) (r : Rec) (hs : a.eval s = .slice (some ⟨g, off, none⟩) n cap) (hx : a.eval x = .slice (some ⟨g0, 0, none⟩) 1 1) (hr : RB w g0 r) (hn : n + 1 ≤ cap)
    (hc : ∀ j, j < 3 → (w.cell? ⟨g, off + n * 3 + j, none⟩).isSome = true) (hf : ∀ j, j < 3 → w.frozen? ⟨g, off + n * 3 + j, none⟩ = false)
    (h : wpList Try.prog ops Q rest (a.put o.dst (.slice (some ⟨g, off, none⟩) (n + 1) cap)) (w.setCells g (off + n * 3) (rvals [r]))) : wpList Try.prog ops Q (o :: rest) a w := by
  obtain ⟨i0, hi, hz0, hz1, hz2⟩ := info_rec
  refine wpList_plain hgd fun K hK' => ?_
  have hrun := run_append_room_cells (P := Try.prog) w 38 o.type 34 i0 Try.underlying38 hi g off n cap ⟨g0, 0, none⟩ 1 1 (rvals [r]) (by rw [hz1]; rfl) (fun j u hu => (rdr_one hr).cellsAt j u hu) (rvals_one _) hn (fun j hj => by rw [hz1]; exact hc j hj) (fun j hj => by rw [hz1]; exact hf j hj)
  rw [hz1] at hrun
  unfold Oper.wp
  simp [execOp, ho, resolve, invoke, builtin, hs, hx, hrun, Result.andThen]
  exact hK' _ _ h
set_option maxHeartbeats 4000000 in
set_option maxRecDepth 100000 in
theorem spoil_tail (g o c : Nat) (a : Option Addr) (mk : Int) (w : World) (ha : 0 < c → a = some ⟨g, o * 3, none⟩) (hgl : g < w.heap.size) (hS : 0 < c → ∃ cur, w.heap[g]? = some (.cells cur 34) ∧ (o + c) * 3 ≤ cur.size) (h1 : -4611686018427387904 ≤ mk) (h2 : mk ≤ 4611686018427387904) :
    Calls Try.prog 11 #[.slice a 0 c, .int .i64 mk] w fun e w' => e = .returned (.int .i64 64) ∧ w.grownBy w' (some g) ∧ Pre w w' g (o * 3) := by
  have hneg : IntKind.i64.wrap (-mk) = -mk := by rw [IntKind.wrap_i64]; omega
  have HA := hide ha
  have HS := hide hS
  clear ha hS
  go_enter Try.func11, Try.ntmps11
  go_wp2_with fail
  go_loopw [5] (fun si wr => .int .i64 0 = si ∧ w = wr) (fun _ _ => 0)
  case atStart => exact ⟨rfl, rfl⟩
  case round =>
    obtain ⟨rfl, rfl⟩ := hrel
    go_wp2_with fail
    go_loopw [0, 6] (fun s0 si wq => ∃ (k : Nat) (v : Value), k ≤ 64 ∧ v = s0 ∧ .int .i64 (k : Int) = si ∧ Hid ((v = .slice a k c ∧ k ≤ c) ∨ ∃ xs, wq.ownsRow w.heap.size 34 3 v k xs) ∧ Hid (w.grownBy wq (some g)) ∧ Hid (Pre w wq g (o * 3))) (fun _ si _ => 64 - (intOf si).toNat)
    case atStart => exact ⟨0, _, by omega, rfl, rfl, .inl ⟨rfl, by omega⟩, World.grownBy.refl _ _, Pre.refl _ _ _⟩
    case round =>
      obtain ⟨k, v, hk, rfl, rfl, HV, HG, HP⟩ := hrel
      by_cases hk4 : k < 64
      · have hki : (k : Int) < 64 := by omega
        obtain ⟨g5, hg5⟩ : ∃ g, wr.heap.size = g := ⟨_, rfl⟩
        obtain ⟨w5, hw5⟩ : ∃ w5, wr.alloc (.cells #[.int .i64 (-mk), .string ⟨#[]⟩, .string ⟨#[]⟩] 34) = w5 := ⟨_, rfl⟩
        have HB5 : Hid (Below wr.heap.size wr w5) := by rw [← hw5]; exact (Below.refl _ _).alloc (Nat.le_refl _) _
        have HR5 : Hid (RB w5 g5 (ovR (-mk))) := by rw [← hw5, ← hg5]; exact heap_alloc_new _ _
        have HG5 := hide (grown_below HG.out HB5.out)
        have HP5 := hide (HP.out.same (HB5.out.block g (Nat.lt_of_lt_of_le hgl HG.out.size)))
        rcases HV.out with ⟨hv, hkc⟩ | ⟨xs, hox⟩
        · subst hv
          by_cases hroom : k < c
          · have hag := HA.out (by omega)
            subst hag
            obtain ⟨cur, q1, q2⟩ := HS.out (by omega)
            obtain ⟨cur', r1, r2, r3⟩ := HP5.out cur q1
            have HC : Hid ((∀ j, j < 3 → (w5.cell? ⟨g, o * 3 + k * 3 + j, none⟩).isSome = true) ∧ ∀ j, j < 3 → w5.frozen? ⟨g, o * 3 + k * 3 + j, none⟩ = false) := ⟨fun j hj => by rw [cell_of_row _ _ _ _ _ _ r1, Array.getElem?_eq_getElem (show o * 3 + k * 3 + j < cur'.size by omega)]; rfl, fun j hj => frozen_of_row _ _ _ _ _ r1⟩
            obtain ⟨hp7, hg7⟩ := pre_cells g (o * 3) (rvals [ovR (-mk)]) w5 (o * 3 + k * 3) (by omega)
            have HP7 := hide (HP5.out.trans hp7)
            have HG7 := hide (HG5.out.trans hg7)
            clear hp7 hg7 q1 q2 r1 r2 r3 HV
            go_wp2_with (at_builtin; refine push_room _ rfl _ _ rfl g (o * 3) k c g5 (ovR (-mk)) rfl rfl HR5.out (by omega) HC.out.1 HC.out.2 ?_; generalize w5.setCells g (o * 3 + k * 3) (rvals [ovR (-mk)]) = w7 at HP7 HG7 ⊢)
            go_roundw
            case rel => exact ⟨k + 1, _, by omega, rfl, by go_num, .inl ⟨rfl, by omega⟩, HG7, HP7⟩
            case measure => simp [intOf]; omega
          · obtain rfl : k = c := by omega
            obtain ⟨olds, hol, hoc⟩ : ∃ olds : List Value, olds.length = k * 3 ∧ ∀ b, a = some b → ∀ j u, olds[j]? = some u → w5.cell? (b.add j) = some u := by
              by_cases hk0 : 0 < k
              · have hag := HA.out hk0
                obtain ⟨cur, q1, q2⟩ := HS.out hk0
                obtain ⟨cur', r1, r2, r3⟩ := HP5.out cur q1
                refine ⟨(cur'.toList.drop (o * 3)).take (k * 3), by simp; omega, fun b e j u hu => ?_⟩
                rw [hag] at e
                have e' := Option.some.inj e
                subst e'
                have hj : j < k * 3 := by
                  by_cases q : j < k * 3
                  · exact q
                  · rw [List.getElem?_eq_none (by simp; omega)] at hu; cases hu
                rw [List.getElem?_take_of_lt hj, List.getElem?_drop, Array.getElem?_toList] at hu
                rw [addr_add _ rfl, cell_of_row _ _ _ _ _ _ r1]
                exact hu
              · exact ⟨[], by simp; omega, fun b e j u hu => by simp at hu⟩
            have HOL := hide (And.intro hol hoc)
            clear hol hoc HV
            obtain ⟨i0, hi0, hz0, hz1, hz2⟩ := info_rec
            by_cases hna : a = none ∧ 0 < k
            · exfalso; have := HA.out hna.2; rw [hna.1] at this; cases this
            have HNA : Hid (a = none → k = 0 ∧ k = 0) := fun e => by have : ¬ 0 < k := fun q => hna ⟨e, q⟩; omega
            clear hna
            go_wp2_with (at_builtin; refine wpList_append_grows w5 rfl _ _ 38 rfl 34 i0 _ 3 40 Try.underlying38 hi0 hz0 hz1 hz2 rfl (by omega) a k k olds rfl HNA.out HOL.out.1 HOL.out.2 ⟨g5, 0, none⟩ 1 1 (rvals [ovR (-mk)]) rfl (by rw [length_rvals]; rfl) (fun j u hu => (rdr_one HR5.out).cellsAt j u hu) (rvals_one _) (by omega) (by unfold maxLen; omega) (by omega) ?_; intro v7 w7 ho7 hg7; have HO7 := hide ho7; have HG7 := hide hg7; clear ho7 hg7)
            go_roundw
            case rel =>
              have hsz : w.heap.size ≤ w5.heap.size := HG5.out.size
              refine ⟨k + 1, _, by omega, rfl, by go_num, .inr ⟨_, owns_base HO7.out hsz⟩, ?_, HP5.out.same (HG7.out.block g (by omega) (by simp))⟩
              exact ⟨HG7.out.os.trans HG5.out.os, HG7.out.tape.trans HG5.out.tape, HG7.out.output.trans HG5.out.output, Nat.le_trans hsz HG7.out.size, fun j hj hne => (HG7.out.block j (by omega) (by simp)).trans (HG5.out.block j hj hne)⟩
            case measure => simp [intOf]; omega
        · have HO5 : Hid (w5.ownsRow w.heap.size 34 3 v k xs) := owns_below hox HB5.out
          obtain ⟨i0, hi0, hz0, hz1, hz2⟩ := info_rec
          clear hox HV
          go_wp2_with (at_builtin; refine wpList_append_lies w5 rfl _ _ 38 rfl w.heap.size 34 i0 _ 3 40 Try.underlying38 hi0 hz0 hz1 hz2 rfl (by omega) v k xs rfl HO5.out ⟨g5, 0, none⟩ 1 1 (rvals [ovR (-mk)]) rfl (by rw [length_rvals]; rfl) (fun j u hu => (rdr_one HR5.out).cellsAt j u hu) (rvals_one _) (by omega) (by unfold maxLen; omega) (by omega) HG5.out.size w5.heap.size rfl ?_; intro g7 c7 w7 ho7 hg7 _ _; have HO7 := hide ho7; have HG7 := hide hg7; clear ho7 hg7)
          go_roundw
          case rel =>
            have hsz : w.heap.size ≤ w5.heap.size := HG5.out.size
            have hfar : ∀ j, j < w.heap.size → some j ≠ v.ownBlock := fun j hj e => by have := (World.ownsRow.lt HO5.out j e.symm).1; omega
            refine ⟨k + 1, _, by omega, rfl, by go_num, .inr ⟨_, HO7.out⟩, ?_, HP5.out.same (HG7.out.block g (by omega) (hfar g hgl))⟩
            exact ⟨HG7.out.os.trans HG5.out.os, HG7.out.tape.trans HG5.out.tape, HG7.out.output.trans HG5.out.output, Nat.le_trans hsz HG7.out.size, fun j hj hne => (HG7.out.block j (by omega) (hfar j hj)).trans (HG5.out.block j hj hne)⟩
          case measure => simp [intOf]; omega
      · obtain rfl : k = 64 := by omega
        obtain ⟨va, vc, hv⟩ : ∃ va vc, v = .slice va 64 vc := by
          rcases HV.out with ⟨q, _⟩ | ⟨xs, q⟩
          · exact ⟨_, _, q⟩
          · rcases q.2 with ⟨_, q2⟩ | ⟨_, _, _, q1, _⟩
            · omega
            · exact ⟨_, _, q1⟩
        subst hv
        go_wp2_with fail
        go_ret
        exact ⟨rfl, HG.out, HP.out⟩
end Go.Proofs.Ytlbplicafcoifaa.So
