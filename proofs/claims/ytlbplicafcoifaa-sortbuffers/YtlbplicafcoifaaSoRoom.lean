/-
  The statements' helpers: records with marks behind them, lists that are written over, lists turned round.
-/
import Derived.Test.YtlbplicafcoifaaSoRef
import Derived.Deep.AppendLies
namespace Go.Proofs.Ytlbplicafcoifaa.So
open Go.ChangeShapes Go.WideShapes Go.ChangeAt Go.RowKit
open Go.Proofs.Ytlbplicafcoifaa.Base
set_option linter.unusedVariables false
/-- append of one record: where it comes to lie. -/
theorem pushR {ops : Array Oper} {rest : List Oper} {o : Oper} {a : Act} {Q : Exit → Act → World → Prop} (w : World) (hgd : o.guard = none) (s x : Operand)
    (ho : o.op = .call { callee := .builtin .append, args := #[s, x], argTypes := #[38, 38] })
    (base : Nat) (v : Value) (rs : List Rec) (hs : a.eval s = v) (hown : OwnR w base v rs) (g0 : Nat) (r : Rec) (hx : a.eval x = .slice (some ⟨g0, 0, none⟩) 1 1)
    (hr : RB w g0 r) (hl : (rs.length + 1) * 40 ≤ 140737488355328) (hbase : base ≤ w.heap.size)
    (h : ∀ g cap w', OwnR w' base (.slice (some ⟨g, 0, none⟩) (rs.length + 1) cap) (rs ++ [r]) → w.grownBy w' v.ownBlock → (v.ownBlock = some g ∨ g = w.heap.size) → wpList Try.prog ops Q rest (a.put o.dst (.slice (some ⟨g, 0, none⟩) (rs.length + 1) cap)) w') : wpList Try.prog ops Q (o :: rest) a w := by
  obtain ⟨i0, hi, hz0, hz1, hz2⟩ := info_rec
  refine wpList_append_lies w hgd s x 38 ho base 34 i0 _ 3 40 Try.underlying38 hi hz0 hz1 hz2 rfl (by omega) v rs.length (rvals rs) hs hown ⟨g0, 0, none⟩ 1 1 (rvals [r]) hx (by rw [length_rvals]; rfl) (fun j u hu => (rdr_one hr).cellsAt j u hu) (rvals_one _) (by omega) (by unfold maxLen; omega) hl hbase w.heap.size rfl ?_
  intro g cap w' h1 h2 h3 _
  exact h g cap w' (by unfold OwnR; rw [List.length_append, rvals_append]; exact h1) h2 h3
/-- A record of a list of the call's own is written. -/
theorem OwnR.put {w : World} {base g n c : Nat} {rs : List Rec} (h : OwnR w base (.slice (some ⟨g, 0, none⟩) n c) rs) (i : Nat) (hi : i < n) (r : Rec) :
    ∃ rs', rs'.length = n ∧ OwnR (((w.setCell ⟨g, i * 3, none⟩ (.int .i64 r.p)).setCell ⟨g, i * 3 + 1, none⟩ (.string r.k)).setCell ⟨g, i * 3 + 2, none⟩ (.string r.v)) base (.slice (some ⟨g, 0, none⟩) n c) rs' := by
  obtain ⟨hra, hb, hn⟩ := own_ra h
  rcases h.2 with ⟨h1, h2⟩ | ⟨g', cap', cur, h1, h2, h3, h4, h5, h6, h7⟩
  · cases h1
  · simp only [Value.slice.injEq, Option.some.injEq, Addr.mk.injEq] at h1
    obtain ⟨⟨rfl, _⟩, h8, rfl⟩ := h1
    obtain ⟨cur', k1, k2⟩ := ((((Shp.refl w g).set (i * 3) (.int .i64 r.p)).set (i * 3 + 1) (.string r.k)).set (i * 3 + 2) (.string r.v)) cur _ h3
    exact ⟨_, by rw [length_seg]; omega, ra_own (hra.set i hi r) k1 (by omega) (by omega) h5 hb⟩
def markR : Rec := ⟨-77, ⟨#[109, 97, 114, 107]⟩, ⟨#[]⟩⟩
/-- The records, marks behind them, as far as they are written. -/
def rmF (L : Nat → Rec) (n i : Nat) : Nat → Rec := fun j => if j < i then (if j < n then L j else markR) else rec0
theorem rmF_low (L : Nat → Rec) (n i : Nat) (h : i < n) : setR (setR (rmF L n i) i markR) i (L i) = rmF L n (i + 1) := by
  funext j
  unfold setR rmF
  by_cases e : j = i
  · subst e; rw [if_pos rfl, if_pos (by omega), if_pos h]
  · rw [if_neg e, if_neg e]
    by_cases q : j < i
    · rw [if_pos q, if_pos (show j < i + 1 by omega)]
    · rw [if_neg q, if_neg (show ¬ j < i + 1 by omega)]
theorem rmF_high (L : Nat → Rec) (n i : Nat) (h : ¬ i < n) : setR (rmF L n i) i markR = rmF L n (i + 1) := by
  funext j
  unfold setR rmF
  by_cases e : j = i
  · subst e; rw [if_pos rfl, if_pos (by omega), if_neg h]
  · rw [if_neg e]
    by_cases q : j < i
    · rw [if_pos q, if_pos (show j < i + 1 by omega)]
    · rw [if_neg q, if_neg (show ¬ j < i + 1 by omega)]
theorem seg_rmF (rs : List Rec) : seg (rmF (fun j => rs.getD j rec0) rs.length (rs.length + 64)) 0 (rs.length + 64) = rs ++ List.replicate 64 markR := by
  apply List.ext_getElem?
  intro j
  by_cases h : j < rs.length + 64
  · rw [seg_get _ _ _ _ (by omega), Nat.zero_add]
    unfold rmF
    rw [if_pos h]
    by_cases q : j < rs.length
    · rw [if_pos q, List.getElem?_append_left q]
      show some (rs.getD j rec0) = _
      rw [List.getD_eq_getElem?_getD, List.getElem?_eq_getElem q]; rfl
    · rw [if_neg q, List.getElem?_append_right (by omega), List.getElem?_replicate, if_pos (by omega)]
  · rw [List.getElem?_eq_none (by rw [length_seg]; omega), List.getElem?_eq_none (by simp; omega)]
/-- Written over. -/
def ovR (mk : Int) : Rec := ⟨mk, ⟨#[]⟩, ⟨#[]⟩⟩
set_option maxHeartbeats 4000000 in
set_option maxRecDepth 100000 in
theorem spoil_any (base : Nat) (a : Option Addr) (n c : Nat) (rs : List Rec) (mk : Int) (w : World) (ho : OwnR w base (.slice a n c) rs) (hb : base ≤ w.heap.size) (hl : (n + 64) * 40 ≤ 140737488355328) (h1 : -4611686018427387904 ≤ mk) (h2 : mk ≤ 4611686018427387904) :
    Calls Try.prog 11 #[.slice a n c, .int .i64 mk] w fun e w' => e = .returned (.int .i64 ((n : Int) + 64)) ∧ w.grownBy w' (Value.slice a n c).ownBlock := by
  have hneg : IntKind.i64.wrap (-mk) = -mk := by rw [IntKind.wrap_i64]; omega
  have HO : Hid (∃ rs', rs'.length = n ∧ OwnR w base (.slice a n c) rs') := ⟨rs, (by obtain ⟨a', c', e, _⟩ := own_shape ho; simp only [Value.slice.injEq] at e; exact e.2.1.symm), ho⟩
  clear ho
  go_enter Try.func11, Try.ntmps11
  go_wp2_with fail
  go_loopw [5] (fun si wr => ∃ i : Nat, i ≤ n ∧ .int .i64 (i : Int) = si ∧ Hid (∃ rs', rs'.length = n ∧ OwnR wr base (.slice a n c) rs') ∧ Hid (w.grownBy wr (Value.slice a n c).ownBlock)) (fun si _ => n - (intOf si).toNat)
  case atStart => exact ⟨0, by omega, rfl, HO, World.grownBy.refl _ _⟩
  case round =>
    clear HO
    obtain ⟨i, hi, rfl, HO, HG⟩ := hrel
    by_cases hin : i < n
    · have hii : (i : Int) < (n : Int) := by omega
      obtain ⟨rs1, hr1, ho1⟩ := HO.out
      obtain ⟨g, rfl⟩ : ∃ g, a = some ⟨g, 0, none⟩ := by
        rcases ho1.2 with ⟨q1, q2⟩ | ⟨g, cap, cur, q1, _⟩
        · omega
        · simp only [Value.slice.injEq] at q1; exact ⟨g, q1.1⟩
      obtain ⟨hra, _, _⟩ := own_ra ho1
      obtain ⟨d0, d1, d2⟩ := hra.cells i hin
      have f0 := hra.frozen (i * 3)
      have f1 := hra.frozen (i * 3 + 1)
      have f2 := hra.frozen (i * 3 + 2)
      obtain ⟨w5, hw5⟩ : ∃ w5, ((wr.setCell ⟨g, i * 3, none⟩ (.int .i64 mk)).setCell ⟨g, i * 3 + 1, none⟩ (.string ⟨#[]⟩)).setCell ⟨g, i * 3 + 2, none⟩ (.string ⟨#[]⟩) = w5 := ⟨_, rfl⟩
      have HO5 : Hid (∃ rs', rs'.length = n ∧ OwnR w5 base (.slice (some ⟨g, 0, none⟩) n c) rs') := by rw [← hw5]; exact ho1.put i hin (ovR mk)
      have HG5 : Hid (w.grownBy w5 (some g)) := by rw [← hw5]; exact grown_rec HG.out i _ _ _
      clear hra ho1 hr1
      go_wp2_with fail
      go_roundw
      case rel => exact ⟨i + 1, by omega, by go_num, HO5, HG5⟩
      case measure => simp [intOf]; omega
    · obtain rfl : i = n := by omega
      go_wp2_with fail
      go_loopw [0, 6] (fun s0 si wq => ∃ (k : Nat) (v : Value) (rs' : List Rec), k ≤ 64 ∧ v = s0 ∧ .int .i64 (k : Int) = si ∧ Hid (rs'.length = i + k) ∧ Hid (OwnR wq base v rs') ∧ Hid (v.ownBlock = (Value.slice a i c).ownBlock ∨ ∀ j, v.ownBlock = some j → w.heap.size ≤ j) ∧ Hid (w.grownBy wq (Value.slice a i c).ownBlock)) (fun _ si _ => 64 - (intOf si).toNat)
      case atStart => obtain ⟨rs1, q1, q2⟩ := HO.out; exact ⟨0, _, rs1, by omega, rfl, rfl, q1, q2, .inl rfl, HG⟩
      case round =>
        clear HO HG
        obtain ⟨k, v, rs1, hk, rfl, rfl, HLN, HO, HV, HG⟩ := hrel
        by_cases hk4 : k < 64
        · have hki : (k : Int) < 64 := by omega
          obtain ⟨g5, hg5⟩ : ∃ g, wr.heap.size = g := ⟨_, rfl⟩
          obtain ⟨w5, hw5⟩ : ∃ w5, wr.alloc (.cells #[.int .i64 (-mk), .string ⟨#[]⟩, .string ⟨#[]⟩] 34) = w5 := ⟨_, rfl⟩
          have HB5 : Hid (Below wr.heap.size wr w5) := by rw [← hw5]; exact (Below.refl _ _).alloc (Nat.le_refl _) _
          have HR5 : Hid (RB w5 g5 (ovR (-mk))) := by rw [← hw5, ← hg5]; exact heap_alloc_new _ _
          have HO5 := hide (HO.out.below HB5.out)
          have HG5 := hide (grown_below HG.out HB5.out)
          go_wp2_with (at_builtin; refine pushR _ rfl _ _ rfl base v rs1 rfl HO5.out g5 (ovR (-mk)) rfl HR5.out (by have := HLN.out; omega) (by have := HG5.out.size; omega) ?_; intro g6 c6 w6 ho6 hg6 hv6; have HO6 := hide ho6; have HV6 := hide hv6; have HG6 := hide hg6; clear ho6 hv6 hg6)
          go_roundw
          case rel =>
            have hsz : w.heap.size ≤ w5.heap.size := HG5.out.size
            refine ⟨k + 1, _, rs1 ++ [ovR (-mk)], by omega, rfl, by go_num, (by have := HLN.out; rw [List.length_append]; show _ = _; simp; omega), HO6, ?_, ?_⟩
            · rcases HV6.out with h | h
              · rcases HV.out with q | q
                · left; rw [← q, h]; rfl
                · right; intro j e; exact q j (h.trans e)
              · right; intro j e; have e2 := Option.some.inj e; simp only at e2; omega
            · refine ⟨HG6.out.os.trans HG5.out.os, HG6.out.tape.trans HG5.out.tape, HG6.out.output.trans HG5.out.output, Nat.le_trans hsz HG6.out.size, fun j hj hne => ?_⟩
              refine (HG6.out.block j (by omega) (fun e => ?_)).trans (HG5.out.block j hj hne)
              rcases HV.out with q | q
              · exact hne (by rw [← q]; exact e)
              · have := q j e.symm; omega
          case measure => simp [intOf]; omega
        · obtain rfl : k = 64 := by omega
          obtain ⟨va, vc, hv⟩ : ∃ va vc, v = .slice va (i + 64) vc := by obtain ⟨x, y, q, _⟩ := own_shape HO.out; exact ⟨x, y, by rw [q, HLN.out]⟩
          subst hv
          go_wp2_with fail
          go_ret
          exact ⟨by simp, HG.out⟩
end Go.Proofs.Ytlbplicafcoifaa.So
