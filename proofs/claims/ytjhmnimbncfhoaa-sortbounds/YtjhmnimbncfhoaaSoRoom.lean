/-
  The statements' helpers: records with marks behind them, lists that are written over, lists turned round.
-/
import Derived.Test.YtjhmnimbncfhoaaSoRef
import Derived.Deep.AppendLies
namespace Go.Proofs.Ytjhmnimbncfhoaa.So
open Go.ChangeShapes Go.WideShapes Go.ChangeAt Go.RowKit
open Go.Proofs.Ytjhmnimbncfhoaa.Base
set_option linter.unusedVariables false
/-- append of one record: where it comes to lie. -/
theorem pushR {ops : Array Oper} {rest : List Oper} {o : Oper} {a : Act} {Q : Exit → Act → World → Prop} (w : World) (hgd : o.guard = none) (s x : Operand)
    (ho : o.op = .call { callee := .builtin .append, args := #[s, x], argTypes := #[27, 27] })
    (base : Nat) (v : Value) (rs : List Rec) (hs : a.eval s = v) (hown : OwnR w base v rs) (g0 : Nat) (r : Rec) (hx : a.eval x = .slice (some ⟨g0, 0, none⟩) 1 1)
    (hr : RB w g0 r) (hl : (rs.length + 1) * 40 ≤ 140737488355328) (hbase : base ≤ w.heap.size)
    (h : ∀ g cap w', OwnR w' base (.slice (some ⟨g, 0, none⟩) (rs.length + 1) cap) (rs ++ [r]) → w.grownBy w' v.ownBlock → (v.ownBlock = some g ∨ g = w.heap.size) → wpList Try.prog ops Q rest (a.put o.dst (.slice (some ⟨g, 0, none⟩) (rs.length + 1) cap)) w') : wpList Try.prog ops Q (o :: rest) a w := by
  obtain ⟨i0, hi, hz0, hz1, hz2⟩ := info_rec
  refine wpList_append_lies w hgd s x 27 ho base 23 i0 _ 3 40 Try.underlying27 hi hz0 hz1 hz2 rfl (by omega) v rs.length (rvals rs) hs hown ⟨g0, 0, none⟩ 1 1 (rvals [r]) hx (by rw [length_rvals]; rfl) (fun j u hu => (rdr_one hr).cellsAt j u hu) (rvals_one _) (by omega) (by unfold maxLen; omega) hl hbase w.heap.size rfl ?_
  intro g cap w' h1 h2 h3 _
  exact h g cap w' (by unfold OwnR; rw [List.length_append, rvals_append]; exact h1) h2 h3
/-- A record of a list of the call's own is written. -/
theorem OwnR.put {w : World} {base g n c : Nat} {rs : List Rec} (h : OwnR w base (.slice (some ⟨g, 0, none⟩) n c) rs) (i : Nat) (hi : i < n) (r : Rec) :
    ∃ rs', rs'.length = n ∧ OwnR (((w.setCell ⟨g, i * 3, none⟩ (.int .i64 r.p)).setCell ⟨g, i * 3 + 1, none⟩ (.string r.k)).setCell ⟨g, i * 3 + 2, none⟩ (.string r.v)) base (.slice (some ⟨g, 0, none⟩) n c) rs' := by
  obtain ⟨hra, hb, hn⟩ := own_ra h
  rcases h.2 with ⟨h1, h2⟩ | ⟨g', cap', cur, h1, h2, h3, h4, h5, h6, h7⟩
  · cases h1
  · simp only [Value.slice.injEq, Option.some.injEq, Addr.mk.injEq] at h1
    obtain ⟨⟨rfl, _⟩, h8, rfl⟩ := h1
    obtain ⟨cur', k1, k2⟩ := ((((Shp.refl w g).set (i * 3) (.int .i64 r.p)).set (i * 3 + 1) (.string r.k)).set (i * 3 + 2) (.string r.v)) cur _ h3
    exact ⟨_, by rw [length_seg]; omega, ra_own (hra.set i hi r) k1 (by omega) (by omega) h5 hb⟩
def markR : Rec := ⟨-77, ⟨#[109, 97, 114, 107]⟩, ⟨#[]⟩⟩
/-- The records, marks behind them, as far as they are written. -/
def rmF (L : Nat → Rec) (n i : Nat) : Nat → Rec := fun j => if j < i then (if j < n then L j else markR) else rec0
theorem rmF_low (L : Nat → Rec) (n i : Nat) (h : i < n) : setR (setR (rmF L n i) i markR) i (L i) = rmF L n (i + 1) := by
  funext j
  unfold setR rmF
  by_cases e : j = i
  · subst e; rw [if_pos rfl, if_pos (by omega), if_pos h]
  · rw [if_neg e, if_neg e]
    by_cases q : j < i
    · rw [if_pos q, if_pos (show j < i + 1 by omega)]
    · rw [if_neg q, if_neg (show ¬ j < i + 1 by omega)]
theorem rmF_high (L : Nat → Rec) (n i : Nat) (h : ¬ i < n) : setR (rmF L n i) i markR = rmF L n (i + 1) := by
  funext j
  unfold setR rmF
  by_cases e : j = i
  · subst e; rw [if_pos rfl, if_pos (by omega), if_neg h]
  · rw [if_neg e]
    by_cases q : j < i
    · rw [if_pos q, if_pos (show j < i + 1 by omega)]
    · rw [if_neg q, if_neg (show ¬ j < i + 1 by omega)]
theorem seg_rmF (rs : List Rec) : seg (rmF (fun j => rs.getD j rec0) rs.length (rs.length + 64)) 0 (rs.length + 64) = rs ++ List.replicate 64 markR := by
  apply List.ext_getElem?
  intro j
  by_cases h : j < rs.length + 64
  · rw [seg_get _ _ _ _ (by omega), Nat.zero_add]
    unfold rmF
    rw [if_pos h]
    by_cases q : j < rs.length
    · rw [if_pos q, List.getElem?_append_left q]
      show some (rs.getD j rec0) = _
      rw [List.getD_eq_getElem?_getD, List.getElem?_eq_getElem q]; rfl
    · rw [if_neg q, List.getElem?_append_right (by omega), List.getElem?_replicate, if_pos (by omega)]
  · rw [List.getElem?_eq_none (by rw [length_seg]; omega), List.getElem?_eq_none (by simp; omega)]
set_option maxHeartbeats 4000000 in
set_option maxRecDepth 100000 in
theorem roomy_any (a : Option Addr) (n cap : Nat) (rs : List Rec) (w : World) (hr : RdR w a n rs) (hl : (n + 64) * 40 ≤ 140737488355328) :
    Calls Try.prog 16 #[.slice a n cap] w fun e w' => ∃ g, e = .returned (.slice (some ⟨g, 0, none⟩) (n + 64) (n + 64)) ∧ OwnR w' w.heap.size (.slice (some ⟨g, 0, none⟩) (n + 64) (n + 64)) (rs ++ List.replicate 64 markR) ∧ Below w.heap.size w w' := by
  obtain ⟨N, hN⟩ : ∃ N, n + 64 = N := ⟨_, rfl⟩
  obtain ⟨M, hMs, hM0, hMk⟩ := make_rec N (by omega)
  have hmk := hMk ((n : Int) + 64) (by omega)
  have HMS := hide hMs
  have HM0 := hide hM0
  have HR := hide hr
  have HNN := hide hN
  have hNi : (n : Int) + 64 = (N : Int) := by omega
  rw [hN] at hl ⊢
  rw [hNi] at hmk
  clear hMk hMs hM0 hr
  obtain ⟨g, hg⟩ : ∃ g, w.heap.size = g := ⟨_, rfl⟩
  obtain ⟨w1, hw1⟩ : ∃ w1, w.alloc (.cells M 23) = w1 := ⟨_, rfl⟩
  obtain ⟨L, hL⟩ : ∃ L : Nat → Rec, (fun j => rs.getD j rec0) = L := ⟨_, rfl⟩
  have HL := hide hL
  have HB1 : Hid (Below w.heap.size w w1) := by rw [← hw1]; exact (Below.refl _ _).alloc (Nat.le_refl _) _
  have HA1 : Hid (RA w1 g N (rmF L n 0)) := by rw [← hw1, ← hg]; exact (ra_new HM0.out).congr (fun j _ => by unfold rmF; rw [if_neg (by omega)])
  have HG1 : Hid (∃ cur, w1.heap[g]? = some (.cells cur 23) ∧ cur.size = N * 3) := ⟨M, by rw [← hw1, ← hg]; exact heap_alloc_new _ _, HMS.out⟩
  clear hL hN
  go_enter Try.func16, Try.ntmps16
  go_wp2_with fail
  go_loopw [4] (fun si wr => ∃ i : Nat, i ≤ N ∧ .int .i64 (i : Int) = si ∧ Hid (RA wr g N (rmF L n i)) ∧ Hid (∃ cur, wr.heap[g]? = some (.cells cur 23) ∧ cur.size = N * 3) ∧ Hid (Below w.heap.size w wr)) (fun si _ => N - (intOf si).toNat)
  case atStart => exact ⟨0, by omega, rfl, HA1, HG1, HB1⟩
  case round =>
    clear HA1 HG1 HB1
    obtain ⟨i, hi, rfl, HA, HG, HB⟩ := hrel
    by_cases hin : i < N
    · have hii : (i : Int) < (N : Int) := by omega
      obtain ⟨d0, d1, d2⟩ := HA.out.cells i hin
      have f0 := HA.out.frozen (i * 3)
      have f1 := HA.out.frozen (i * 3 + 1)
      have f2 := HA.out.frozen (i * 3 + 2)
      obtain ⟨w5, hw5⟩ : ∃ w5, ((wr.setCell ⟨g, i * 3, none⟩ (.int .i64 (-77))).setCell ⟨g, i * 3 + 1, none⟩ (.string ⟨#[109, 97, 114, 107]⟩)).setCell ⟨g, i * 3 + 2, none⟩ (.string ⟨#[]⟩) = w5 := ⟨_, rfl⟩
      have HA5 : Hid (RA w5 g N (setR (rmF L n i) i markR)) := by rw [← hw5]; exact HA.out.set i hin markR
      have HG5 : Hid (∃ cur, w5.heap[g]? = some (.cells cur 23) ∧ cur.size = N * 3) := by
        obtain ⟨cur, h1, h2⟩ := HG.out
        obtain ⟨cur', h3, h4⟩ := ((((Shp.refl wr g).set (i * 3) (.int .i64 (-77))).set (i * 3 + 1) (.string ⟨#[109, 97, 114, 107]⟩)).set (i * 3 + 2) (.string ⟨#[]⟩)) cur _ h1
        exact ⟨cur', by rw [← hw5]; exact h3, by omega⟩
      have HW5 : Hid (Below w.heap.size w w5) := by rw [← hw5]; exact ((HB.out.setCell (by show w.heap.size ≤ g; omega) _).setCell (by show w.heap.size ≤ g; omega) _).setCell (by show w.heap.size ≤ g; omega) _
      by_cases hjn : i < n
      · have hji : (i : Int) < (n : Int) := by omega
        obtain ⟨b, off, rfl, hbw, hcs⟩ := HR.out.2 (by omega)
        obtain ⟨c0, c1, c2⟩ := hcs i hjn
        have p0 := (HW5.out.cell (p := ⟨b, off + i * 3, none⟩) hbw).trans c0
        have p1 := (HW5.out.cell (p := ⟨b, off + i * 3 + 1, none⟩) hbw).trans c1
        have p2 := (HW5.out.cell (p := ⟨b, off + i * 3 + 2, none⟩) hbw).trans c2
        have HX : Hid (L i = rs.getD i rec0) := by rw [← HL.out]; rfl
        clear c0 c1 c2 hcs
        generalize rs.getD i rec0 = x at p0 p1 p2 HX
        obtain ⟨k0, k1, k2⟩ := HA5.out.cells i hin
        have j0 := HA5.out.frozen (i * 3)
        have j1 := HA5.out.frozen (i * 3 + 1)
        have j2 := HA5.out.frozen (i * 3 + 2)
        obtain ⟨w6, hw6⟩ : ∃ w6, ((w5.setCell ⟨g, i * 3, none⟩ (.int .i64 x.p)).setCell ⟨g, i * 3 + 1, none⟩ (.string x.k)).setCell ⟨g, i * 3 + 2, none⟩ (.string x.v) = w6 := ⟨_, rfl⟩
        have HA6 : Hid (RA w6 g N (rmF L n (i + 1))) := by rw [← hw6, ← rmF_low L n i hjn, HX.out]; exact HA5.out.set i hin x
        have HG6 : Hid (∃ cur, w6.heap[g]? = some (.cells cur 23) ∧ cur.size = N * 3) := by
          obtain ⟨cur, h1, h2⟩ := HG5.out
          obtain ⟨cur', h3, h4⟩ := ((((Shp.refl w5 g).set (i * 3) (.int .i64 x.p)).set (i * 3 + 1) (.string x.k)).set (i * 3 + 2) (.string x.v)) cur _ h1
          exact ⟨cur', by rw [← hw6]; exact h3, by omega⟩
        have HW6 : Hid (Below w.heap.size w w6) := by rw [← hw6]; exact ((HW5.out.setCell (by show w.heap.size ≤ g; omega) _).setCell (by show w.heap.size ≤ g; omega) _).setCell (by show w.heap.size ≤ g; omega) _
        go_wp2_with fail
        go_roundw
        case rel => exact ⟨i + 1, by omega, by go_num, HA6, HG6, HW6⟩
        case measure => simp [intOf]; omega
      · have hji : ¬ (i : Int) < (n : Int) := by omega
        go_wp2_with fail
        go_roundw
        case rel => exact ⟨i + 1, by omega, by go_num, (by rw [← rmF_high L n i hjn]; exact HA5), HG5, HW5⟩
        case measure => simp [intOf]; omega
    · obtain rfl : i = N := by omega
      have HO : Hid (OwnR wr w.heap.size (.slice (some ⟨g, 0, none⟩) i i) (rs ++ List.replicate 64 markR)) := by
        obtain ⟨cur, h1, h2⟩ := HG.out
        have h3 := ra_own HA.out h1 h2 (Nat.le_refl _) (by unfold maxLen; omega) (show w.heap.size ≤ g by omega)
        have h4 := seg_rmF rs
        rw [HR.out.1, HNN.out, HL.out] at h4
        rw [h4] at h3
        exact h3
      go_wp2_with fail
      go_ret
      exact ⟨g, rfl, HO.out, HB.out⟩
/-- Written over. -/
def ovR (mk : Int) : Rec := ⟨mk, ⟨#[]⟩, ⟨#[]⟩⟩
set_option maxHeartbeats 4000000 in
set_option maxRecDepth 100000 in
theorem spoil_any (base : Nat) (a : Option Addr) (n c : Nat) (rs : List Rec) (mk : Int) (w : World) (ho : OwnR w base (.slice a n c) rs) (hb : base ≤ w.heap.size) (hl : (n + 64) * 40 ≤ 140737488355328) (h1 : -4611686018427387904 ≤ mk) (h2 : mk ≤ 4611686018427387904) :
    Calls Try.prog 17 #[.slice a n c, .int .i64 mk] w fun e w' => e = .returned (.int .i64 ((n : Int) + 64)) ∧ w.grownBy w' (Value.slice a n c).ownBlock := by
  have hneg : IntKind.i64.wrap (-mk) = -mk := by rw [IntKind.wrap_i64]; omega
  have HO : Hid (∃ rs', rs'.length = n ∧ OwnR w base (.slice a n c) rs') := ⟨rs, (by obtain ⟨a', c', e, _⟩ := own_shape ho; simp only [Value.slice.injEq] at e; exact e.2.1.symm), ho⟩
  clear ho
  go_enter Try.func17, Try.ntmps17
  go_wp2_with fail
  go_loopw [5] (fun si wr => ∃ i : Nat, i ≤ n ∧ .int .i64 (i : Int) = si ∧ Hid (∃ rs', rs'.length = n ∧ OwnR wr base (.slice a n c) rs') ∧ Hid (w.grownBy wr (Value.slice a n c).ownBlock)) (fun si _ => n - (intOf si).toNat)
  case atStart => exact ⟨0, by omega, rfl, HO, World.grownBy.refl _ _⟩
  case round =>
    clear HO
    obtain ⟨i, hi, rfl, HO, HG⟩ := hrel
    by_cases hin : i < n
    · have hii : (i : Int) < (n : Int) := by omega
      obtain ⟨rs1, hr1, ho1⟩ := HO.out
      obtain ⟨g, rfl⟩ : ∃ g, a = some ⟨g, 0, none⟩ := by
        rcases ho1.2 with ⟨q1, q2⟩ | ⟨g, cap, cur, q1, _⟩
        · omega
        · simp only [Value.slice.injEq] at q1; exact ⟨g, q1.1⟩
      obtain ⟨hra, _, _⟩ := own_ra ho1
      obtain ⟨d0, d1, d2⟩ := hra.cells i hin
      have f0 := hra.frozen (i * 3)
      have f1 := hra.frozen (i * 3 + 1)
      have f2 := hra.frozen (i * 3 + 2)
      obtain ⟨w5, hw5⟩ : ∃ w5, ((wr.setCell ⟨g, i * 3, none⟩ (.int .i64 mk)).setCell ⟨g, i * 3 + 1, none⟩ (.string ⟨#[]⟩)).setCell ⟨g, i * 3 + 2, none⟩ (.string ⟨#[]⟩) = w5 := ⟨_, rfl⟩
      have HO5 : Hid (∃ rs', rs'.length = n ∧ OwnR w5 base (.slice (some ⟨g, 0, none⟩) n c) rs') := by rw [← hw5]; exact ho1.put i hin (ovR mk)
      have HG5 : Hid (w.grownBy w5 (some g)) := by rw [← hw5]; exact grown_rec HG.out i _ _ _
      clear hra ho1 hr1
      go_wp2_with fail
      go_roundw
      case rel => exact ⟨i + 1, by omega, by go_num, HO5, HG5⟩
      case measure => simp [intOf]; omega
    · obtain rfl : i = n := by omega
      go_wp2_with fail
      go_loopw [0, 6] (fun s0 si wq => ∃ (k : Nat) (v : Value) (rs' : List Rec), k ≤ 64 ∧ v = s0 ∧ .int .i64 (k : Int) = si ∧ Hid (rs'.length = i + k) ∧ Hid (OwnR wq base v rs') ∧ Hid (v.ownBlock = (Value.slice a i c).ownBlock ∨ ∀ j, v.ownBlock = some j → w.heap.size ≤ j) ∧ Hid (w.grownBy wq (Value.slice a i c).ownBlock)) (fun _ si _ => 64 - (intOf si).toNat)
      case atStart => obtain ⟨rs1, q1, q2⟩ := HO.out; exact ⟨0, _, rs1, by omega, rfl, rfl, q1, q2, .inl rfl, HG⟩
      case round =>
        clear HO HG
        obtain ⟨k, v, rs1, hk, rfl, rfl, HLN, HO, HV, HG⟩ := hrel
        by_cases hk4 : k < 64
        · have hki : (k : Int) < 64 := by omega
          obtain ⟨g5, hg5⟩ : ∃ g, wr.heap.size = g := ⟨_, rfl⟩
          obtain ⟨w5, hw5⟩ : ∃ w5, wr.alloc (.cells #[.int .i64 (-mk), .string ⟨#[]⟩, .string ⟨#[]⟩] 23) = w5 := ⟨_, rfl⟩
          have HB5 : Hid (Below wr.heap.size wr w5) := by rw [← hw5]; exact (Below.refl _ _).alloc (Nat.le_refl _) _
          have HR5 : Hid (RB w5 g5 (ovR (-mk))) := by rw [← hw5, ← hg5]; exact heap_alloc_new _ _
          have HO5 := hide (HO.out.below HB5.out)
          have HG5 := hide (grown_below HG.out HB5.out)
          go_wp2_with (at_builtin; refine pushR _ rfl _ _ rfl base v rs1 rfl HO5.out g5 (ovR (-mk)) rfl HR5.out (by have := HLN.out; omega) (by have := HG5.out.size; omega) ?_; intro g6 c6 w6 ho6 hg6 hv6; have HO6 := hide ho6; have HV6 := hide hv6; have HG6 := hide hg6; clear ho6 hv6 hg6)
          go_roundw
          case rel =>
            have hsz : w.heap.size ≤ w5.heap.size := HG5.out.size
            refine ⟨k + 1, _, rs1 ++ [ovR (-mk)], by omega, rfl, by go_num, (by have := HLN.out; rw [List.length_append]; show _ = _; simp; omega), HO6, ?_, ?_⟩
            · rcases HV6.out with h | h
              · rcases HV.out with q | q
                · left; rw [← q, h]; rfl
                · right; intro j e; exact q j (h.trans e)
              · right; intro j e; have e2 := Option.some.inj e; simp only at e2; omega
            · refine ⟨HG6.out.os.trans HG5.out.os, HG6.out.tape.trans HG5.out.tape, HG6.out.output.trans HG5.out.output, Nat.le_trans hsz HG6.out.size, fun j hj hne => ?_⟩
              refine (HG6.out.block j (by omega) (fun e => ?_)).trans (HG5.out.block j hj hne)
              rcases HV.out with q | q
              · exact hne (by rw [← q]; exact e)
              · have := q j e.symm; omega
          case measure => simp [intOf]; omega
        · obtain rfl : k = 64 := by omega
          obtain ⟨va, vc, hv⟩ : ∃ va vc, v = .slice va (i + 64) vc := by obtain ⟨x, y, q, _⟩ := own_shape HO.out; exact ⟨x, y, by rw [q, HLN.out]⟩
          subst hv
          go_wp2_with fail
          go_ret
          exact ⟨by simp, HG.out⟩
end Go.Proofs.Ytjhmnimbncfhoaa.So
