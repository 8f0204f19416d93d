/-
  Bytes as entries: the program's Decode.
-/
import Derived.Test.YtbmbhcjocgbbpabFaDecM
import Derived.Test.YtbmbhcjocgbbpabFaRow
import Derived.Test.YtbmbhcjocgbbpabFaChk
namespace Go.Proofs.Ytbmbhcjocgbbpab.Fa
open Go.ChangeShapes Go.WideShapes Go.ChangeAt Go.RowKit
open Go.Proofs.Ytbmbhcjocgbbpab.Base Go.Proofs.Ytbmbhcjocgbbpab.Nums Go.Proofs.Ytbmbhcjocgbbpab.Curs
set_option linter.unusedVariables false
theorem end_st (g : Nat) (s : St) (w : World) (h : Cst w g s) : Calls Try.prog 24 #[.pointer (some ⟨g, 0, none⟩)] w fun e w' => ∃ x y : Int, e = .returned (.agg #[.int .i64 x, .int .i64 y]) ∧ (x = 0 ↔ s = some []) ∧ Below w.heap.size w w' := by
  cases s with
  | none =>
    obtain ⟨p, er, hr, he⟩ := h
    refine (end_none g p er w hr (fun e => absurd e he)).mono ?_
    rintro e w' ⟨rfl, hb⟩
    exact ⟨er, p, rfl, ⟨fun e => absurd e he, fun e => by cases e⟩, hb⟩
  | some L =>
    obtain ⟨p, hc⟩ := h
    refine (end_any g p L w hc).mono ?_
    rintro e w' ⟨rfl, hb⟩
    by_cases hl : L.length = 0
    · rw [if_pos hl]
      obtain rfl : L = [] := List.length_eq_zero_iff.1 hl
      exact ⟨0, 0, rfl, ⟨fun _ => rfl, fun _ => rfl⟩, hb⟩
    · rw [if_neg hl]
      exact ⟨22, p, rfl, ⟨fun e => by omega, fun e => by cases e; exact absurd rfl hl⟩, hb⟩
theorem Cst.far {w w' : World} {g b : Nat} {s : St} {cur : Array Value} (h : Cst w g s) (hf : w.heap[b]? = some (.cells cur 39)) (hb : ∀ (i : Nat) (c : BitVec 8), cur[i]? ≠ some (Value.int .u8 (c.toNat : Int))) (hg : w.grownBy w' (some b)) (hne : b ≠ g) : Cst w' g s := by
  cases s with
  | none =>
    obtain ⟨p, er, hr, he⟩ := h
    exact ⟨p, er, hr.grown hg (fun e => hne (Option.some.inj e)), he⟩
  | some L =>
    obtain ⟨p, a, c, hrow, hrd, h1, h2, h3, h4, h5, h6⟩ := h
    refine ⟨p, a, c, hrow.grown hg (fun e => hne (Option.some.inj e)), ?_, h1, h2, h3, h4, Nat.lt_of_lt_of_le h5 hg.size, h6⟩
    by_cases h0 : L.length = 0
    · have : L = [] := List.length_eq_zero_iff.1 h0
      subst this
      exact rd_zero _ _
    · refine hrd.grown hg (fun ad e e2 => ?_)
      obtain ⟨b1, off, e3, hlt, hc⟩ := hrd.2.2 (by omega)
      cases e
      cases e3
      have e4 : b = b1 := Option.some.inj e2
      subst e4
      have h7 := hc 0 (by omega)
      rw [cell_of_row _ _ _ _ _ _ hf] at h7
      exact hb _ _ h7
theorem no_u8 {cur : Array Value} {N : Nat} {F : Nat → Flt} (h : ∀ j, j < N → ∀ c, c < 8 → cur[j * 8 + c]? = (fv (F j))[c]?) (hs : cur.size = N * 8) (i : Nat) (c : BitVec 8) : cur[i]? ≠ some (Value.int .u8 (c.toNat : Int)) := by
  by_cases hi : i < N * 8
  · have h1 := h (i / 8) (by omega) (i % 8) (by omega)
    rw [show i / 8 * 8 + i % 8 = i by omega] at h1
    rw [h1]
    have h8 : i % 8 < 8 := by omega
    generalize i % 8 = z at h8
    match z, h8 with
    | 0, _ => intro e; cases e
    | 1, _ => intro e; cases e
    | 2, _ => intro e; cases e
    | 3, _ => intro e; cases e
    | 4, _ => intro e; cases e
    | 5, _ => intro e; cases e
    | 6, _ => intro e; cases e
    | 7, _ => intro e; cases e
    | z + 8, h => omega
  · rw [Array.getElem?_eq_none (by omega)]
    intro e; cases e
/-- The first i of the entries that are read. -/
def decF (s : St) (i : Nat) : Nat → Flt := fun j => if j < i then (stepsS i s).1.getD j f0 else f0
theorem decF_zero (s : St) : decF s 0 = fun _ => f0 := by
  funext j; unfold decF; rw [if_neg (by omega)]
theorem decF_next (s : St) (i : Nat) : setF (decF s i) i (nextS (stepsS i s).2).1 = decF s (i + 1) := by
  have hl := stepsS_len i s
  funext j
  unfold setF decF
  simp only [stepsS]
  by_cases e : j = i
  · subst e
    rw [if_pos rfl, if_pos (by omega), List.getD_eq_getElem?_getD, List.getElem?_append_right (by omega), hl, Nat.sub_self]; rfl
  · rw [if_neg e]
    by_cases q : j < i
    · rw [if_pos q, if_pos (by omega), List.getD_eq_getElem?_getD, List.getD_eq_getElem?_getD, List.getElem?_append_left (by omega)]
    · rw [if_neg q, if_neg (by omega)]
theorem decF_seg (s : St) (n : Nat) : segF (decF s n) n = (stepsS n s).1 := by
  have hl := stepsS_len n s
  rw [segF_congr (decF s n) (fun j => (stepsS n s).1.getD j f0) n (fun j hj => by unfold decF; rw [if_pos hj])]
  have := segF_list (stepsS n s).1
  rw [hl] at this
  exact this
/-- What Decode answers. -/
def Dec (r : Option (List Flt)) (e : Ending) (w' : World) (base : Nat) : Prop :=
  match r with
  | some fs => ∃ v, e = .returned (.tuple #[v, .int .i64 0]) ∧ OwnL w' base v fs
  | none => e = .returned (.tuple #[.slice none 0 0, .int .i64 160])
set_option maxHeartbeats 4000000 in
set_option maxRecDepth 100000 in
theorem decode_any (a : Option Addr) (n c : Nat) (bs : List (BitVec 8)) (w : World) (hr : Rd w a n bs) (hn : n ≤ c) (hz : a = none → n = 0 ∧ c = 0) :
    Calls Try.prog 9 #[.slice a n c] w fun e w' => Dec (decS bs) e w' w.heap.size ∧ Below w.heap.size w w' := by
  have HM := hide hr.2.1
  have HR := hide hr
  have HZ := hide hz
  clear hr hz
  go_enter Try.func9, Try.ntmps9
  go_wp2_with fail
  refine (newCursor_any a n c bs w HR.out hn HM.out HZ.out).mono ?_
  rintro e w1 ⟨g, rfl, hg1, hc1, hb1⟩
  have HG := hide hg1
  have HC1 : Hid (Cst w1 g (some bs)) := ⟨0, hc1⟩
  have HB1 := hide hb1
  clear hg1 hc1 hb1
  go_wp2_with fail
  refine (num_st g (some bs) 256 w1 HC1.out).mono ?_
  rintro e w2 ⟨rfl, hg2, hc2⟩
  have HB2 := hide (grown_below HB1.out hg2 HG.out)
  have hN := numS_le (some bs) 256
  rw [show ((256 : Nat) : Int) = 256 from rfl] at hN
  obtain ⟨N, s0, hs0⟩ : ∃ N s0, numS (some bs) 256 = (N, s0) := ⟨_, _, rfl⟩
  rw [hs0] at hc2 hN ⊢
  simp only at hc2 hN ⊢
  have HS0 := hide hs0
  have HC2 := hide hc2
  obtain ⟨M, hMs, hM0, hMk⟩ := make_flt N (by omega)
  have hmk := hMk (N : Int) rfl
  obtain ⟨lb, hlb⟩ : ∃ lb, w2.heap.size = lb := ⟨_, rfl⟩
  obtain ⟨w3, hw3⟩ : ∃ w3, w2.alloc (.cells M 39) = w3 := ⟨_, rfl⟩
  have HB3 : Hid (Below w2.heap.size w2 w3) := by show Below _ _ _; rw [← hw3]; exact ba (b0 _) _
  have HA3 : Hid (FA w3 lb N (decF s0 0)) := by show FA _ _ _ _; rw [← hw3, ← hlb, decF_zero]; exact fa_new hM0
  have HP3 : Hid (Shp8 w3 lb (N * 8)) := ⟨M, by rw [← hw3, ← hlb]; exact heap_alloc_new _ _, hMs⟩
  have HC3 := hide (HC2.out.below HB3.out)
  have HW3 := hide (below_trans HB2.out HB3.out)
  have HLB : Hid (g ≠ lb ∧ w.heap.size ≤ lb) := by have := HC2.out.lt; have h2 := HB2.out.size; show _ ∧ _; omega
  clear hg2 hc2 hs0 hMs hM0 hMk HR HM HZ
  go_wp2_with fail
  go_loopw [14] (fun si wr => ∃ i : Nat, i ≤ N ∧ .int .i64 (i : Int) = si ∧ Hid (FA wr lb N (decF s0 i)) ∧ Hid (Shp8 wr lb (N * 8)) ∧ Hid (Cst wr g (stepsS i s0).2) ∧ Hid (Below w.heap.size w wr)) (fun si _ => N - (intOf si).toNat)
  case atStart => exact ⟨0, by omega, rfl, HA3, HP3, HC3, HW3⟩
  case round =>
    clear HA3 HP3 HC3 HW3
    obtain ⟨i, hi, rfl, HA, HP, HC, HB⟩ := hrel
    by_cases hin : i < N
    · have hii : (i : Int) < (N : Int) := by omega
      go_wp2_with fail
      refine (next_any g _ wr HC.out).mono ?_
      rintro e w4 ⟨rfl, hg, hc⟩
      have HNE : Hid (lb ≠ g) := fun e => HLB.out.1 e.symm
      have HA4 := hide (HA.out.grown hg (fun e => HNE.out (Option.some.inj e).symm))
      have HP4 := hide (HP.out.grown hg (fun e => HNE.out (Option.some.inj e).symm))
      have HB4 := hide (grown_below HB.out hg HG.out)
      have HC4 := hide hc
      have HN4 := hide (decF_next s0 i)
      have HST : Hid ((stepsS (i + 1) s0).2 = (nextS (stepsS i s0).2).2) := rfl
      generalize nextS (stepsS i s0).2 = q at HC4 HN4 HST ⊢
      obtain ⟨f, s5⟩ := q
      simp only at HC4 HN4 HST ⊢
      unfold Flt.val
      obtain ⟨d0, d1, d2, d3, d4, d5, d6, d7⟩ := HA4.out.at8 i hin
      have f0 := HA4.out.frozen (i * 8)
      have f1 := HA4.out.frozen (i * 8 + 1)
      have f2 := HA4.out.frozen (i * 8 + 2)
      have f3 := HA4.out.frozen (i * 8 + 3)
      have f4 := HA4.out.frozen (i * 8 + 4)
      have f5 := HA4.out.frozen (i * 8 + 5)
      have f6 := HA4.out.frozen (i * 8 + 6)
      have f7 := HA4.out.frozen (i * 8 + 7)
      obtain ⟨w5, hw5⟩ : ∃ w5, (((((((w4.setCell ⟨lb, i * 8, none⟩ (.int .i64 f.k)).setCell ⟨lb, i * 8 + 1, none⟩ (.int .i64 f.j)).setCell ⟨lb, i * 8 + 2, none⟩ (.int .i64 f.t)).setCell ⟨lb, i * 8 + 3, none⟩ (.int .i64 f.a)).setCell ⟨lb, i * 8 + 4, none⟩ (.int .i64 f.m)).setCell ⟨lb, i * 8 + 5, none⟩ (.int .i64 f.r)).setCell ⟨lb, i * 8 + 6, none⟩ (.int .i64 f.p)).setCell ⟨lb, i * 8 + 7, none⟩ (.int .u32 (f.q.toNat : Int)) = w5 := ⟨_, rfl⟩
      have hw5' : set8 w4 lb (i * 8) f = w5 := hw5
      have HA5 : Hid (FA w5 lb N (decF s0 (i + 1))) := by show FA _ _ _ _; rw [← hw5', ← HN4.out]; exact HA4.out.set i hin f
      have HP5 : Hid (Shp8 w5 lb (N * 8)) := by show Shp8 _ _ _; rw [← hw5']; exact HP4.out.set _ _
      have hg5 : w4.grownBy w5 (some lb) := by rw [← hw5']; exact grown_set8 (World.grownBy.refl _ _) _ _
      have HB5 : Hid (Below w.heap.size w w5) := by show Below _ _ _; rw [← hw5']; exact below_set8 HB4.out HLB.out.2 _ _
      have HC5 : Hid (Cst w5 g (stepsS (i + 1) s0).2) := by
        show Cst _ _ _
        rw [HST.out]
        obtain ⟨cur, hcu, hcs⟩ := HP4.out
        obtain ⟨cur2, t2, hc2, hcc⟩ := HA4.out
        rw [hcu] at hc2
        simp only [Option.some.injEq, Obj.cells.injEq] at hc2
        obtain ⟨rfl, rfl, _⟩ := hc2
        exact HC4.out.far hcu (no_u8 hcc hcs) hg5 HNE.out
      clear hg hc hg5 hw5'
      go_wp2_with fail
      go_roundw
      case rel => exact ⟨i + 1, by omega, by go_num, HA5, HP5, HC5, HB5⟩
      case measure => simp [intOf]; omega
    · obtain rfl : i = N := by omega
      have HO : Hid (OwnL wr w.heap.size (.slice (some ⟨lb, 0, none⟩) i i) (stepsS i s0).1) := by
        obtain ⟨cur, h1, h2⟩ := HP.out
        have h3 := fa_own HA.out h1 h2 (Nat.le_refl _) (by unfold maxLen; omega) HLB.out.2
        rw [decF_seg] at h3
        exact h3
      have HD : Hid (decS bs = if (stepsS i s0).2 = some [] ∧ chk (stepsS i s0).1 = 0 then some (stepsS i s0).1 else none) := by
        show _ = _
        unfold decS
        rw [HS0.out]
      generalize (stepsS i s0).1 = fs at HO HD
      generalize (stepsS i s0).2 = se at HC HD
      clear HA HP HC2 hN
      go_wp2_with fail
      refine (end_st g se wr HC.out).mono ?_
      rintro e w4 ⟨x, y, rfl, hx, hb⟩
      have HX := hide hx
      have HB4 := hide (below_trans HB.out hb)
      have HO4 := hide (HO.out.below hb)
      clear hx hb
      have hfd : ∀ W : World, (Instr.field 49 (.agg #[.int .i64 x, .int .i64 y]) 0).run Try.prog W = .ok (.int .i64 x) W := fun _ => by kernel_rfl
      by_cases h0 : x = 0
      · subst h0
        have hx0 : ((0 : Int) != 0) = false := rfl
        go_wp2_with fail
        refine (check_any (some ⟨lb, 0, none⟩) i i fs w4 HO4.out.rdl).mono ?_
        rintro e w5 ⟨rfl, hb⟩
        have HB5 := hide (below_trans HB4.out hb)
        have HO5 := hide (HO4.out.below hb)
        clear hb
        by_cases h1 : chk fs = 0
        · rw [h1]
          go_wp2_with fail
          go_ret2
          rw [HD.out, if_pos ⟨HX.out.1 trivial, h1⟩]
          exact ⟨⟨_, rfl, HO5.out⟩, HB5.out⟩
        · have hc0 : ((chk fs : Int) != 0) = true := by rw [bne_iff_ne]; omega
          go_wp2_with fail
          go_ret2
          rw [HD.out, if_neg (fun e => h1 e.2)]
          exact ⟨rfl, HB5.out⟩
      · have hx0 : (x != 0) = true := by rw [bne_iff_ne]; exact h0
        go_wp2_with fail
        go_ret2
        rw [HD.out, if_neg (fun e => h0 (HX.out.2 e.1))]
        exact ⟨rfl, HB4.out⟩
end Go.Proofs.Ytbmbhcjocgbbpab.Fa
