/-
  The statements' helpers: entries with marks behind them, lists that are written over and added to, lists turned round.
-/
import Derived.Test.YtbmbhcjocgbbpaaFaRow
import Derived.Test.YtbmbhcjocgbbpaaBase2
import Derived.Deep.AppendLies
namespace Go.Proofs.Ytbmbhcjocgbbpaa.Fa
open Go.ChangeShapes Go.WideShapes Go.ChangeAt Go.RowKit
open Go.Proofs.Ytbmbhcjocgbbpaa.Base
set_option linter.unusedVariables false
def markF : Flt := ⟨7001, 0, 5, 0, 0, 0, 0, 0#32⟩
/-- The entries, marks behind them, as far as they are written. -/
def gvF (L : Nat → Flt) (n i : Nat) : Nat → Flt := fun j => if j < i then (if j < n then L j else markF) else f0
theorem gvF_low (L : Nat → Flt) (n i : Nat) (h : i < n) : setF (setF (gvF L n i) i markF) i (L i) = gvF L n (i + 1) := by
  funext j
  unfold setF gvF
  by_cases e : j = i
  · subst e; rw [if_pos rfl, if_pos (by omega), if_pos h]
  · rw [if_neg e, if_neg e]
    by_cases q : j < i
    · rw [if_pos q, if_pos (show j < i + 1 by omega)]
    · rw [if_neg q, if_neg (show ¬ j < i + 1 by omega)]
theorem gvF_high (L : Nat → Flt) (n i : Nat) (h : ¬ i < n) : setF (gvF L n i) i markF = gvF L n (i + 1) := by
  funext j
  unfold setF gvF
  by_cases e : j = i
  · subst e; rw [if_pos rfl, if_pos (by omega), if_neg h]
  · rw [if_neg e]
    by_cases q : j < i
    · rw [if_pos q, if_pos (show j < i + 1 by omega)]
    · rw [if_neg q, if_neg (show ¬ j < i + 1 by omega)]
theorem seg_gvF (rs : List Flt) : segF (gvF (fun j => rs.getD j f0) rs.length (rs.length + 64)) (rs.length + 64) = rs ++ List.replicate 64 markF := by
  apply List.ext_getElem?
  intro j
  by_cases h : j < rs.length + 64
  · rw [segF_get _ _ _ (by omega)]
    unfold gvF
    rw [if_pos h]
    by_cases q : j < rs.length
    · rw [if_pos q, List.getElem?_append_left q]
      show some (rs.getD j f0) = _
      rw [List.getD_eq_getElem?_getD, List.getElem?_eq_getElem q]; rfl
    · rw [if_neg q, List.getElem?_append_right (by omega), List.getElem?_replicate, if_pos (by omega)]
  · rw [List.getElem?_eq_none (by rw [length_segF]; omega), List.getElem?_eq_none (by simp; omega)]
set_option maxHeartbeats 8000000 in
set_option maxRecDepth 100000 in
theorem given_any (a : Option Addr) (n cap : Nat) (rs : List Flt) (w : World) (hr : RdL w a n rs) (hl : n ≤ 2199023255488) :
    Calls Try.prog 22 #[.slice a n cap] w fun e w' => ∃ g, e = .returned (.slice (some ⟨g, 0, none⟩) (n + 64) (n + 64)) ∧ OwnL w' w.heap.size (.slice (some ⟨g, 0, none⟩) (n + 64) (n + 64)) (rs ++ List.replicate 64 markF) ∧ Below w.heap.size w w' := by
  obtain ⟨N, hN⟩ : ∃ N, n + 64 = N := ⟨_, rfl⟩
  obtain ⟨M, hMs, hM0, hMk⟩ := make_flt N (by omega)
  have hmk := hMk ((n : Int) + 64) (by omega)
  have HMS := hide hMs
  have HM0 := hide hM0
  have HR := hide hr
  have HNN := hide hN
  have hNi : (n : Int) + 64 = (N : Int) := by omega
  rw [hN]
  rw [hNi] at hmk
  clear hMk hMs hM0 hr
  obtain ⟨g, hg⟩ : ∃ g, w.heap.size = g := ⟨_, rfl⟩
  obtain ⟨w1, hw1⟩ : ∃ w1, w.alloc (.cells M 25) = w1 := ⟨_, rfl⟩
  obtain ⟨L, hL⟩ : ∃ L : Nat → Flt, (fun j => rs.getD j f0) = L := ⟨_, rfl⟩
  have HL := hide hL
  have HB1 : Hid (Below w.heap.size w w1) := by rw [← hw1]; exact (Below.refl _ _).alloc (Nat.le_refl _) _
  have HA1 : Hid (FA w1 g N (gvF L n 0)) := by rw [← hw1, ← hg]; exact (fa_new HM0.out).congr (fun j _ => by unfold gvF; rw [if_neg (by omega)])
  have HG1 : Hid (Shp8 w1 g (N * 8)) := ⟨M, by rw [← hw1, ← hg]; exact heap_alloc_new _ _, HMS.out⟩
  have HGB : Hid (w.heap.size ≤ g) := by show _ ≤ _; omega
  clear hL hN
  go_enter Try.func22, Try.ntmps22
  go_wp2_with fail
  go_loopw [4] (fun si wr => ∃ i : Nat, i ≤ N ∧ .int .i64 (i : Int) = si ∧ Hid (FA wr g N (gvF L n i)) ∧ Hid (Shp8 wr g (N * 8)) ∧ Hid (Below w.heap.size w wr)) (fun si _ => N - (intOf si).toNat)
  case atStart => exact ⟨0, by omega, rfl, HA1, HG1, HB1⟩
  case round =>
    clear HA1 HG1 HB1
    obtain ⟨i, hi, rfl, HA, HG, HB⟩ := hrel
    by_cases hin : i < N
    · have hii : (i : Int) < (N : Int) := by omega
      obtain ⟨d0, d1, d2, d3, d4, d5, d6, d7⟩ := HA.out.at8 i hin
      have z0 := HA.out.frozen (i * 8)
      have z1 := HA.out.frozen (i * 8 + 1)
      have z2 := HA.out.frozen (i * 8 + 2)
      have z3 := HA.out.frozen (i * 8 + 3)
      have z4 := HA.out.frozen (i * 8 + 4)
      have z5 := HA.out.frozen (i * 8 + 5)
      have z6 := HA.out.frozen (i * 8 + 6)
      have z7 := HA.out.frozen (i * 8 + 7)
      obtain ⟨w5, hw5⟩ : ∃ w5, ((((((((wr.setCell ⟨g, i * 8, none⟩ (.int .i64 7001)).setCell ⟨g, i * 8 + 1, none⟩ (.int .i64 0)).setCell ⟨g, i * 8 + 2, none⟩ (.int .i64 5)).setCell ⟨g, i * 8 + 3, none⟩ (.int .i64 0)).setCell ⟨g, i * 8 + 4, none⟩ (.int .i64 0)).setCell ⟨g, i * 8 + 5, none⟩ (.int .i64 0)).setCell ⟨g, i * 8 + 6, none⟩ (.int .i64 0)).setCell ⟨g, i * 8 + 7, none⟩ (.int .u32 0)) = w5 := ⟨_, rfl⟩
      have hw5' : set8 wr g (i * 8) markF = w5 := hw5
      have HA5 : Hid (FA w5 g N (setF (gvF L n i) i markF)) := by rw [← hw5']; exact HA.out.set i hin markF
      have HG5 : Hid (Shp8 w5 g (N * 8)) := by rw [← hw5']; exact HG.out.set _ _
      have HW5 : Hid (Below w.heap.size w w5) := by rw [← hw5']; exact below_set8 HB.out HGB.out _ _
      clear hw5'
      by_cases hjn : i < n
      · have hji : (i : Int) < (n : Int) := by omega
        obtain ⟨b, off, rfl, hbw, hcs⟩ := HR.out.2 (by omega)
        obtain ⟨p0, p1, p2, p3, p4, p5, p6, p7⟩ := (hcs i hjn).same (w' := w5) (fun k => HW5.out.cell (p := ⟨b, k, none⟩) hbw)
        have HX : Hid (L i = rs.getD i f0) := by rw [← HL.out]; rfl
        clear hcs
        generalize rs.getD i f0 = x at p0 p1 p2 p3 p4 p5 p6 p7 HX
        obtain ⟨k0, k1, k2, k3, k4, k5, k6, k7⟩ := HA5.out.at8 i hin
        have j0 := HA5.out.frozen (i * 8)
        have j1 := HA5.out.frozen (i * 8 + 1)
        have j2 := HA5.out.frozen (i * 8 + 2)
        have j3 := HA5.out.frozen (i * 8 + 3)
        have j4 := HA5.out.frozen (i * 8 + 4)
        have j5 := HA5.out.frozen (i * 8 + 5)
        have j6 := HA5.out.frozen (i * 8 + 6)
        have j7 := HA5.out.frozen (i * 8 + 7)
        obtain ⟨w6, hw6⟩ : ∃ w6, ((((((((w5.setCell ⟨g, i * 8, none⟩ (.int .i64 x.k)).setCell ⟨g, i * 8 + 1, none⟩ (.int .i64 x.j)).setCell ⟨g, i * 8 + 2, none⟩ (.int .i64 x.t)).setCell ⟨g, i * 8 + 3, none⟩ (.int .i64 x.a)).setCell ⟨g, i * 8 + 4, none⟩ (.int .i64 x.m)).setCell ⟨g, i * 8 + 5, none⟩ (.int .i64 x.r)).setCell ⟨g, i * 8 + 6, none⟩ (.int .i64 x.p)).setCell ⟨g, i * 8 + 7, none⟩ (.int .u32 (x.q.toNat : Int))) = w6 := ⟨_, rfl⟩
        have hw6' : set8 w5 g (i * 8) x = w6 := hw6
        have HA6 : Hid (FA w6 g N (gvF L n (i + 1))) := by rw [← hw6', ← gvF_low L n i hjn, HX.out]; exact HA5.out.set i hin x
        have HG6 : Hid (Shp8 w6 g (N * 8)) := by rw [← hw6']; exact HG5.out.set _ _
        have HW6 : Hid (Below w.heap.size w w6) := by rw [← hw6']; exact below_set8 HW5.out HGB.out _ _
        clear hw6'
        go_wp2_with fail
        go_roundw
        case rel => exact ⟨i + 1, by omega, by go_num, HA6, HG6, HW6⟩
        case measure => simp [intOf]; omega
      · have hji : ¬ (i : Int) < (n : Int) := by omega
        go_wp2_with fail
        go_roundw
        case rel => exact ⟨i + 1, by omega, by go_num, (by rw [← gvF_high L n i hjn]; exact HA5), HG5, HW5⟩
        case measure => simp [intOf]; omega
    · obtain rfl : i = N := by omega
      have HO : Hid (OwnL wr w.heap.size (.slice (some ⟨g, 0, none⟩) i i) (rs ++ List.replicate 64 markF)) := by
        obtain ⟨cur, h1, h2⟩ := HG.out
        have h3 := fa_own HA.out h1 h2 (Nat.le_refl _) (by unfold maxLen; omega) (show w.heap.size ≤ g by omega)
        have h4 := seg_gvF rs
        rw [HR.out.1, HNN.out, HL.out] at h4
        rw [h4] at h3
        exact h3
      go_wp2_with fail
      go_ret
      exact ⟨g, rfl, HO.out, HB.out⟩
theorem fb_at8 {w : World} {g : Nat} {f : Flt} (h : FB w g f) : At8 w g 0 f := h.cells
/-- Written over. -/
def ovF (mk : Int) : Flt := ⟨mk, 0, 0, 0, 0, 0, 0, 0#32⟩
/-- An entry of a list of the call's own is written. -/
theorem OwnL.put {w : World} {base g n c : Nat} {fs : List Flt} (h : OwnL w base (.slice (some ⟨g, 0, none⟩) n c) fs) (i : Nat) (hi : i < n) (f : Flt) :
    OwnL (set8 w g (i * 8) f) base (.slice (some ⟨g, 0, none⟩) n c) (fs.set i f) := by
  obtain ⟨hra, hb, hn⟩ := own_fa h
  rcases h.2 with ⟨h1, h2⟩ | ⟨g', cap', cur, h1, h2, h3, h4, h5, h6, h7⟩
  · cases h1
  · simp only [Value.slice.injEq, Option.some.injEq, Addr.mk.injEq] at h1
    obtain ⟨⟨rfl, _⟩, h8, rfl⟩ := h1
    have h9 := fa_own (hra.set i hi f) (heap_set8 h3 (i * 8) f) (by rw [size_arr8]; exact h6) (by omega) h5 hb
    have e : segF (setF (fun j => fs.getD j f0) i f) n = fs.set i f := by
      apply List.ext_getElem?
      intro j
      by_cases hj : j < n
      · rw [segF_get _ _ _ hj]
        unfold setF
        by_cases q : j = i
        · subst q; rw [if_pos rfl, List.getElem?_set_self (by omega)]
        · rw [if_neg q, List.getElem?_set_ne (fun e => q e.symm)]
          show some (fs.getD j f0) = _
          rw [List.getD_eq_getElem?_getD, List.getElem?_eq_getElem (by omega)]; rfl
      · rw [List.getElem?_eq_none (by rw [length_segF]; omega), List.getElem?_eq_none (by rw [List.length_set]; omega)]
    rw [e] at h9
    exact h9
/-- The first i written over. -/
def spF (fs : List Flt) (mk : Int) (i : Nat) : List Flt := List.replicate i (ovF mk) ++ fs.drop i
theorem spF_len (fs : List Flt) (mk : Int) (i : Nat) (h : i ≤ fs.length) : (spF fs mk i).length = fs.length := by unfold spF; simp; omega
theorem spF_next (fs : List Flt) (mk : Int) (i : Nat) (h : i < fs.length) : (spF fs mk i).set i (ovF mk) = spF fs mk (i + 1) := by
  apply List.ext_getElem?
  intro j
  by_cases e : j = i
  · subst e
    rw [List.getElem?_set_self (by rw [spF_len _ _ _ (by omega)]; exact h)]
    unfold spF
    rw [List.getElem?_append_left (by simp), List.getElem?_replicate, if_pos (by omega)]
  · rw [List.getElem?_set_ne (fun q => e q.symm)]
    unfold spF
    by_cases q : j < i
    · rw [List.getElem?_append_left (by simpa using q), List.getElem?_append_left (by simp; omega), List.getElem?_replicate, List.getElem?_replicate, if_pos q, if_pos (by omega)]
    · rw [List.getElem?_append_right (by simp; omega), List.getElem?_append_right (by simp; omega), List.getElem?_drop, List.getElem?_drop]
      congr 1
      simp; omega
set_option maxHeartbeats 8000000 in
set_option maxRecDepth 100000 in
/-- A list of the call's own is written over and added to. -/
theorem spoil_any (base : Nat) (a : Option Addr) (n c : Nat) (fs : List Flt) (mk : Int) (w : World) (ho : OwnL w base (.slice a n c) fs) (hb : base ≤ w.heap.size) (hl : n ≤ 2199023255488) (h1 : -4611686018427387904 ≤ mk) (h2 : mk ≤ 4611686018427387904) :
    Calls Try.prog 27 #[.slice a n c, .int .i64 mk] w fun e w' => e = .returned (.int .i64 ((n : Int) + 64)) ∧ w.grownBy w' (Value.slice a n c).ownBlock := by
  have hneg : IntKind.i64.wrap (-mk) = -mk := by rw [IntKind.wrap_i64]; omega
  have hlen := ho.len.1
  have HLN := hide hlen
  have HO := hide ho
  clear ho hlen
  go_enter Try.func27, Try.ntmps27
  go_wp2_with fail
  go_loopw [5] (fun si wr => ∃ i : Nat, i ≤ n ∧ .int .i64 (i : Int) = si ∧ Hid (OwnL wr base (.slice a n c) (spF fs mk i)) ∧ Hid (w.grownBy wr (Value.slice a n c).ownBlock)) (fun si _ => n - (intOf si).toNat)
  case atStart => exact ⟨0, by omega, rfl, (by show OwnL _ _ _ _; unfold spF; simpa using HO.out), World.grownBy.refl _ _⟩
  case round =>
    clear HO
    obtain ⟨i, hi, rfl, HO, HG⟩ := hrel
    by_cases hin : i < n
    · have hii : (i : Int) < (n : Int) := by omega
      obtain ⟨g, rfl⟩ : ∃ g, a = some ⟨g, 0, none⟩ := by
        rcases HO.out.2 with ⟨q1, q2⟩ | ⟨g, cap, cur, q1, _⟩
        · rw [spF_len _ _ _ (by have := HLN.out; omega)] at q2; have := HLN.out; omega
        · simp only [Value.slice.injEq] at q1; exact ⟨g, q1.1⟩
      obtain ⟨hra, _, _⟩ := own_fa HO.out
      obtain ⟨d0, d1, d2, d3, d4, d5, d6, d7⟩ := hra.at8 i hin
      have z0 := hra.frozen (i * 8)
      have z1 := hra.frozen (i * 8 + 1)
      have z2 := hra.frozen (i * 8 + 2)
      have z3 := hra.frozen (i * 8 + 3)
      have z4 := hra.frozen (i * 8 + 4)
      have z5 := hra.frozen (i * 8 + 5)
      have z6 := hra.frozen (i * 8 + 6)
      have z7 := hra.frozen (i * 8 + 7)
      obtain ⟨w5, hw5⟩ : ∃ w5, ((((((((wr.setCell ⟨g, i * 8, none⟩ (.int .i64 mk)).setCell ⟨g, i * 8 + 1, none⟩ (.int .i64 0)).setCell ⟨g, i * 8 + 2, none⟩ (.int .i64 0)).setCell ⟨g, i * 8 + 3, none⟩ (.int .i64 0)).setCell ⟨g, i * 8 + 4, none⟩ (.int .i64 0)).setCell ⟨g, i * 8 + 5, none⟩ (.int .i64 0)).setCell ⟨g, i * 8 + 6, none⟩ (.int .i64 0)).setCell ⟨g, i * 8 + 7, none⟩ (.int .u32 0)) = w5 := ⟨_, rfl⟩
      have hw5' : set8 wr g (i * 8) (ovF mk) = w5 := hw5
      have HO5 : Hid (OwnL w5 base (.slice (some ⟨g, 0, none⟩) n c) (spF fs mk (i + 1))) := by
        rw [← hw5', ← spF_next fs mk i (by have := HLN.out; omega)]
        exact HO.out.put i hin (ovF mk)
      have HG5 : Hid (w.grownBy w5 (some g)) := by rw [← hw5']; exact grown_set8 HG.out _ _
      clear hra hw5'
      go_wp2_with fail
      go_roundw
      case rel => exact ⟨i + 1, by omega, by go_num, HO5, HG5⟩
      case measure => simp [intOf]; omega
    · obtain rfl : i = n := by omega
      have HOE : Hid (OwnL wr base (.slice a i c) (List.replicate i (ovF mk))) := by
        have h3 := HO.out
        unfold spF at h3
        rw [List.drop_of_length_le (by have := HLN.out; omega), List.append_nil] at h3
        exact h3
      go_wp2_with fail
      go_loopw [0, 6] (fun s0 si wq => ∃ (k : Nat) (v : Value) (rs' : List Flt), k ≤ 64 ∧ v = s0 ∧ .int .i64 (k : Int) = si ∧ Hid (rs'.length = i + k) ∧ Hid (OwnL wq base v rs') ∧ Hid (v.ownBlock = (Value.slice a i c).ownBlock ∨ ∀ j, v.ownBlock = some j → w.heap.size ≤ j) ∧ Hid (w.grownBy wq (Value.slice a i c).ownBlock)) (fun _ si _ => 64 - (intOf si).toNat)
      case atStart => exact ⟨0, _, List.replicate i (ovF mk), by omega, rfl, rfl, (by show _ = _; simp), HOE, .inl rfl, HG⟩
      case round =>
        clear HO HG HOE
        obtain ⟨k, v, rs1, hk, rfl, rfl, HLK, HO, HV, HG⟩ := hrel
        by_cases hk4 : k < 64
        · have hki : (k : Int) < 64 := by omega
          obtain ⟨g5, hg5⟩ : ∃ g, wr.heap.size = g := ⟨_, rfl⟩
          obtain ⟨w5, hw5⟩ : ∃ w5, wr.alloc (.cells #[.int .i64 (-mk), .int .i64 0, .int .i64 0, .int .i64 0, .int .i64 0, .int .i64 0, .int .i64 0, .int .u32 0] 25) = w5 := ⟨_, rfl⟩
          have HB5 : Hid (Below wr.heap.size wr w5) := by rw [← hw5]; exact (Below.refl _ _).alloc (Nat.le_refl _) _
          have HR5 : Hid (FB w5 g5 (ovF (-mk))) := by rw [← hw5, ← hg5]; exact heap_alloc_new _ _
          have HO5 := hide (HO.out.below HB5.out)
          have HG5 : Hid (w.grownBy w5 (Value.slice a i c).ownBlock) := grown_new HG.out (below_grown HB5.out) (fun j e => by cases e)
          go_wp2_with (at_builtin; refine pushFl _ rfl _ _ rfl base v rs1 rfl HO5.out g5 (ovF (-mk)) rfl (fb_at8 HR5.out) (by have := HLK.out; omega) (by have := HG5.out.size; omega) ?_; intro g6 c6 w6 ho6 hg6 hv6; have HO6 := hide ho6; have HV6 := hide hv6; have HG6 := hide hg6; clear ho6 hv6 hg6)
          go_roundw
          case rel =>
            have hsz : w.heap.size ≤ w5.heap.size := HG5.out.size
            refine ⟨k + 1, _, rs1 ++ [ovF (-mk)], by omega, rfl, by go_num, (by have := HLK.out; rw [List.length_append]; show _ = _; simp; omega), HO6, ?_, ?_⟩
            · rcases HV6.out with h | h
              · rcases HV.out with q | q
                · left; rw [← q, h]; rfl
                · right; intro j e; exact q j (h.trans e)
              · right; intro j e; have e2 := Option.some.inj e; simp only at e2; omega
            · refine ⟨HG6.out.os.trans HG5.out.os, HG6.out.tape.trans HG5.out.tape, HG6.out.output.trans HG5.out.output, Nat.le_trans hsz HG6.out.size, fun j hj hne => ?_⟩
              refine (HG6.out.block j (by omega) (fun e => ?_)).trans (HG5.out.block j hj hne)
              rcases HV.out with q | q
              · exact hne (by rw [← q]; exact e)
              · have := q j e.symm; omega
          case measure => simp [intOf]; omega
        · obtain rfl : k = 64 := by omega
          obtain ⟨va, vc, hv⟩ : ∃ va vc, v = .slice va (i + 64) vc := by obtain ⟨x, y, q, _⟩ := HO.out.shape; exact ⟨x, y, by rw [q, HLK.out]⟩
          subst hv
          go_wp2_with fail
          go_ret
          exact ⟨by simp, HG.out⟩
end Go.Proofs.Ytbmbhcjocgbbpaa.Fa
