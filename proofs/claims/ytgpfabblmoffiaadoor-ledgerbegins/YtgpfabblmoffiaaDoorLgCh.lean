/-
  A copy of a book with a task changed.
-/
import Derived.Test.YtgpfabblmoffiaaDoorLgCl
namespace Go.Proofs.YtgpfabblmoffiaaDoor.Lg
open Go.ChangeShapes Go.WideShapes Go.ChangeAt Go.RowKit
open Go.Proofs.YtgpfabblmoffiaaDoor.Base Go.Proofs.YtgpfabblmoffiaaDoor.Rf
set_option linter.unusedVariables false
theorem thr_kind {b : Bk} {K i : Int} (h : thr b K i = true) : 0 ≤ i ∧ i.toNat < (lst b K).length ∧ (K = 0 ∧ lst b K = b.m ∨ K = 1 ∧ lst b K = b.r) := by
  have h1 := of_decide_eq_true h
  refine ⟨h1.1, by omega, ?_⟩
  by_cases h0 : K = 0
  · exact .inl ⟨h0, by unfold lst; rw [if_pos h0]⟩
  · by_cases h2 : K = 1
    · exact .inr ⟨h2, by unfold lst; rw [if_neg h0, if_pos h2]⟩
    · have : lst b K = [] := by unfold lst; rw [if_neg h0, if_neg h2]
      rw [this] at h1
      simp at h1
      omega
theorem tsk_good {b : Bk} (h : Ok b) {K i : Int} (ht : thr b K i = true) : good (decide (K = 1)) b.t (tsk b K i) = true := by
  obtain ⟨h1, h2, h3⟩ := thr_kind ht
  unfold tsk
  rcases h3 with ⟨rfl, h3⟩ | ⟨rfl, h3⟩ <;> rw [h3] at h2 ⊢
  · exact h.gm _ h2
  · exact h.gr _ h2
/-- The list of a kind, as it lies. -/
theorem lst_at {b : Bk} {K i : Int} {a1 a2 : Option Addr} {n1 c1 n2 c2 : Nat} {w : World} (hr1 : RdT w a1 n1 b.m) (hr2 : RdT w a2 n2 b.r) (ht : thr b K i = true) : ∃ a n c, lstV K (.slice a1 n1 c1) (.slice a2 n2 c2) = .slice a n c ∧ RdT w a n (lst b K) ∧ i.toNat < n ∧ (∀ W : World, RdT W a1 n1 b.m → RdT W a2 n2 b.r → RdT W a n (lst b K)) := by
  obtain ⟨h1, h2, h3⟩ := thr_kind ht
  rcases h3 with ⟨rfl, h3⟩ | ⟨rfl, h3⟩
  · rw [h3] at h2 ⊢
    exact ⟨a1, n1, c1, rfl, hr1, by rw [← hr1.1]; exact h2, fun W h _ => h⟩
  · rw [h3] at h2 ⊢
    exact ⟨a2, n2, c2, rfl, hr2, by rw [← hr2.1]; exact h2, fun W _ h => h⟩
theorem Tab.kp {w w' : World} {S : Nat → Prop} (h : Tab w) (k : Kp S w w') (hS : ∀ i, S i → 2 ≤ i) : Tab w' :=
  Tab.low (B := 2) h (Nat.le_refl _) ⟨k.os, k.tape, k.output, by have := k.size; have := h.1; omega, fun i hi => k.block i (by have := h.1; omega) (fun e => by have := hS i e; omega)⟩ k.size
theorem ans_mono {w : World} {B B' E E' : Nat} {a1 : Option Addr} {n1 c1 : Nat} {M : List TS} {a2 : Option Addr} {n2 c2 : Nat} {R : List TS} (h : Ans w B E a1 n1 c1 M a2 n2 c2 R) (hb : B' ≤ B) (he : E ≤ E') : Ans w B' E' a1 n1 c1 M a2 n2 c2 R :=
  ⟨h.l1, h.l2, h.o1.mono hb, h.o2.mono hb, h.ne, fun i e => Nat.lt_of_lt_of_le (h.e1 i e) he, fun i e => Nat.lt_of_lt_of_le (h.e2 i e) he⟩
theorem bc_dr {w : World} {g : Nat} {t : Int} {v1 v2 : Value} {f : Bool} (h : BC w g t v1 v2 f) : BC w.drew g t v1 v2 f := h
theorem Kp.dr {S : Nat → Prop} {w w' : World} (h : Kp S w w') : Kp S w w'.drew := ⟨h.os, h.tape, h.output, h.size, h.block⟩
theorem kp_four (w : World) (g : Nat) (t : Int) (v1 v2 : Value) (f : Bool) : Kp (fun j => j = g) w (set4 w g t v1 v2 f) := (Kp.of_grown (grown_set4 w g t v1 v2 f)).mono (fun j e _ => (Option.some.inj e).symm)
theorem lists_end {b : Bk} {K : Int} {k : Nat} {wa : World} {B : Nat} {a3 a4 : Option Addr} {n1 n2 c3 c4 : Nat} (hkk : K = 0 ∧ lst b K = b.m ∨ K = 1 ∧ lst b K = b.r) (hl1 : b.m.length = n1) (hl2 : b.r.length = n2)
    (h3 : OwnT wa B (.slice a3 n1 c3) b.m) (h4 : OwnT wa B (.slice a4 n2 c4) b.r) (hne : ∀ i, (Value.slice a3 n1 c3).ownBlock = some i → (Value.slice a4 n2 c4).ownBlock = some i → False) (hk : k < (lst b K).length) :
    ∃ gc n cc, lstV K (.slice a3 n1 c3) (.slice a4 n2 c4) = .slice (some ⟨gc, 0, none⟩) n cc ∧ n = (lst b K).length ∧ TF wa B gc n cc (fun j => (lst b K).getD j z0) ∧ ∀ (W : World) (z : TS) (f' : Bool), TF W B gc n cc (setT (fun j => (lst b K).getD j z0) k z) → Kp (fun i => i = gc ∨ i < B) wa W → Ans W B W.heap.size a3 n1 c3 (put b K (k : Int) z f').m a4 n2 c4 (put b K (k : Int) z f').r := by
  have hset : ∀ (L : List TS) (z : TS) (N : Nat), L.length = N → k < N → ∀ j, j < N → setT (fun j => L.getD j z0) k z j = (L.set k z).getD j z0 := fun L z N hL hk j hj => by
    rw [get_set L k j z (by omega)]; rfl
  rcases hkk with ⟨rfl, hl⟩ | ⟨rfl, hl⟩
  · rw [hl] at hk ⊢
    obtain ⟨gc, c, e, -, -⟩ := OwnF.has h3 (by omega)
    have e1 : a3 = some ⟨gc, 0, none⟩ := by cases e; rfl
    subst e1
    refine ⟨gc, n1, c3, rfl, hl1.symm, OwnT.tf h3 hl1.symm, fun W z f' hT hK => ?_⟩
    have hp1 : (put b 0 (k : Int) z f').m = b.m.set k z := by simp [put]
    have hp2 : (put b 0 (k : Int) z f').r = b.r := by simp [put]
    rw [hp1, hp2]
    have o1 : OwnT W B (.slice (some ⟨gc, 0, none⟩) n1 c3) (b.m.set k z) := hT.own _ (by rw [List.length_set, hl1]) (hset b.m z n1 hl1 (by omega))
    have o2 := h4.kp hK (fun i e e2 => by
      rcases e2 with e2 | e2
      · exact hne i (by rw [e2]; rfl) e
      · have := (OwnF.lt h4 i e).1; omega)
    exact ⟨by rw [List.length_set]; exact hl1, hl2, o1, o2, hne, fun i e => (OwnF.lt o1 i e).2, fun i e => (OwnF.lt o2 i e).2⟩
  · rw [hl] at hk ⊢
    obtain ⟨gc, c, e, -, -⟩ := OwnF.has h4 (by omega)
    have e1 : a4 = some ⟨gc, 0, none⟩ := by cases e; rfl
    subst e1
    refine ⟨gc, n2, c4, rfl, hl2.symm, OwnT.tf h4 hl2.symm, fun W z f' hT hK => ?_⟩
    have hp1 : (put b 1 (k : Int) z f').m = b.m := by simp [put]
    have hp2 : (put b 1 (k : Int) z f').r = b.r.set k z := by simp [put]
    rw [hp1, hp2]
    have o1 : OwnT W B (.slice (some ⟨gc, 0, none⟩) n2 c4) (b.r.set k z) := hT.own _ (by rw [List.length_set, hl2]) (hset b.r z n2 hl2 (by omega))
    have o2 := h3.kp hK (fun i e e2 => by
      rcases e2 with e2 | e2
      · exact hne i e (by rw [e2]; rfl)
      · have := (OwnF.lt h3 i e).1; omega)
    exact ⟨hl1, by rw [List.length_set]; exact hl2, o2, o1, hne, fun i e => (OwnF.lt o2 i e).2, fun i e => (OwnF.lt o1 i e).2⟩
set_option maxHeartbeats 4000000 in
set_option maxRecDepth 100000 in
theorem changed_ok (b : Bk) (K i : Int) (ch : Nat) (a1 a2 : Option Addr) (n1 c1 n2 c2 fn : Nat) (caps : Array Value) (SC : Nat → Prop) (Pre Post : World → Prop) (y : TS) (w : World)
    (ht : Tab w) (hr1 : RdT w a1 n1 b.m) (hr2 : RdT w a2 n2 b.r) (hok : Ok b) (hth : thr b K i = true) (hch : ch < 5) (hf : b.f = false) (hal : aft ch (tsk b K i).s ≠ -1)
    (hni1 : a1 = none → n1 = 0 ∧ c1 = 0) (hni2 : a2 = none → n2 = 0 ∧ c2 = 0)
    (hcf : ∀ (args : Array Value) (W : World), (callFunc fn args).run Tryd.prog W = .ok (.enter fn args) W)
    (hact : Acts fn caps SC Pre Post (tsk b K i) y) (hpre : ∀ W, Below w.heap.size w W → Pre W) (hpost : ∀ W W' S, Post W → Kp S W W' → (∀ i, S i → ¬ SC i) → Post W') (hSC : ∀ i, SC i → 2 ≤ i ∧ i < w.heap.size) (hys : y.s = (tsk b K i).s) :
    Calls Tryd.prog 39 #[.agg #[.int .i64 b.t, .slice a1 n1 c1, .slice a2 n2 c2, .bool b.f], .agg #[.int .i64 K, .int .i64 i], .int .i64 (ch : Int), .func (.func fn) #[] caps] w fun e w' => ∃ a3 c3 a4 c4, e = .returned (.tuple #[.agg #[.int .i64 b.t, .slice a3 n1 c3, .slice a4 n2 c4, .bool (decide (y.c = b.t))], .int .i64 0]) ∧ Ans w' w.heap.size w'.heap.size a3 n1 c3 (put b K i ⟨aft ch (tsk b K i).s, y.a, y.c⟩ (decide (y.c = b.t))).m a4 n2 c4 (put b K i ⟨aft ch (tsk b K i).s, y.a, y.c⟩ (decide (y.c = b.t))).r ∧ Kp SC w w' ∧ Post w' := by
  have hgd := good_small (tsk_good hok hth) hok.t2
  have HTA := hide ht
  have HR1 := hide hr1
  have HR2 := hide hr2
  have HSC := hide hSC
  obtain ⟨a, n, c, hlv, hrl, hin, hrw⟩ := lst_at (c1 := c1) (c2 := c2) hr1 hr2 hth
  obtain ⟨h0i, hlt, hkk⟩ := thr_kind hth
  obtain ⟨k, rfl⟩ : ∃ k : Nat, i = (k : Int) := ⟨i.toNat, by omega⟩
  rw [Int.toNat_natCast] at hin hlt
  have hTK : tsk b K (k : Int) = (lst b K).getD k z0 := by unfold tsk; rw [Int.toNat_natCast]
  obtain ⟨bb, oo, rfl, -⟩ := hrl.at k hin
  have HRW := hide hrw
  have HLV := hide hlv
  have HKK := hide hkk
  clear ht hr1 hr2 hrl hrw hlv hkk hSC
  obtain ⟨w1, hw1⟩ : ∃ w1, w.alloc (.cells #[.int .i64 b.t, .slice a1 n1 c1, .slice a2 n2 c2, .bool b.f] 26) = w1 := ⟨_, rfl⟩
  have HB1 : Hid (Below w.heap.size w w1) := by rw [← hw1]; exact (Below.refl _ _).alloc (Nat.le_refl _) _
  have hC1 : BC w1 w.heap.size b.t (.slice a1 n1 c1) (.slice a2 n2 c2) b.f := by rw [← hw1]; exact bc_new _ _ _ _ _
  obtain ⟨w2, hw2⟩ : ∃ w2, w1.alloc (.cells #[.int .i64 K, .int .i64 (k : Int)] 37) = w2 := ⟨_, rfl⟩
  have hb2 : Below w1.heap.size w1 w2 := by rw [← hw2]; exact (Below.refl _ _).alloc (Nat.le_refl _) _
  have hC2 : w2.heap[w1.heap.size]? = some (.cells #[.int .i64 K, .int .i64 (k : Int)] 37) := by rw [← hw2]; exact heap_alloc_new _ _
  obtain ⟨w3, hw3⟩ : ∃ w3, w2.alloc (.cells #[.int .i64 0, .slice none 0 0, .slice none 0 0, .bool false] 26) = w3 := ⟨_, rfl⟩
  have hb3 : Below w2.heap.size w2 w3 := by rw [← hw3]; exact (Below.refl _ _).alloc (Nat.le_refl _) _
  have hC3 : BC w3 w2.heap.size 0 (.slice none 0 0) (.slice none 0 0) false := by rw [← hw3]; exact bc_new _ _ _ _ _
  have HB3 : Hid (Below w.heap.size w w3) := below_trans HB1.out (below_trans hb2 hb3)
  have HC1 := hide ((hC1.below hb2).below hb3)
  have hq1 : w1.heap.size < w2.heap.size := (Array.getElem?_eq_some_iff.1 hC2).1
  have HC2 : Hid (w3.heap[w1.heap.size]? = some (.cells #[.int .i64 K, .int .i64 (k : Int)] 37)) := (hb3.block _ hq1).trans hC2
  have HC3 := hide hC3
  have HLT : Hid (w.heap.size < w1.heap.size ∧ w1.heap.size < w2.heap.size ∧ w2.heap.size < w3.heap.size) := ⟨hC1.lt, hq1, hC3.lt⟩
  clear hC1 hC2 hC3 hb2 hb3 hq1
  obtain ⟨g, hg⟩ : ∃ g, w.heap.size = g := ⟨_, rfl⟩
  obtain ⟨q, hq⟩ : ∃ q, w1.heap.size = q := ⟨_, rfl⟩
  obtain ⟨r, hr⟩ : ∃ r, w2.heap.size = r := ⟨_, rfl⟩
  rw [hg] at HC1
  rw [hq] at HC2
  rw [hr] at HC3
  have HGQ : Hid (w.heap.size = g ∧ g < q ∧ q < r ∧ r < w3.heap.size) := by
    obtain ⟨l1, l2, l3⟩ := HLT.out
    exact ⟨hg, by omega, by omega, by omega⟩
  have HSX : Hid (∀ W, Below w3.heap.size w3 W → (W.cell? ⟨g, 0, none⟩ = some (.int .i64 b.t) ∧ W.cell? ⟨g, 1, none⟩ = some (.slice a1 n1 c1) ∧ W.cell? ⟨g, 2, none⟩ = some (.slice a2 n2 c2) ∧ W.cell? ⟨g, 3, none⟩ = some (.bool b.f)) ∧ (W.cell? ⟨q, 0, none⟩ = some (.int .i64 K) ∧ W.cell? ⟨q, 1, none⟩ = some (.int .i64 (k : Int))) ∧ (W.cell? ⟨bb, oo + k * 3, none⟩ = some (.int .i64 (tsk b K (k : Int)).s) ∧ W.cell? ⟨bb, oo + k * 3 + 1, none⟩ = some (.int .i64 (tsk b K (k : Int)).a) ∧ W.cell? ⟨bb, oo + k * 3 + 2, none⟩ = some (.int .i64 (tsk b K (k : Int)).c))) := fun W hW => by
    have hqW : W.heap[q]? = some (.cells #[.int .i64 K, .int .i64 (k : Int)] 37) := (hW.block q (by have := HGQ.out; omega)).trans HC2.out
    have hb := below_trans HB3.out hW
    obtain ⟨b', o', e', -, e0, e1, e2⟩ := (HRW.out W (HR1.out.below hb) (HR2.out.below hb)).at k hin
    cases e'
    rw [← hTK] at e0 e1 e2
    exact ⟨bc_cells HC1.out hW, ⟨by rw [cell_of_row _ _ _ _ _ _ hqW]; rfl, by rw [cell_of_row _ _ _ _ _ _ hqW]; rfl⟩, e0, e1, e2⟩
  have HLO : Hid (∀ W, Calls Tryd.prog 65 #[.agg #[.int .i64 b.t, .slice a1 n1 c1, .slice a2 n2 c2, .bool b.f], .int .i64 K] W fun e w' => e = .returned (.slice (some ⟨bb, oo, none⟩) n c) ∧ Below W.heap.size W w') := fun W => by
    rw [← HLV.out]; exact listOf_any b.t K _ _ b.f W
  have HIA : Hid (∀ W, Below w.heap.size w W → Calls Tryd.prog 37 #[.int .i64 (ch : Int), .agg #[.int .i64 (tsk b K (k : Int)).s, .int .i64 (tsk b K (k : Int)).a, .int .i64 (tsk b K (k : Int)).c]] W fun e w' => e = .returned (.bool true) ∧ Below W.heap.size W w') := fun W hW => by
    have h := isAllowed_any ch (tsk b K (k : Int)) W (HTA.out.below hW) hch ⟨hgd.1, hgd.2.1⟩
    rwa [show (aft ch (tsk b K (k : Int)).s != -1) = true by simpa using hal] at h
  have HFN := hide hf
  have hki : (k : Int) < (n : Int) := by omega
  generalize hxx : tsk b K (k : Int) = x at *
  obtain ⟨xs, xa, xc⟩ := x
  obtain ⟨ys, ya, yc⟩ := y
  simp only at HSX HIA hys hgd hal ⊢
  subst hys
  have HXX := hide hxx
  obtain ⟨⟨x0, x1, x2, x3⟩, ⟨q0, q1⟩, e0, e1, e2⟩ := HSX.out w3 (Below.refl _ _)
  generalize hbf : b.f = F at *
  subst hf
  have HLEN : Hid (n1 ≤ 256 ∧ n2 ≤ 65535) := ⟨by rw [← HR1.out.1]; exact hok.m, by rw [← HR2.out.1]; exact hok.r2⟩
  have HCL1 : Hid (∀ W, Below w.heap.size w W → Calls Tryd.prog 66 #[.slice a1 n1 c1] W fun e w' => ∃ a' c', e = .returned (.slice a' n1 c') ∧ OwnT w' W.heap.size (.slice a' n1 c') b.m ∧ (a' = none → n1 = 0 ∧ c' = 0) ∧ (∀ ad, a' = some ad → ad.off = 0 ∧ ad.spot = none) ∧ Below W.heap.size W w') := fun W hW => cloneT_any a1 n1 c1 b.m W (HR1.out.below hW) hni1 (by have := HLEN.out; omega)
  have HCL2 : Hid (∀ W, Below w.heap.size w W → Calls Tryd.prog 66 #[.slice a2 n2 c2] W fun e w' => ∃ a' c', e = .returned (.slice a' n2 c') ∧ OwnT w' W.heap.size (.slice a' n2 c') b.r ∧ (a' = none → n2 = 0 ∧ c' = 0) ∧ (∀ ad, a' = some ad → ad.off = 0 ∧ ad.spot = none) ∧ Below W.heap.size W w') := fun W hW => cloneT_any a2 n2 c2 b.r W (HR2.out.below hW) hni2 (by have := HLEN.out; omega)
  have HPRE := hide hpre
  have HPOST := hide hpost
  have HACT := hide hact
  have HHC := hide hcf
  clear hxx hTK hpre hpost hact hcf hni1 hni2
  go_enter Tryd.func39, Tryd.ntmps39
  go_wp2_with fail
  go_region_held (fun V => (V.cell? ⟨g, 0, none⟩ = some (.int .i64 b.t) ∧ V.cell? ⟨g, 1, none⟩ = some (.slice a1 n1 c1) ∧ V.cell? ⟨g, 2, none⟩ = some (.slice a2 n2 c2) ∧ V.cell? ⟨g, 3, none⟩ = some (.bool false)) ∧ (V.cell? ⟨q, 0, none⟩ = some (.int .i64 K) ∧ V.cell? ⟨q, 1, none⟩ = some (.int .i64 (k : Int))) ∧ (V.cell? ⟨bb, oo + k * 3, none⟩ = some (.int .i64 ys) ∧ V.cell? ⟨bb, oo + k * 3 + 1, none⟩ = some (.int .i64 xa) ∧ V.cell? ⟨bb, oo + k * 3 + 2, none⟩ = some (.int .i64 xc))) (first | go_keep | exact E8.out | exact E9.out) (first
    | (go_at_call 65; refine (HLO.out _).mono ?_; rintro e w6 ⟨rfl, hb6⟩; have HB6 : Hid (Below w3.heap.size w3 w6) := hide ((Below.refl _ _).drew.trans hb6); have E8 := hide (HSX.out _ HB6.out); clear hb6)
    | (go_at_call 37; refine (HIA.out _ (below_trans HB3.out HB6.out)).mono ?_; rintro e w7 ⟨rfl, hb7⟩; have HB7 := hide (below_trans HB6.out hb7); have E9 := hide (HSX.out _ HB7.out); clear hb7))
  clear hw1 hw2 hw3 hg hq hr x0 x1 x2 x3 q0 q1 e0 e1 e2 HLO HIA
  obtain ⟨⟨x0, x1, x2, x3⟩, ⟨q0, q1⟩, e0, e1, e2⟩ := E9.out
  go_wp2_with fail
  go_region_with (first
    | (go_at_call 66; refine (HCL1.out _ (below_trans HB3.out HB7.out).drew).mono ?_; clear HCL1; rintro e w8 ⟨a3, c3, rfl, ho8, hn8, hs8, hb8⟩; have HO8 := hide ho8; have HN8 := hide hn8; have HS8 := hide hs8; have HB78 := hide ((Below.refl _ _).drew.trans hb8); have HB8 := hide (below_trans HB7.out HB78.out); clear ho8 hn8 hs8 hb8 x0 x1 x2 x3 q0 q1 e0 e1 e2; obtain ⟨⟨x0, x1, x2, x3⟩, ⟨q0, q1⟩, e0, e1, e2⟩ := HSX.out w8 HB8.out)
    | (go_at_call 66; refine (HCL2.out _ (below_trans HB3.out HB8.out)).mono ?_; clear HCL2; rintro e w9 ⟨a4, c4, rfl, ho9, hn9, hs9, hb9⟩; have HO9 := hide ho9; have HN9 := hide hn9; have HS9 := hide hs9; have HB89 := hide hb9; have HB9 := hide (below_trans HB8.out hb9); clear ho9 hn9 hs9 hb9 x0 x1 x2 x3 q0 q1 e0 e1 e2; obtain ⟨⟨x0, x1, x2, x3⟩, ⟨q0, q1⟩, e0, e1, e2⟩ := HSX.out w9 HB9.out; have xf1 := (HC1.out.below HB9.out).fz 1; have xf2 := (HC1.out.below HB9.out).fz 2))
  all_goals
    clear x0 x1 x2 x3 q0 q1 e0 e1 e2 xf1 xf2
    obtain ⟨wa, hwa⟩ : ∃ wa, (w9.setCell ⟨g, 1, none⟩ (.slice a3 n1 c3)).setCell ⟨g, 2, none⟩ (.slice a4 n2 c4) = wa := ⟨_, rfl⟩
    rw [hwa]
    have HCA : Hid (BC wa g b.t (.slice a3 n1 c3) (.slice a4 n2 c4) false) := by rw [← hwa]; exact ((HC1.out.below HB9.out).set1 _).set2 _
    have HKA : Hid (Kp (fun i => i = g) w9 wa) := by rw [← hwa]; exact (kp_cell w9 g 1 _).trans (kp_cell _ g 2 _) (fun i e _ => e)
    clear hwa
    have HQA : Hid (wa.heap[q]? = some (.cells #[.int .i64 K, .int .i64 (k : Int)] 37)) := (HKA.out.block q (by have := HGQ.out; have := HB9.out.size; omega) (by have := HGQ.out; omega)).trans ((HB9.out.block q (by have := HGQ.out; omega)).trans HC2.out)
    have HRA := hide ((HC3.out.below HB9.out).kp HKA.out (by have := HGQ.out; omega))
    have HB7S : Hid (w3.heap.size ≤ w7.drew.heap.size) := HB7.out.drew.size
    have HS9' : Hid (w3.heap.size ≤ w8.heap.size) := HB8.out.size
    have HOA3 : Hid (OwnT wa w3.heap.size (.slice a3 n1 c3) b.m) := ((HO8.out.below HB89.out).kp HKA.out (fun i e e2 => by have := (OwnF.lt HO8.out i e).1; have := HGQ.out; have := HB7S.out; omega)).mono HB7S.out
    have HOA4 : Hid (OwnT wa w3.heap.size (.slice a4 n2 c4) b.r) := (HO9.out.kp HKA.out (fun i e e2 => by have := (OwnF.lt HO9.out i e).1; have := HGQ.out; have := HS9'.out; omega)).mono HS9'.out
    have hne : ∀ i, (Value.slice a3 n1 c3).ownBlock = some i → (Value.slice a4 n2 c4).ownBlock = some i → False := fun i e e2 => by
      have h1 := (OwnF.lt HO8.out i e).2
      have h2 := (OwnF.lt HO9.out i e2).1
      omega
    obtain ⟨gc, N, cc, hlv, hN, hTF, hend⟩ := lists_end (k := k) HKK.out HR1.out.1 HR2.out.1 HOA3.out HOA4.out hne hlt
    have HTF := hide hTF
    have HEND := hide hend
    have HLV2 := hide hlv
    have HNN := hide hN
    have HBA : Hid (Below w.heap.size w wa) := HKA.out.below (below_trans HB3.out HB9.out) (fun i e => by have := HGQ.out; omega) (by have := HB9.out.size; have := HB3.out.size; omega)
    have HWA : Hid (w3.heap.size ≤ wa.heap.size) := by have := HB9.out.size; have := HKA.out.size; show _ ≤ _; omega
    have hkN : (k : Int) < (N : Int) := by rw [hN]; omega
    have hkN2 : k < N := by omega
    clear hne hTF hend hlv hN
    have HSA : Hid (∀ W, Below wa.heap.size wa W → (W.cell? ⟨g, 0, none⟩ = some (.int .i64 b.t) ∧ W.cell? ⟨g, 1, none⟩ = some (.slice a3 n1 c3) ∧ W.cell? ⟨g, 2, none⟩ = some (.slice a4 n2 c4) ∧ W.cell? ⟨g, 3, none⟩ = some (.bool false)) ∧ (W.cell? ⟨q, 0, none⟩ = some (.int .i64 K) ∧ W.cell? ⟨q, 1, none⟩ = some (.int .i64 (k : Int)))) := fun W hW => by
      have hqW : W.heap[q]? = some (.cells #[.int .i64 K, .int .i64 (k : Int)] 37) := (hW.block q (Array.getElem?_eq_some_iff.1 HQA.out).1).trans HQA.out
      exact ⟨bc_cells HCA.out hW, by rw [cell_of_row _ _ _ _ _ _ hqW]; rfl, by rw [cell_of_row _ _ _ _ _ _ hqW]; rfl⟩
    have HLO : Hid (∀ W, Calls Tryd.prog 65 #[.agg #[.int .i64 b.t, .slice a3 n1 c3, .slice a4 n2 c4, .bool false], .int .i64 K] W fun e w' => e = .returned (.slice (some ⟨gc, 0, none⟩) N cc) ∧ Below W.heap.size W w') := fun W => by
      rw [← HLV2.out]; exact listOf_any b.t K _ _ false W
    obtain ⟨⟨x0, x1, x2, x3⟩, q0, q1⟩ := HSA.out wa (Below.refl _ _)
    clear HSX E8 E9
    go_wp2_with fail
    go_region_held (fun V => (V.cell? ⟨g, 0, none⟩ = some (.int .i64 b.t) ∧ V.cell? ⟨g, 1, none⟩ = some (.slice a3 n1 c3) ∧ V.cell? ⟨g, 2, none⟩ = some (.slice a4 n2 c4) ∧ V.cell? ⟨g, 3, none⟩ = some (.bool false)) ∧ (V.cell? ⟨q, 0, none⟩ = some (.int .i64 K) ∧ V.cell? ⟨q, 1, none⟩ = some (.int .i64 (k : Int)))) (first | go_keep | exact E10.out) (first
      | (go_at_call 65; refine (HLO.out _).mono ?_; rintro e w10 ⟨rfl, hb10⟩; have HB10 : Hid (Below wa.heap.size wa w10) := hide ((Below.refl _ _).drew.trans hb10); have E10 := hide (HSA.out _ HB10.out); clear hb10))
    have HB10w : Hid (Below w.heap.size w w10) := below_trans HBA.out HB10.out
    have HGC : Hid (w3.heap.size ≤ gc) := HTF.out.lt.1
    have HNS : Hid (¬ SC gc) := fun e => by have := (HSC.out gc e).2; have := HGQ.out; have := HGC.out; omega
    have HF0 : Hid ((fun j => (lst b K).getD j z0) k = ⟨ys, xa, xc⟩) := by
      have h := HXX.out
      unfold tsk at h
      rw [Int.toNat_natCast] at h
      exact h
    have HAC := hide (HACT.out w10 gc N cc k w3.heap.size _ (HPRE.out _ HB10w.out) (HTF.out.below HB10.out) hkN2 HF0.out HNS.out)
    have hcf := HHC.out
    clear x0 x1 x2 x3 q0 q1 E10 HLO
    go_wp2_with fail
    refine HAC.out.mono ?_
    clear hcf
    rintro e w11 ⟨rfl, hT11, hK11, hP11⟩
    have HT11 := hide hT11
    have HK11 := hide hK11
    have HP11 := hide hP11
    have HTA11 := hide ((HTA.out.below HB10w.out).kp hK11 (fun i e => by
      rcases e with e | e
      · have := HGC.out; have := HGQ.out; have := HTA.out.1; omega
      · exact (HSC.out i e).1))
    have HCG11 : Hid (BC w11 g b.t (.slice a3 n1 c3) (.slice a4 n2 c4) false) := (HCA.out.below HB10.out).kp hK11 (fun e => by
      rcases e with e | e
      · have := HGC.out; have := HGQ.out; omega
      · have := (HSC.out _ e).2; have := HGQ.out; omega)
    have HCR11 : Hid (BC w11 r 0 (.slice none 0 0) (.slice none 0 0) false) := (HRA.out.below HB10.out).kp hK11 (fun e => by
      rcases e with e | e
      · have := HGC.out; have := HGQ.out; omega
      · have := (HSC.out _ e).2; have := HGQ.out; omega)
    clear hT11 hK11 hP11
    have hyk : setT (fun j => (lst b K).getD j z0) k ⟨ys, ya, yc⟩ k = ⟨ys, ya, yc⟩ := by unfold setT; rw [if_pos rfl]
    obtain ⟨e0, e1, e2⟩ := HT11.out.at k hkN2
    rw [hyk] at e0 e1 e2
    have f0 := HT11.out.fz (k * 3)
    obtain ⟨s, hs⟩ : ∃ s : Nat, ys = (s : Int) := ⟨ys.toNat, by omega⟩
    have hs4 : s < 4 := by omega
    have t0 := HTA11.out.2.2 (ch * 4 + s) (by omega)
    have hA : afterC.getD (ch * 4 + s) 0 = aft ch ys := by unfold aft; rw [hs, show 4 * ((ch : Nat) : Int).toNat + ((s : Nat) : Int).toNat = ch * 4 + s by omega]
    rw [hA] at t0
    obtain ⟨R, hR⟩ : ∃ R, aft ch ys = R := ⟨_, rfl⟩
    rw [hR] at t0
    have HRQ := hide hR
    obtain ⟨w12, hw12⟩ : ∃ w12, w11.setCell ⟨gc, k * 3, none⟩ (.int .i64 R) = w12 := ⟨_, rfl⟩
    have HK12 : Hid (Kp (fun i => i = gc) w11 w12) := by rw [← hw12]; exact kp_cell w11 gc (k * 3) _
    have HT12 : Hid (TF w12 w3.heap.size gc N cc (setT (fun j => (lst b K).getD j z0) k ⟨R, ya, yc⟩)) := by
      rw [← hw12]
      have h := HT11.out.setS k hkN2 R
      rw [hyk, setT_twice] at h
      exact h
    have HCG12 : Hid (BC w12 g b.t (.slice a3 n1 c3) (.slice a4 n2 c4) false) := HCG11.out.kp HK12.out (fun e => by have := HGC.out; have := HGQ.out; omega)
    have HCR12 : Hid (BC w12 r 0 (.slice none 0 0) (.slice none 0 0) false) := HCR11.out.kp HK12.out (fun e => by have := HGC.out; have := HGQ.out; omega)
    have hyk2 : setT (fun j => (lst b K).getD j z0) k ⟨R, ya, yc⟩ k = ⟨R, ya, yc⟩ := by unfold setT; rw [if_pos rfl]
    have d2 := (HT12.out.at k hkN2).2.2
    rw [hyk2] at d2
    have b0 := HCG12.out.c0
    have b3 := HCG12.out.c3
    have bz := HCG12.out.fz 3
    obtain ⟨D, hD⟩ : ∃ D, (yc == b.t) = D := ⟨_, rfl⟩
    have HDD : Hid (decide (yc = b.t) = D) := by show _ = _; rw [← hD]; by_cases h : yc = b.t <;> simp [h]
    obtain ⟨w13, hw13⟩ : ∃ w13, w12.setCell ⟨g, 3, none⟩ (.bool D) = w13 := ⟨_, rfl⟩
    have HK13 : Hid (Kp (fun i => i = g) w12 w13) := by rw [← hw13]; exact kp_cell w12 g 3 _
    have HCG13 : Hid (BC w13 g b.t (.slice a3 n1 c3) (.slice a4 n2 c4) D) := by rw [← hw13]; exact HCG12.out.set3 D
    have HCR13 : Hid (BC w13 r 0 (.slice none 0 0) (.slice none 0 0) false) := HCR12.out.kp HK13.out (fun e => by have := HGQ.out; omega)
    have HT13 := hide (HT12.out.kp HK13.out (fun e => by have := HGC.out; have := HGQ.out; omega))
    have v0 := HCG13.out.c0
    have v1 := HCG13.out.c1
    have v2 := HCG13.out.c2
    have v3 := HCG13.out.c3
    have r0 := HCR13.out.c0
    have r1 := HCR13.out.c1
    have r2 := HCR13.out.c2
    have r3 := HCR13.out.c3
    have rz0 := HCR13.out.fz 0
    have rz1 := HCR13.out.fz 1
    have rz2 := HCR13.out.fz 2
    have rz3 := HCR13.out.fz 3
    subst hs
    have hsi : (s : Int) < 4 := by omega
    have hci : (ch : Int) < 5 := by omega
    clear hA hR hyk hyk2
    go_wp2_with fail
    go_region
    all_goals go_wp2_with fail
    all_goals go_region
    all_goals go_wp2_with fail
    all_goals
      have hk14 := kp_four w13 r b.t (.slice a3 n1 c3) (.slice a4 n2 c4) D
      have hT14 := HT13.out.kp hk14 (fun e => by have := HGC.out; have := HGQ.out; omega)
      have hx := HGC.out
      have hy := HGQ.out
      have hA : Kp (fun i => i = gc ∨ i < w3.heap.size) wa (set4 w13 r b.t (.slice a3 n1 c3) (.slice a4 n2 c4) D) :=
        ((((Kp.of_below HB10.out).trans HK11.out (fun i e _ => by
          rcases e with e | e
          · exact .inl e
          · have := (HSC.out i e).2; exact .inr (by omega))).trans HK12.out (fun i e _ => .inl e)).trans HK13.out (fun i e _ => .inr (by omega))).trans hk14 (fun i e _ => .inr (by omega))
      have hWK : Kp SC w (set4 w13 r b.t (.slice a3 n1 c3) (.slice a4 n2 c4) D) :=
        ((((Kp.of_below HB10w.out).trans HK11.out (fun i e hi => by
          rcases e with e | e
          · omega
          · exact e)).trans HK12.out (fun i e hi => by omega)).trans HK13.out (fun i e hi => by omega)).trans hk14 (fun i e hi => by omega)
      have hWP : Post (set4 w13 r b.t (.slice a3 n1 c3) (.slice a4 n2 c4) D).drew.drew := HPOST.out w11 _ (fun i => i = gc ∨ i = g ∨ i = r) HP11.out (Kp.dr (Kp.dr (((HK12.out.mono (fun i e _ => .inl e)).trans HK13.out (fun i e _ => .inr (.inl e))).trans hk14 (fun i e _ => .inr (.inr e))))) (fun i e e2 => by
        have := (HSC.out i e2).2
        rcases e with e | e | e <;> omega)
      refine bodyPost_ret (bc_ret2 rfl _ _ r b.t _ _ D rfl (bc_dr (bc_dr (HCR13.out.set4 b.t (.slice a3 n1 c3) (.slice a4 n2 c4) D)))) rfl ?_
      have hE := HEND.out (set4 w13 r b.t (.slice a3 n1 c3) (.slice a4 n2 c4) D).drew.drew ⟨R, ya, yc⟩ D hT14 (Kp.dr (Kp.dr hA))
      rw [HDD.out, HRQ.out]
      exact ⟨_, _, _, _, rfl, ans_mono hE HB3.out.size (Nat.le_refl _), Kp.dr (Kp.dr hWK), hWP⟩
end Go.Proofs.YtgpfabblmoffiaaDoor.Lg
