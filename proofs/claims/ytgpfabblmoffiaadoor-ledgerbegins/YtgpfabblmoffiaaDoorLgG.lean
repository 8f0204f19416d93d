/-
  States by a function of the index, written over; roomy and given books.
-/
import Derived.Test.YtgpfabblmoffiaaDoorLgK
import Derived.Test.YtgpfabblmoffiaaDoorRowF2
namespace Go.Proofs.YtgpfabblmoffiaaDoor.Lg
open Go.ChangeShapes Go.WideShapes Go.ChangeAt Go.RowKit
open Go.Proofs.YtgpfabblmoffiaaDoor.Base Go.Proofs.YtgpfabblmoffiaaDoor.Rf
set_option linter.unusedVariables false
/-- The block g, of the call's own, holds N states and more. -/
def TF (w : World) (base g N C : Nat) (F : Nat → TS) : Prop := OwnF w base 43 3 (.slice (some ⟨g, 0, none⟩) N C) N (fun k => tv (F k))
theorem tv_len (F : Nat → TS) (k : Nat) : ((fun k => tv (F k)) k).length = 3 := rfl
theorem TF.lt {w : World} {base g N C : Nat} {F : Nat → TS} (h : TF w base g N C F) : base ≤ g ∧ g < w.heap.size := OwnF.lt h g rfl
theorem TF.below {w w' : World} {base g N C : Nat} {F : Nat → TS} (h : TF w base g N C F) (hb : Below w.heap.size w w') : TF w' base g N C F := OwnF.below h hb
theorem TF.kp {w w' : World} {base g N C : Nat} {F : Nat → TS} {S : Nat → Prop} (h : TF w base g N C F) (k : Kp S w w') (hS : ¬ S g) : TF w' base g N C F := OwnF.kp h k (fun i e => by cases e; exact hS)
theorem TF.congr {w : World} {base g N C : Nat} {F G : Nat → TS} (h : TF w base g N C F) (e : ∀ k, k < N → F k = G k) : TF w base g N C G := OwnF.congr h (fun k hk => by show tv (F k) = tv (G k); rw [e k hk])
theorem TF.at {w : World} {base g N C : Nat} {F : Nat → TS} (h : TF w base g N C F) (k : Nat) (hk : k < N) : w.cell? ⟨g, k * 3, none⟩ = some (.int .i64 (F k).s) ∧ w.cell? ⟨g, k * 3 + 1, none⟩ = some (.int .i64 (F k).a) ∧ w.cell? ⟨g, k * 3 + 2, none⟩ = some (.int .i64 (F k).c) :=
  ⟨OwnF.cellAt h (tv_len F) k 0 _ hk (by omega) rfl, OwnF.cellAt h (tv_len F) k 1 _ hk (by omega) rfl, OwnF.cellAt h (tv_len F) k 2 _ hk (by omega) rfl⟩
theorem TF.fz {w : World} {base g N C : Nat} {F : Nat → TS} (h : TF w base g N C F) (i : Nat) : w.frozen? ⟨g, i, none⟩ = false := OwnF.frozenAt h i
/-- One state in place of another. -/
def setT (F : Nat → TS) (k : Nat) (x : TS) (j : Nat) : TS := if j = k then x else F j
/-- The three cells of a state written over. -/
def set3 (w : World) (g o : Nat) (x : TS) : World := ((w.setCell ⟨g, o, none⟩ (.int .i64 x.s)).setCell ⟨g, o + 1, none⟩ (.int .i64 x.a)).setCell ⟨g, o + 2, none⟩ (.int .i64 x.c)
theorem grown_set3 (w : World) (g o : Nat) (x : TS) : w.grownBy (set3 w g o x) (some g) := by
  unfold set3
  exact grown_trans (grown_trans (grown_set w g o _) (grown_set _ g (o + 1) _)) (grown_set _ g (o + 2) _)
theorem TF.set {w : World} {base g N C : Nat} {F : Nat → TS} (h : TF w base g N C F) (k : Nat) (x : TS) (hk : k < N) : TF (set3 w g (k * 3) x) base g N C (setT F k x) := by
  obtain ⟨h1, -⟩ := OwnF.store h (tv_len F) k 0 (.int .i64 x.s) hk (by omega)
  rw [Nat.add_zero] at h1
  have l1 := setF_len (tv_len F) k (((fun k => tv (F k)) k).set 0 (.int .i64 x.s)) rfl
  obtain ⟨h2, -⟩ := h1.store l1 k 1 (.int .i64 x.a) hk (by omega)
  have l2 := setF_len l1 k ((setF (fun k => tv (F k)) k (((fun k => tv (F k)) k).set 0 (.int .i64 x.s)) k).set 1 (.int .i64 x.a)) (by rw [List.length_set]; exact l1 k)
  obtain ⟨h3, -⟩ := h2.store l2 k 2 (.int .i64 x.c) hk (by omega)
  refine OwnF.congr h3 (fun i hi => ?_)
  unfold setF setT
  by_cases e : i = k
  · rw [if_pos e, if_pos rfl, if_pos rfl, if_pos e]; rfl
  · rw [if_neg e, if_neg e, if_neg e, if_neg e]
/-- What the slice reads as: L. -/
theorem TF.rdt {w : World} {base g N C : Nat} {F : Nat → TS} (h : TF w base g N C F) (L : List TS) (n : Nat) (hl : L.length = n) (hn : n ≤ N) (h2 : n ≤ 4611686018427387904) (e : ∀ k, k < n → F k = L.getD k z0) : RdT w (some ⟨g, 0, none⟩) n L := by
  refine ⟨hl, h2, fun hp => ⟨g, 0, rfl, h.lt.2, fun k j u hk hu hj => ?_⟩⟩
  rw [Nat.zero_add]
  refine OwnF.cellAt h (tv_len F) k j u (by omega) hj ?_
  show (tv (F k))[j]? = _
  rw [e k hk]
  exact hu
theorem TF.own {w : World} {base g N C : Nat} {F : Nat → TS} (h : TF w base g N C F) (L : List TS) (hl : L.length = N) (e : ∀ k, k < N → F k = L.getD k z0) : OwnT w base (.slice (some ⟨g, 0, none⟩) N C) L := by
  unfold OwnT
  rw [hl]
  exact OwnF.congr h (fun k hk => by show tv (F k) = tf L k; unfold tf; rw [e k hk])
theorem OwnT.tf {w : World} {base g N C : Nat} {L : List TS} (h : OwnT w base (.slice (some ⟨g, 0, none⟩) N C) L) (hn : N = L.length) : TF w base g N C (fun k => L.getD k z0) := by
  subst hn; exact h
theorem infoT : (Tryd.prog.info? 43).map (fun i => (i.zero, i.size, i.bytes)) = some (some (.agg #[.int .i64 0, .int .i64 0, .int .i64 0]), 3, 24) := by kernel_rfl
def mk1 : TS := ⟨7001, 5, 0⟩
/-- A list with 64 marks in its spare room. -/
def rmF (L : List TS) (k : Nat) : TS := if k < L.length then L.getD k z0 else mk1
/-- A roomy list. -/
def Rm (w : World) (base g : Nat) (L : List TS) : Prop := TF w base g (L.length + 64) (L.length + 64) (rmF L)
theorem Rm.rdt {w : World} {base g n : Nat} {L : List TS} (h : Rm w base g L) (hl : L.length = n) (h2 : n ≤ 4611686018427387904) : RdT w (some ⟨g, 0, none⟩) n L := TF.rdt h L n hl (by omega) h2 (fun k hk => by unfold rmF; rw [if_pos (by omega)])
/-- What stands behind i rounds. -/
def rmK (L : List TS) (i k : Nat) : TS := if k < i then rmF L k else z0
theorem rmK_next (L : List TS) (i : Nat) (x : TS) (hx : x = rmF L i) : setT (rmK L i) i x = rmK L (i + 1) := by
  funext k
  unfold setT rmK
  by_cases h : k = i
  · rw [if_pos h, if_pos (by omega), hx, h]
  · rw [if_neg h]
    by_cases h2 : k < i
    · rw [if_pos h2, if_pos (by omega)]
    · rw [if_neg h2, if_neg (by omega)]
theorem setT_twice (F : Nat → TS) (i : Nat) (x y : TS) : setT (setT F i x) i y = setT F i y := by
  funext k
  unfold setT
  by_cases h : k = i <;> simp [h]
set_option maxHeartbeats 2000000 in
set_option maxRecDepth 100000 in
theorem roomy_any (a : Option Addr) (n c : Nat) (L : List TS) (w : World) (hr : RdT w a n L) (hn : n ≤ 5864062014634) :
    Calls Tryd.prog 43 #[.slice a n c] w fun e w' => ∃ g, e = .returned (.slice (some ⟨g, 0, none⟩) n (n + 64)) ∧ Rm w' w.heap.size g L ∧ Below w.heap.size w w' := by
  obtain ⟨M, hM1, hM2, hM3⟩ := make_f (ts := 24) (z := 3) (by_ := 24) Tryd.underlying24 infoT rfl (by omega) (n + 64) (n + 64) (by omega) (by omega) (by omega)
  have hmk := hM3 ((n : Int) + 64) ((n : Int) + 64) (by omega) (by omega)
  obtain ⟨w1, hw1⟩ : ∃ w1, w.alloc (.cells M 43) = w1 := ⟨_, rfl⟩
  have HB1 : Hid (Below w.heap.size w w1) := by rw [← hw1]; exact (Below.refl _ _).alloc (Nat.le_refl _) _
  have HO1 : Hid (TF w1 w.heap.size w.heap.size (n + 64) (n + 64) (rmK L 0)) := by
    rw [← hw1]
    exact (ownf_made (z := 3) (zv := .agg #[.int .i64 0, .int .i64 0, .int .i64 0]) rfl (by omega) (n + 64) (n + 64) (by omega) (by unfold maxLen; omega) M hM1 hM2 w w.heap.size (Nat.le_refl _)).congr (fun k h => by unfold rmK; rw [if_neg (by omega)]; rfl)
  have HR := hide hr
  have HL := hide hr.1
  clear hr hM1 hM2 hM3
  obtain ⟨B, hB⟩ : ∃ B, w.heap.size = B := ⟨_, rfl⟩
  rw [hB] at HO1
  go_enter Tryd.func43, Tryd.ntmps43
  go_wp2_with fail
  clear hmk
  try rw [hB]
  have HBE := hide hB
  clear hB hw1
  obtain ⟨N, hN⟩ : ∃ N, n + 64 = N := ⟨_, rfl⟩
  rw [hN] at HO1
  try rw [hN]
  have hnN : (n : Int) + 64 = (N : Int) := by omega
  try rw [hnN]
  have HN := hide hN
  clear hN
  have hn2 : n ≤ N := by have := HN.out; omega
  have hn3 : N ≤ 5864062014698 := by have := HN.out; omega
  go_loopw [4] (fun i wr => ∃ k : Nat, k ≤ N ∧ i = .int .i64 (k : Int) ∧ Hid (TF wr B B N N (rmK L k)) ∧ Hid (Below w.heap.size w wr)) (fun i _ => N - (intOf i).toNat)
  case atStart => exact ⟨0, Nat.zero_le _, rfl, HO1, HB1⟩
  case round =>
    obtain ⟨k, hk, rfl, HO, HB⟩ := hrel
    by_cases hlt : k < N
    · have hki : (k : Int) < (N : Int) := by omega
      obtain ⟨p0, p1, p2⟩ := HO.out.at k hlt
      have f0 := HO.out.fz (k * 3)
      have f1 := HO.out.fz (k * 3 + 1)
      have f2 := HO.out.fz (k * 3 + 2)
      obtain ⟨w2, hw2⟩ : ∃ w2, ((wr.setCell ⟨B, k * 3, none⟩ (.int .i64 7001)).setCell ⟨B, k * 3 + 1, none⟩ (.int .i64 5)).setCell ⟨B, k * 3 + 2, none⟩ (.int .i64 0) = w2 := ⟨_, rfl⟩
      have HO2 : Hid (TF w2 B B N N (setT (rmK L k) k mk1)) := by rw [← hw2]; exact HO.out.set k mk1 hlt
      have HG2 : Hid (wr.grownBy w2 (some B)) := by rw [← hw2]; exact grown_set3 wr B (k * 3) mk1
      have HB2 : Hid (Below w.heap.size w w2) := HB.out.grown HG2.out HB.out.size (fun i e => by cases e; have := HBE.out; omega)
      by_cases hkn : k < n
      · have hkni : (k : Int) < (n : Int) := by omega
        obtain ⟨b, o, rfl, hbl, e0, e1, e2⟩ := (HR.out.below HB2.out).at k hkn
        have HX : Hid (L.getD k z0 = rmF L k) := by show _ = _; unfold rmF; rw [if_pos (by rw [HL.out]; exact hkn)]
        obtain ⟨q0, q1, q2⟩ := HO2.out.at k hlt
        have z0' := HO2.out.fz (k * 3)
        have z1' := HO2.out.fz (k * 3 + 1)
        have z2' := HO2.out.fz (k * 3 + 2)
        generalize L.getD k z0 = x at e0 e1 e2 HX
        obtain ⟨w3, hw3⟩ : ∃ w3, ((w2.setCell ⟨B, k * 3, none⟩ (.int .i64 x.s)).setCell ⟨B, k * 3 + 1, none⟩ (.int .i64 x.a)).setCell ⟨B, k * 3 + 2, none⟩ (.int .i64 x.c) = w3 := ⟨_, rfl⟩
        have HO3 : Hid (TF w3 B B N N (rmK L (k + 1))) := by
          rw [← hw3, ← rmK_next L k x HX.out, ← setT_twice (rmK L k) k mk1 x]; exact HO2.out.set k x hlt
        have HG3 : Hid (w2.grownBy w3 (some B)) := by rw [← hw3]; exact grown_set3 w2 B (k * 3) x
        have HB3 : Hid (Below w.heap.size w w3) := HB2.out.grown HG3.out HB2.out.size (fun i e => by cases e; have := HBE.out; omega)
        go_wp2_with fail
        go_roundw
        case rel => exact ⟨k + 1, by omega, by go_num, HO3, HB3⟩
        case measure => (simp [intOf] <;> omega)
      · have hkni : ¬ (k : Int) < (n : Int) := by omega
        have HO3 : Hid (TF w2 B B N N (rmK L (k + 1))) := by
          rw [← rmK_next L k mk1 (by unfold rmF; rw [if_neg (by rw [HL.out]; exact hkn)])]; exact HO2.out
        go_wp2_with fail
        go_roundw
        case rel => exact ⟨k + 1, by omega, by go_num, HO3, HB2⟩
        case measure => (simp [intOf] <;> omega)
    · obtain rfl : k = N := by omega
      have hki : ¬ (k : Int) < (k : Int) := by omega
      have hni : (n : Int) ≤ (k : Int) := by omega
      go_wp2_with fail
      go_ret
      refine ⟨B, ?_, ?_, HB.out⟩
      · have := HN.out
        subst this
        rfl
      · have h1 := HO.out
        unfold Rm
        rw [HL.out, HN.out, HBE.out]
        exact h1.congr (fun j hj => by unfold rmK; rw [if_pos hj])
end Go.Proofs.YtgpfabblmoffiaaDoor.Lg
