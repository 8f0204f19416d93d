/-
  States by a function of the index, written over; roomy and given books.
-/
import Derived.Test.YtgpfabblmoffiaaLgK
import Derived.Test.YtgpfabblmoffiaaRowF2
namespace Go.Proofs.Ytgpfabblmoffiaa.Lg
open Go.ChangeShapes Go.WideShapes Go.ChangeAt Go.RowKit
open Go.Proofs.Ytgpfabblmoffiaa.Base Go.Proofs.Ytgpfabblmoffiaa.Rf
set_option linter.unusedVariables false
/-- The block g, of the call's own, holds N states and more. -/
def TF (w : World) (base g N C : Nat) (F : Nat → TS) : Prop := OwnF w base 33 3 (.slice (some ⟨g, 0, none⟩) N C) N (fun k => tv (F k))
theorem tv_len (F : Nat → TS) (k : Nat) : ((fun k => tv (F k)) k).length = 3 := rfl
theorem TF.lt {w : World} {base g N C : Nat} {F : Nat → TS} (h : TF w base g N C F) : base ≤ g ∧ g < w.heap.size := OwnF.lt h g rfl
theorem TF.below {w w' : World} {base g N C : Nat} {F : Nat → TS} (h : TF w base g N C F) (hb : Below w.heap.size w w') : TF w' base g N C F := OwnF.below h hb
theorem TF.kp {w w' : World} {base g N C : Nat} {F : Nat → TS} {S : Nat → Prop} (h : TF w base g N C F) (k : Kp S w w') (hS : ¬ S g) : TF w' base g N C F := OwnF.kp h k (fun i e => by cases e; exact hS)
theorem TF.congr {w : World} {base g N C : Nat} {F G : Nat → TS} (h : TF w base g N C F) (e : ∀ k, k < N → F k = G k) : TF w base g N C G := OwnF.congr h (fun k hk => by show tv (F k) = tv (G k); rw [e k hk])
theorem TF.at {w : World} {base g N C : Nat} {F : Nat → TS} (h : TF w base g N C F) (k : Nat) (hk : k < N) : w.cell? ⟨g, k * 3, none⟩ = some (.int .i64 (F k).s) ∧ w.cell? ⟨g, k * 3 + 1, none⟩ = some (.int .i64 (F k).a) ∧ w.cell? ⟨g, k * 3 + 2, none⟩ = some (.int .i64 (F k).c) :=
  ⟨OwnF.cellAt h (tv_len F) k 0 _ hk (by omega) rfl, OwnF.cellAt h (tv_len F) k 1 _ hk (by omega) rfl, OwnF.cellAt h (tv_len F) k 2 _ hk (by omega) rfl⟩
theorem TF.fz {w : World} {base g N C : Nat} {F : Nat → TS} (h : TF w base g N C F) (i : Nat) : w.frozen? ⟨g, i, none⟩ = false := OwnF.frozenAt h i
/-- One state in place of another. -/
def setT (F : Nat → TS) (k : Nat) (x : TS) (j : Nat) : TS := if j = k then x else F j
/-- The three cells of a state written over. -/
def set3 (w : World) (g o : Nat) (x : TS) : World := ((w.setCell ⟨g, o, none⟩ (.int .i64 x.s)).setCell ⟨g, o + 1, none⟩ (.int .i64 x.a)).setCell ⟨g, o + 2, none⟩ (.int .i64 x.c)
theorem grown_set3 (w : World) (g o : Nat) (x : TS) : w.grownBy (set3 w g o x) (some g) := by
  unfold set3
  exact grown_trans (grown_trans (grown_set w g o _) (grown_set _ g (o + 1) _)) (grown_set _ g (o + 2) _)
theorem TF.set {w : World} {base g N C : Nat} {F : Nat → TS} (h : TF w base g N C F) (k : Nat) (x : TS) (hk : k < N) : TF (set3 w g (k * 3) x) base g N C (setT F k x) := by
  obtain ⟨h1, -⟩ := OwnF.store h (tv_len F) k 0 (.int .i64 x.s) hk (by omega)
  rw [Nat.add_zero] at h1
  have l1 := setF_len (tv_len F) k (((fun k => tv (F k)) k).set 0 (.int .i64 x.s)) rfl
  obtain ⟨h2, -⟩ := h1.store l1 k 1 (.int .i64 x.a) hk (by omega)
  have l2 := setF_len l1 k ((setF (fun k => tv (F k)) k (((fun k => tv (F k)) k).set 0 (.int .i64 x.s)) k).set 1 (.int .i64 x.a)) (by rw [List.length_set]; exact l1 k)
  obtain ⟨h3, -⟩ := h2.store l2 k 2 (.int .i64 x.c) hk (by omega)
  refine OwnF.congr h3 (fun i hi => ?_)
  unfold setF setT
  by_cases e : i = k
  · rw [if_pos e, if_pos rfl, if_pos rfl, if_pos e]; rfl
  · rw [if_neg e, if_neg e, if_neg e, if_neg e]
/-- What the slice reads as: L. -/
theorem TF.rdt {w : World} {base g N C : Nat} {F : Nat → TS} (h : TF w base g N C F) (L : List TS) (n : Nat) (hl : L.length = n) (hn : n ≤ N) (h2 : n ≤ 4611686018427387904) (e : ∀ k, k < n → F k = L.getD k z0) : RdT w (some ⟨g, 0, none⟩) n L := by
  refine ⟨hl, h2, fun hp => ⟨g, 0, rfl, h.lt.2, fun k j u hk hu hj => ?_⟩⟩
  rw [Nat.zero_add]
  refine OwnF.cellAt h (tv_len F) k j u (by omega) hj ?_
  show (tv (F k))[j]? = _
  rw [e k hk]
  exact hu
theorem TF.own {w : World} {base g N C : Nat} {F : Nat → TS} (h : TF w base g N C F) (L : List TS) (hl : L.length = N) (e : ∀ k, k < N → F k = L.getD k z0) : OwnT w base (.slice (some ⟨g, 0, none⟩) N C) L := by
  unfold OwnT
  rw [hl]
  exact OwnF.congr h (fun k hk => by show tv (F k) = tf L k; unfold tf; rw [e k hk])
theorem OwnT.tf {w : World} {base g N C : Nat} {L : List TS} (h : OwnT w base (.slice (some ⟨g, 0, none⟩) N C) L) (hn : N = L.length) : TF w base g N C (fun k => L.getD k z0) := by
  subst hn; exact h
theorem infoT : (Try.prog.info? 33).map (fun i => (i.zero, i.size, i.bytes)) = some (some (.agg #[.int .i64 0, .int .i64 0, .int .i64 0]), 3, 24) := by kernel_rfl
def mk1 : TS := ⟨7001, 5, 0⟩
/-- A list with 64 marks in its spare room. -/
def rmF (L : List TS) (k : Nat) : TS := if k < L.length then L.getD k z0 else mk1
/-- A roomy list. -/
def Rm (w : World) (base g : Nat) (L : List TS) : Prop := TF w base g (L.length + 64) (L.length + 64) (rmF L)
theorem Rm.rdt {w : World} {base g n : Nat} {L : List TS} (h : Rm w base g L) (hl : L.length = n) (h2 : n ≤ 4611686018427387904) : RdT w (some ⟨g, 0, none⟩) n L := TF.rdt h L n hl (by omega) h2 (fun k hk => by unfold rmF; rw [if_pos (by omega)])
/-- What stands behind i rounds. -/
def rmK (L : List TS) (i k : Nat) : TS := if k < i then rmF L k else z0
theorem rmK_next (L : List TS) (i : Nat) (x : TS) (hx : x = rmF L i) : setT (rmK L i) i x = rmK L (i + 1) := by
  funext k
  unfold setT rmK
  by_cases h : k = i
  · rw [if_pos h, if_pos (by omega), hx, h]
  · rw [if_neg h]
    by_cases h2 : k < i
    · rw [if_pos h2, if_pos (by omega)]
    · rw [if_neg h2, if_neg (by omega)]
theorem setT_twice (F : Nat → TS) (i : Nat) (x y : TS) : setT (setT F i x) i y = setT F i y := by
  funext k
  unfold setT
  by_cases h : k = i <;> simp [h]
end Go.Proofs.Ytgpfabblmoffiaa.Lg
