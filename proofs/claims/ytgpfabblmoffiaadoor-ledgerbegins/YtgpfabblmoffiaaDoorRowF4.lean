/-
  append of a whole list onto a list of the call's own.
-/
import Derived.Test.YtgpfabblmoffiaaDoorRowF
import Derived.Laws.AppendOwnNone
import Derived.BigFrame
namespace Go.Proofs.YtgpfabblmoffiaaDoor.Rf
open Go.ChangeShapes Go.WideShapes Go.ChangeAt Go.RowKit
open Go.Proofs.YtgpfabblmoffiaaDoor.Base
set_option linter.unusedVariables false
theorem RdF.cells {w : World} {b off z m : Nat} {f : Nat → List Value} (h : RdF w (some ⟨b, off, none⟩) z m f) (hf : ∀ k, (f k).length = z) (j : Nat) (u : Value) (hu : (fcells f m)[j]? = some u) : w.cell? ((⟨b, off, none⟩ : Addr).add j) = some u := by
  have hj : j < m * z := by have := (List.getElem?_eq_some_iff.1 hu).1; rwa [fcells_len hf] at this
  have hm : 0 < m := by
    by_cases e : 0 < m
    · exact e
    · rw [show m = 0 by omega, Nat.zero_mul] at hj; omega
  have hz : 0 < z := by
    by_cases e : 0 < z
    · exact e
    · rw [show z = 0 by omega, Nat.mul_zero] at hj; omega
  obtain ⟨b', off', e, hlt, hc⟩ := h hm
  cases e
  have e : j = j / z * z + j % z := by rw [Nat.mul_comm]; exact (Nat.div_add_mod j z).symm
  have h1 : j / z < m := Nat.div_lt_of_lt_mul (by rw [Nat.mul_comm]; exact hj)
  have h2 : j % z < z := Nat.mod_lt _ hz
  have e2 : (⟨b, off, none⟩ : Addr).add j = ⟨b, off + j, none⟩ := by simp [Addr.add]
  rw [e2]
  have h3 := fcells_get hf m (j / z) (j % z) h1 h2
  rw [← e, hu] at h3
  have h4 := hc (j / z) (j % z) u h1 h3.symm h2
  rw [← e] at h4
  exact h4
theorem joinF {ops : Array Oper} {rest : List Oper} {o : Oper} {a : Act} {Q : Exit → Act → World → Prop} (w : World) (hwt : Region.wanted o (yielded ops a.tmps) = true) (s x : Operand) {ts t z by_ : Nat} {zv : Value}
    (ho : o.op = .call { callee := .builtin .append, args := #[s, x], argTypes := #[ts, ts] }) (hts : Tryd.prog.underlying ts = some (.slice t)) (hin : (Tryd.prog.info? t).map (fun i => (i.zero, i.size, i.bytes)) = some (some zv, z, by_)) (hz : zv.cells.size = z) (hz0 : 0 < z) (hby : by_ ≤ 64)
    (base : Nat) (v : Value) (n : Nat) (f g : Nat → List Value) (hs : a.eval s = v) (hown : OwnF w base t z v n f) (xa : Option Addr) (m cap : Nat) (hx : a.eval x = .slice xa m cap) (hnil : xa = none → m = 0 ∧ cap = 0) (hsp : ∀ ad, xa = some ad → ad.spot = none)
    (hr : RdF w xa z m g) (hg : ∀ k, (g k).length = z) (hg1 : ∀ k, k < m → ∀ u ∈ g k, u.oneCell' = true) (hl : n + m ≤ 2199023255552) (hbase : base ≤ w.heap.size)
    (h : ∀ v' w', OwnF w' base t z v' (n + m) (thenF f n g) → w.grownBy w' v.ownBlock → wpList Tryd.prog ops Q rest (a.put o.dst v') w') : wpList Tryd.prog ops Q (o :: rest) a w := by
  obtain ⟨i0, hi, hz0', hz1, hz2⟩ := info_parts hin
  refine BigFrame.wpList_want hwt fun K hK => ?_
  cases xa with
  | none =>
    obtain ⟨rfl, rfl⟩ := hnil rfl
    have hrun := run_append_owned_none (P := Tryd.prog) (w := w) base ts o.type t i0 z hts hi v n (fcells f n) hown
    unfold Oper.wp
    simp [execOp, ho, resolve, invoke, builtin, hs, hx, hrun, Result.andThen]
    refine hK _ _ (h v w ?_ (World.grownBy.refl _ _))
    exact hown.congr (fun k hk => by unfold thenF; rw [if_pos hk])
  | some ad =>
    obtain ⟨b, off, sp⟩ := ad
    have hs0 := hsp _ rfl
    simp only at hs0
    subst hs0
    have hone : ∀ u ∈ fcells g m, u.oneCell' = true := by
      intro u hu
      unfold fcells at hu
      obtain ⟨k, hk, hu⟩ := List.mem_flatMap.1 hu
      exact hg1 k (List.mem_range.1 hk) u hu
    refine wp_append_own w s x ts ho base t i0 zv z by_ hts hi hz0' hz1 hz2 hz hz0 v n (fcells f n) hs hown ⟨b, off, none⟩ m cap (fcells g m) hx (fcells_len hg m) (fun j u hu => hr.cells hg j u hu) hone (by unfold maxLen; omega) ?_ hbase ?_
    · have := Nat.mul_le_mul hl hby
      omega
    · intro v' w' h1 h2 _
      refine hK _ _ (h v' w' (ownf_of h1 rfl (fcells_then f g n m)) h2)
end Go.Proofs.YtgpfabblmoffiaaDoor.Rf
