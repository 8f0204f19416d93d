/-
  For every input the Go function StoreNone returns true, and each argument reads behind the call as it read before.
-/
import Derived.Test.YtndodbfhigejfacSnWalk
import Derived.Test.YtndodbfhigejfacBase
import Derived.Test.YtndodbfhigejfacRows
import Derived.ChangeMaps5
import Derived.ShutString
import Derived.ProofKit
import Derived.ChangeOld
import Derived.Below
import Derived.Deep.Strs
namespace Go.Proofs.Ytndodbfhigejfac.storeNone
open Go.ChangeShapes Go.WideShapes Go.ChangeAt Go.RowKit Go.ChangeMaps
open Go.Proofs.Ytndodbfhigejfac.Base
set_option linter.unusedVariables false
theorem six {α : Type} {cs : Array α} (h : cs.size = 6) : ∃ c0 c1 c2 c3 c4 c5, cs = #[c0, c1, c2, c3, c4, c5] := by
  obtain ⟨l⟩ := cs
  match l, h with
  | [c0, c1, c2, c3, c4, c5], _ => exact ⟨c0, c1, c2, c3, c4, c5, rfl⟩
theorem trod_struct6 {H : Type} {enc : TypeId × Value → H} {P : Program} {w : World} {base : Nat} {spare : Nat → Bool} {held : Bool} {t : TypeId} {f0 f1 f2 f3 f4 f5 : Field} {fuel : Nat} {cs : List Value} {x : DataW H × List MemPlace} (ht : P.underlying t = some (.struct #[f0, f1, f2, f3, f4, f5])) (h : DataW.trod enc P w base spare held fuel t cs = some x) :
    ∃ y0 y1 y2 y3 y4 y5 n, x.1 = .agg [y0.1, y1.1, y2.1, y3.1, y4.1, y5.1] ∧ DataW.trod enc P w base spare held n f0.type ((cs.drop f0.offset).take (P.cellsOf f0.type)) = some y0 ∧
      DataW.trod enc P w base spare held n f1.type ((cs.drop f1.offset).take (P.cellsOf f1.type)) = some y1 ∧ DataW.trod enc P w base spare held n f2.type ((cs.drop f2.offset).take (P.cellsOf f2.type)) = some y2 ∧ DataW.trod enc P w base spare held n f3.type ((cs.drop f3.offset).take (P.cellsOf f3.type)) = some y3 ∧
      DataW.trod enc P w base spare held n f4.type ((cs.drop f4.offset).take (P.cellsOf f4.type)) = some y4 ∧ DataW.trod enc P w base spare held n f5.type ((cs.drop f5.offset).take (P.cellsOf f5.type)) = some y5 := by
  obtain ⟨xs, n, _, rfl, hl, hlen, hf⟩ := DataW.trod_struct ht h
  match xs, hlen with
  | [y0, y1, y2, y3, y4, y5], _ => exact ⟨y0, y1, y2, y3, y4, y5, n, by simp, by simpa using hf 0 f0 rfl, by simpa using hf 1 f1 rfl, by simpa using hf 2 f2 rfl, by simpa using hf 3 f3 rfl, by simpa using hf 4 f4 rfl, by simpa using hf 5 f5 rfl⟩
theorem cells_int : Try.prog.cellsOf 3 = 1 := by kernel_rfl
theorem cells_int64 : Try.prog.cellsOf 2 = 1 := by kernel_rfl
theorem cells_str : Try.prog.cellsOf 9 = 1 := by kernel_rfl
theorem cells_u32 : Try.prog.cellsOf 47 = 1 := by kernel_rfl
theorem cells_bytes : Try.prog.cellsOf 25 = 1 := by kernel_rfl
theorem cells_step : Try.prog.cellsOf 49 = 6 := by kernel_rfl
set_option maxRecDepth 100000 in
theorem lifted (os : Os) (started : os.Started) (H : Type) (enc : TypeId × Value → H) :
    ReturnsInHanded {} Try.checked os 4 .any (Rows.storeNoneSpec.pre6 enc Try.prog Try.f4 Rows.storeNoneRow.domain false) (Rows.storeNoneSpec.post enc Try.prog Try.f4 false true false false) := by
  refine returnsInHanded_of_change_sized (C := Try.checked) own started (by kernel_rfl) Try.func4
    (ChangeSpec.witness6 (enc := enc) (C := Try.checked) false ⟨#[], #[.agg #[.int .i64 0, .string ⟨#[]⟩, .int .i64 0, .int .i64 0, .slice none 0 0, .int .u32 0]], []⟩ 8 (by kernel_rfl) (by kernel_rfl) (by kernel_rfl) (by kernel_rfl)) ?_
  intro W base args ds gs before hval0 hW hcnd hsz0 _
  have hval : ∀ (j : Nat) t v, Try.f4.params[j]? = some t → args[j]? = some v → Value.okWide Try.prog W .any base t v := hval0
  have hsz : (DataW.weightsEach Try.prog (Try.f4.params.toList ++ Rows.storeNoneSpec.plain.varTypes Try.prog) (ds ++ gs)).all (· ≤ reachBytes) = true := hsz0
  have hW' := hW
  obtain ⟨p, q, hA0, hV, rfl, hfz, hnd⟩ := hW
  have hA : DataW.TrodAll enc Try.prog W 0 (fun _ => true) true Try.f4.params.toList args.toList ds p := hA0
  rw [Try.params4] at hA hval hsz
  obtain ⟨v0, vs0, d0, ds0, p0, q0, hargs, rfl, rfl, h0, r0⟩ := trodAll_cons hA
  obtain ⟨rfl, rfl, rfl⟩ := trodAll_nil r0
  obtain rfl : args = #[v0] := by cases args; simp_all
  obtain ⟨rfl, rfl⟩ := trodVars_none hV
  have k0 := h0
  have lt0 : ∀ x ∈ p0, x.block < W.heap.size := by obtain ⟨m, hm⟩ := k0; exact DataW.trod_lt m _ _ _ hm
  obtain ⟨cs, rfl, hcs⟩ := okWide_struct Try.underlying49 (hval 0 49 v0 rfl rfl)
  obtain ⟨c0, c1, c2, c3, c4, c5, rfl⟩ := six (hcs.trans cells_step)
  obtain ⟨op, nm, n, k, a, len, cap, bs, m, hwalk, rd, hl⟩ : ∃ (op : Int) (nm : ByteArray) (n k : Int) (a : Option Addr) (len cap : Nat) (bs : List (BitVec 8)) (m : Int), (#[c0, c1, c2, c3, c4, c5] : Array Value) = #[.int .i64 op, .string nm, .int .i64 n, .int .i64 k, .slice a len cap, .int .u32 m] ∧ Rd W a len bs ∧ len ≤ 140737488351232 := by
    obtain ⟨fuel, hf⟩ := h0
    obtain ⟨y0, y1, y2, y3, y4, y5, f, hx, t0, t1, t2, t3, t4, t5⟩ := trod_struct6 Try.underlying49 hf
    simp only [cells_int, cells_int64, cells_str, cells_u32, cells_bytes, Value.cells] at t0 t1 t2 t3 t4 t5
    obtain ⟨o, e0, _, _⟩ := DataW.trod_int Try.underlying3 t0
    obtain ⟨s, e1, _, _⟩ := DataW.trod_string Try.underlying9 t1
    obtain ⟨u, e2, _, _⟩ := DataW.trod_int Try.underlying2 t2
    obtain ⟨v, e3, _, _⟩ := DataW.trod_int Try.underlying3 t3
    obtain ⟨mm, e5, _, _⟩ := DataW.trod_int Try.underlying47 t5
    simp at e0 e1 e2 e3 e5 t4
    subst e0 e1 e2 e3 e5
    rcases open_ints Try.underlying25 Try.underlying5 (by kernel_rfl) t4 with ⟨hcs, _⟩ | ⟨x, l, c, zs, hcs, _, hl, hm, hz, hx4, hcell, hwz⟩
    · simp at hcs
      subst hcs
      exact ⟨o, s, u, v, none, 0, 0, [], mm, rfl, rd_nil _, by omega⟩
    · simp at hcs
      subst hcs
      have hz' : zs.length = c := by simpa using hz
      have hw : c ≤ 140737488351232 := by
        have h1 : (zs.length) * Try.prog.bytesOf 5 ∈ d0.weights Try.prog 49 := by
          simp only at hx
          rw [hx]
          unfold DataW.weights
          rw [Try.underlying49]
          refine DataW.weights_mem_each (j := 4) (t := 25) (d := y4.1) rfl rfl _ ?_
          rw [hx4]
          simp [DataW.weights, Try.underlying25, lits]
          left
          congr 1
          omega
        have h2 := List.all_eq_true.1 hsz _ (DataW.weights_mem_each (j := 0) rfl rfl _ h1)
        rw [bytes8] at h2
        have hr : reachBytes = 140737488351232 := by decide
        simp only [hr] at h2
        have h3 := of_decide_eq_true h2
        omega
      obtain ⟨bs, hbs⟩ := rd_row hl hz' hcell hwz (by omega)
      exact ⟨o, s, u, v, some x, l, c, bs, mm, rfl, hbs, by omega⟩
  rw [hwalk] at k0 hW' ⊢
  clear hA0 hval0
  refine (Sn.walk op nm n k a len cap bs m W rd hl).mono fun e W' ⟨he, bel⟩ => ?_
  subst he
  exact ⟨_, rfl, _, _, _, [], _, [], hW', trodAll_mk1 (shut_bool Try.underlying4 _), (trodAll_cons_mk (Below.trod laidOut (by kernel_rfl) (of_decide_eq_true (by kernel_rfl)) k0 bel lt0) trodAll_mk0), rfl, bel.frame _, fun h => by cases h⟩

theorem over : Rows.storeNoneRow.holds Try.pinned (OpenSpec.ofChange Rows.storeNoneSpec) :=
  OpenClaim.holds_of_wide 4 Try.f4 rfl rfl rfl rfl rfl rfl rfl ⟨rfl, rfl, rfl, rfl, rfl⟩ rfl rfl rfl rfl rfl (by kernel_rfl) Try.func4 (by kernel_rfl)
    (of_decide_eq_true (by kernel_rfl)) (by unfold Func.isWrapper; first | (rw [if_pos (by decide +kernel)]; kernel_rfl) | (rw [if_neg (by decide +kernel)]; exact ⟨rfl, rfl⟩))
    (fun os started H enc _ => lifted os started H enc)
/-- THE STATEMENT. -/
theorem proved : Rows.StoreNoneSaid := over
end Go.Proofs.Ytndodbfhigejfac.storeNone
