/-
  MergeNone: nil merges, nil sources, a nil compare.
-/
import Derived.Test.YtcnfkgmefikcjaaMeHead
import Derived.Test.YtcnfkgmefikcjaaMeRange
import Derived.Test.YtcnfkgmefikcjaaMeTidy
import Derived.Laws.EntriesVeiled
namespace Go.Proofs.Ytcnfkgmefikcjaa.Me
open Go.ChangeShapes Go.WideShapes Go.ChangeAt Go.RowKit
open Go.Proofs.Ytcnfkgmefikcjaa.Base
set_option linter.unusedVariables false
set_option linter.unusedSimpArgs false
theorem nilnil_in (d : Nat) (t : TypeId) (W : World) {a b : Array TypeId} {c : Bool} (ht : Try.prog.underlying t = some (.func a b c)) : (Op.equalIn (d + 1) t .nilFunc .nilFunc).run Try.prog W = .ok true W := by
  simp [Op.equalIn, run_underlying ht]
theorem nilnil (t : TypeId) (W : World) {a b : Array TypeId} {c : Bool} (ht : Try.prog.underlying t = some (.func a b c)) : (binOp .eql t .nilFunc .nilFunc).run Try.prog W = .ok (.bool true) W := by
  have h : (Op.equal t .nilFunc .nilFunc).run Try.prog W = .ok true W := nilnil_in 9999 t W ht
  simp only [binOp]
  simp [h]
theorem new_nocmp (v : Value) (w : World) : Calls Try.prog 11 #[.nilFunc, v] w fun e w' => e = .returned (.tuple #[.pointer none, .int .i64 1]) ∧ w' = w := by
  have hcn : ∀ W, (binOp .eql 51 .nilFunc .nilFunc).run Try.prog W = .ok (.bool true) W := fun W => by
    obtain ⟨a, b, c, h⟩ := ucmp
    exact nilnil _ W h
  go_enter Try.func11, Try.ntmps11
  go_wp2_with fail
  go_ret2
  exact ⟨rfl, rfl⟩
set_option maxHeartbeats 4000000 in
set_option maxRecDepth 100000 in
theorem new_nilsrc (b gf c : Nat) (w : World) (h0 : w.cell? ⟨b, 0, none⟩ = some (feedV gf)) (h1 : w.cell? ⟨b, 1, none⟩ = some .nilFunc) : Calls Try.prog 11 #[fcmp, .slice (some ⟨b, 0, none⟩) 2 c] w fun e w' => e = .returned (.tuple #[.pointer none, .int .i64 1]) ∧ w' = w := by
  have hcn : ∀ W, (binOp .eql 51 (.func (.func 12) #[] #[]) .nilFunc).run Try.prog W = .ok (.bool false) W := cmp_nil
  have han : ∀ W, (binOp .eql 38 (.func (.func 10) #[.pointer (some ⟨gf, 0, none⟩)] #[]) .nilFunc).run Try.prog W = .ok (.bool false) W := fun W => ask_nil gf W
  have hnn : ∀ W, (binOp .eql 38 .nilFunc .nilFunc).run Try.prog W = .ok (.bool true) W := fun W => by
    obtain ⟨a, b, c, h⟩ := uask
    exact nilnil _ W h
  unfold feedV at h0
  unfold fcmp
  go_enter Try.func11, Try.ntmps11
  go_wp2_with fail
  go_loopw [15] (fun s wr => (.int .i64 0 = s ∨ .int .i64 1 = s) ∧ w = wr) (fun s _ => 2 - (intOf s).toNat)
  case atStart => exact ⟨.inl rfl, rfl⟩
  case round =>
    obtain ⟨rfl | rfl, rfl⟩ := hrel
    · go_wp2_with fail
      go_roundw
      case rel => exact ⟨.inr rfl, by first | rfl | trivial⟩
      case measure => simp [intOf]
    · go_wp2_with fail
      go_ret2
      exact ⟨rfl, rfl⟩
theorem load_bool {p : Tmp} {tmps : Array Value} {fn : Func} (h : fn.results = #[.cell p 4]) (gc : Nat) (v : Bool) (hp : tmps.getD p undef = .pointer (some ⟨gc, 0, none⟩)) (V : World) (hV : V.cell? ⟨gc, 0, none⟩ = some (.bool v)) : (results fn tmps).run Try.prog V = .ok (.bool v) V := by
  have hp' : tmps[p]?.getD undef = .pointer (some ⟨gc, 0, none⟩) := by simpa using hp
  simp [results, h, hp', asAddr, loadVar, go_sem, hV]
end Go.Proofs.Ytcnfkgmefikcjaa.Me
