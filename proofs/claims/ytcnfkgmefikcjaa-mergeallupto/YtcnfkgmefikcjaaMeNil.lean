/-
  A function held against nil.
-/
import Derived.Test.YtcnfkgmefikcjaaMeStart
namespace Go.Proofs.Ytcnfkgmefikcjaa.Me
open Go.ChangeShapes Go.WideShapes Go.ChangeAt Go.RowKit
theorem fnil_in (d : Nat) (t : TypeId) (K : Nat) (x y : Array Value) (W : World) {a b : Array TypeId} {c : Bool} (ht : Try.prog.underlying t = some (.func a b c)) : (Op.equalIn (d + 1) t (.func (.func K) x y) .nilFunc).run Try.prog W = .ok false W := by
  simp [Op.equalIn, run_underlying ht]
theorem fnil (t : TypeId) (K : Nat) (x y : Array Value) (W : World) {a b : Array TypeId} {c : Bool} (ht : Try.prog.underlying t = some (.func a b c)) : (binOp .eql t (.func (.func K) x y) .nilFunc).run Try.prog W = .ok (.bool false) W := by
  have h : (Op.equal t (.func (.func K) x y) .nilFunc).run Try.prog W = .ok false W := fnil_in 9999 t K x y W ht
  simp only [binOp]
  simp [h]
theorem ucmp : ∃ a b c, Try.prog.underlying 51 = some (.func a b c) := ⟨#[36, 36], #[3], false, by kernel_rfl⟩
theorem uask : ∃ a b c, Try.prog.underlying 38 = some (.func a b c) := ⟨#[], #[36, 4, 27], false, by kernel_rfl⟩
theorem cmp_nil (W : World) : (binOp .eql 51 (.func (.func 12) #[] #[]) .nilFunc).run Try.prog W = .ok (.bool false) W := by
  obtain ⟨a, b, c, h⟩ := ucmp
  exact fnil _ _ _ _ W h
theorem ask_nil (g : Nat) (W : World) : (binOp .eql 38 (.func (.func 10) #[.pointer (some ⟨g, 0, none⟩)] #[]) .nilFunc).run Try.prog W = .ok (.bool false) W := by
  obtain ⟨a, b, c, h⟩ := uask
  exact fnil _ _ _ _ W h
end Go.Proofs.Ytcnfkgmefikcjaa.Me
