/-
  The walk of the statement PartsHash.
-/
import Derived.Test.YtdpihfmbkimgpaaPaHash
namespace Go.Proofs.Ytdpihfmbkimgpaa.partsHash
open Go.ChangeShapes Go.WideShapes Go.ChangeAt Go.RowKit
open Go.Proofs.Ytdpihfmbkimgpaa.Base Go.Proofs.Ytdpihfmbkimgpaa.Pa
set_option linter.unusedVariables false
theorem walk (s0 : ByteArray) (n1 : Int) (w : World) (z0 : s0.size ≤ 140737488351232) (w1 : (Lit.int .i64 n1).wf = true) :
    Calls Try.prog 3 #[.string s0, .int .i64 n1] w fun e w' => e = .returned (.bool true) ∧ Below w.heap.size w w' := by
  have q1 : ((hashP s0 n1 : Int) == (hashP s0 n1 : Int)) = true := by simp
  go_enter Try.func3, Try.ntmps3
  go_wp2_with fail
  refine (hash_any _ _ _ z0).mono ?_
  rintro e w2 ⟨rfl, hb⟩
  go_wp2_with fail
  refine (refHash_any _ _ _ z0).mono ?_
  rintro e w3 ⟨rfl, hb3⟩
  go_wp2_with fail
  go_ret
  exact ⟨rfl, below_trans hb hb3⟩
end Go.Proofs.Ytdpihfmbkimgpaa.partsHash
