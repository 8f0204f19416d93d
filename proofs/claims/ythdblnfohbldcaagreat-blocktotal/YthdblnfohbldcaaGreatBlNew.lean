/-
  NewBuilder; a builder that is nil; Finish with the codes as they are.
-/
import Derived.Test.YthdblnfohbldcaaGreatBlFin
import Derived.Test.YthdblnfohbldcaaGreatLzE4
import Derived.Test.YthdblnfohbldcaaGreatHuffE6
namespace Go.Proofs.YthdblnfohbldcaaGreat.Bl
open Go.ChangeShapes Go.WideShapes Go.ChangeAt Go.RowKit
open Go.Proofs.YthdblnfohbldcaaGreat.Base Go.Proofs.YthdblnfohbldcaaGreat.Nums Go.Proofs.YthdblnfohbldcaaGreat.Crc
set_option linter.unusedVariables false
set_option maxRecDepth 100000 in
theorem newB_bad (r m : Int) (w : World) (h : ¬ (1 ≤ r ∧ r ≤ 64 ∧ 64 ≤ m ∧ m ≤ 65536)) :
    Calls Tryz.prog 19 #[.int .i64 r, .int .i64 m] w fun e w' => e = .returned (.tuple #[.pointer none, .int .i64 3]) ∧ w' = w := by
  by_cases h1 : r < 1
  · go_enter Tryz.func19, Tryz.ntmps19
    go_wp2_with fail
    go_ret2
    exact ⟨rfl, rfl⟩
  by_cases h2 : 64 < r
  · go_enter Tryz.func19, Tryz.ntmps19
    go_wp2_with fail
    go_ret2
    exact ⟨rfl, rfl⟩
  by_cases h3 : m < 64
  · go_enter Tryz.func19, Tryz.ntmps19
    go_wp2_with fail
    go_ret2
    exact ⟨rfl, rfl⟩
  have h4 : 65536 < m := by omega
  go_enter Tryz.func19, Tryz.ntmps19
  go_wp2_with fail
  go_ret2
  exact ⟨rfl, rfl⟩
set_option maxRecDepth 100000 in
theorem newB_any (r m : Int) (w : World) (h : 1 ≤ r ∧ r ≤ 64 ∧ 64 ≤ m ∧ m ≤ 65536) :
    Calls Tryz.prog 19 #[.int .i64 r, .int .i64 m] w fun e w' => e = .returned (.tuple #[.pointer (some ⟨w.heap.size, 0, none⟩), .int .i64 0]) ∧ BB w' w.heap.size r m (.slice none 0 0) (.slice none 0 0) 0 ⟨#[]⟩ ∧ Below w.heap.size w w' := by
  have h1 : ¬ r < 1 := by omega
  have h2 : ¬ 64 < r := by omega
  have h3 : ¬ m < 64 := by omega
  have h4 : ¬ 65536 < m := by omega
  have HB : Hid (BB (w.alloc (.cells #[.int .i64 r, .int .i64 m, .slice none 0 0, .slice none 0 0, .int .i64 0, .string ⟨#[]⟩] 108)) w.heap.size r m (.slice none 0 0) (.slice none 0 0) 0 ⟨#[]⟩) := heap_alloc_new _ _
  have HW : Hid (Below w.heap.size w (w.alloc (.cells #[.int .i64 r, .int .i64 m, .slice none 0 0, .slice none 0 0, .int .i64 0, .string ⟨#[]⟩] 108))) := (Below.refl _ _).alloc (Nat.le_refl _) _
  go_enter Tryz.func19, Tryz.ntmps19
  go_wp2_with fail
  go_ret2
  exact ⟨rfl, HB.out, HW.out⟩
set_option maxRecDepth 100000 in
theorem blen_nil (w : World) : Calls Tryz.prog 31 #[.pointer none] w fun e w' => e = .returned (.int .i64 0) ∧ w' = w := by
  go_enter Tryz.func31, Tryz.ntmps31
  go_wp2_with fail
  go_ret
  exact ⟨rfl, rfl⟩
set_option maxRecDepth 100000 in
theorem add_nil (key value : ByteArray) (w : World) : Calls Tryz.prog 21 #[.pointer none, .string key, .string value] w fun e w' => e = .returned (.int .i64 1) ∧ w' = w := by
  go_enter Tryz.func21, Tryz.ntmps21
  go_wp2_with fail
  go_ret
  exact ⟨rfl, rfl⟩
set_option maxRecDepth 100000 in
theorem fin_nil (w : World) : Calls Tryz.prog 33 #[.pointer none] w fun e w' => e = .returned (.tuple #[.slice none 0 0, .int .i64 0, .int .i64 1]) ∧ w' = w := by
  go_enter Tryz.func33, Tryz.ntmps33
  go_wp2_with fail
  go_ret3
  exact ⟨rfl, rfl⟩
set_option maxRecDepth 100000 in
theorem size_nil (w : World) : Calls Tryz.prog 22 #[.pointer none] w fun e w' => e = .returned (.int .i64 0) ∧ w' = w := by
  go_enter Tryz.func22, Tryz.ntmps22
  go_wp2_with fail
  go_ret
  exact ⟨rfl, rfl⟩
end Go.Proofs.YthdblnfohbldcaaGreat.Bl
