/-
  NewBuilder; a builder that is nil; Finish with the codes as they are.
-/
import Derived.Test.YthdblnfohbldcaaGreatBlFinJ
import Derived.Test.YthdblnfohbldcaaGreatLzE4J
import Derived.Test.YthdblnfohbldcaaGreatHuffE7J
namespace Go.Proofs.YthdblnfohbldcaaGreat.Bl
open Go.ChangeShapes Go.WideShapes Go.ChangeAt Go.RowKit
open Go.Proofs.YthdblnfohbldcaaGreat.Base Go.Proofs.YthdblnfohbldcaaGreat.Nums Go.Proofs.YthdblnfohbldcaaGreat.Crc
set_option linter.unusedVariables false
set_option maxRecDepth 100000 in
theorem newB_bad (r m : Int) (w : World) (h : ¬ (1 ≤ r ∧ r ≤ 64 ∧ 64 ≤ m ∧ m ≤ 65536)) :
    Calls Tryz.prog 19 #[.int .i64 r, .int .i64 m] w fun e w' => e = .returned (.tuple #[.pointer none, .int .i64 3]) ∧ w' = w := by
  by_cases h1 : r < 1
  · go_enter Tryz.func19, Tryz.ntmps19
    go_wp2_with fail
    go_ret2
    exact ⟨rfl, rfl⟩
  by_cases h2 : 64 < r
  · go_enter Tryz.func19, Tryz.ntmps19
    go_wp2_with fail
    go_ret2
    exact ⟨rfl, rfl⟩
  by_cases h3 : m < 64
  · go_enter Tryz.func19, Tryz.ntmps19
    go_wp2_with fail
    go_ret2
    exact ⟨rfl, rfl⟩
  have h4 : 65536 < m := by omega
  go_enter Tryz.func19, Tryz.ntmps19
  go_wp2_with fail
  go_ret2
  exact ⟨rfl, rfl⟩
set_option maxRecDepth 100000 in
theorem newB_any (r m : Int) (w : World) (h : 1 ≤ r ∧ r ≤ 64 ∧ 64 ≤ m ∧ m ≤ 65536) :
    Calls Tryz.prog 19 #[.int .i64 r, .int .i64 m] w fun e w' => e = .returned (.tuple #[.pointer (some ⟨w.heap.size, 0, none⟩), .int .i64 0]) ∧ BB w' w.heap.size r m (.slice none 0 0) (.slice none 0 0) 0 ⟨#[]⟩ ∧ Below w.heap.size w w' := by
  have h1 : ¬ r < 1 := by omega
  have h2 : ¬ 64 < r := by omega
  have h3 : ¬ m < 64 := by omega
  have h4 : ¬ 65536 < m := by omega
  have HB : Hid (BB (w.alloc (.cells #[.int .i64 r, .int .i64 m, .slice none 0 0, .slice none 0 0, .int .i64 0, .string ⟨#[]⟩] 108)) w.heap.size r m (.slice none 0 0) (.slice none 0 0) 0 ⟨#[]⟩) := heap_alloc_new _ _
  have HW : Hid (Below w.heap.size w (w.alloc (.cells #[.int .i64 r, .int .i64 m, .slice none 0 0, .slice none 0 0, .int .i64 0, .string ⟨#[]⟩] 108))) := (Below.refl _ _).alloc (Nat.le_refl _) _
  go_enter Tryz.func19, Tryz.ntmps19
  go_wp2_with fail
  go_ret2
  exact ⟨rfl, HB.out, HW.out⟩
set_option maxRecDepth 100000 in
theorem blen_nil (w : World) : Calls Tryz.prog 31 #[.pointer none] w fun e w' => e = .returned (.int .i64 0) ∧ w' = w := by
  go_enter Tryz.func31, Tryz.ntmps31
  go_wp2_with fail
  go_ret
  exact ⟨rfl, rfl⟩
set_option maxRecDepth 100000 in
theorem add_nil (key value : ByteArray) (w : World) : Calls Tryz.prog 21 #[.pointer none, .string key, .string value] w fun e w' => e = .returned (.int .i64 1) ∧ w' = w := by
  go_enter Tryz.func21, Tryz.ntmps21
  go_wp2_with fail
  go_ret
  exact ⟨rfl, rfl⟩
set_option maxRecDepth 100000 in
theorem fin_nil (w : World) : Calls Tryz.prog 33 #[.pointer none] w fun e w' => e = .returned (.tuple #[.slice none 0 0, .int .i64 0, .int .i64 1]) ∧ w' = w := by
  go_enter Tryz.func33, Tryz.ntmps33
  go_wp2_with fail
  go_ret3
  exact ⟨rfl, rfl⟩
set_option maxRecDepth 100000 in
theorem size_nil (w : World) : Calls Tryz.prog 22 #[.pointer none] w fun e w' => e = .returned (.int .i64 0) ∧ w' = w := by
  go_enter Tryz.func22, Tryz.ntmps22
  go_wp2_with fail
  go_ret
  exact ⟨rfl, rfl⟩
end Go.Proofs.YthdblnfohbldcaaGreat.Bl
/-
  Finish with the codes as they are: the tile of entries.
-/
namespace Go.Proofs.YthdblnfohbldcaaGreat.Bl
open Go.ChangeShapes Go.WideShapes Go.ChangeAt Go.RowKit
open Go.Proofs.YthdblnfohbldcaaGreat.Base Go.Proofs.YthdblnfohbldcaaGreat.Nums Go.Proofs.YthdblnfohbldcaaGreat.Crc
set_option linter.unusedVariables false
open Huff in
theorem huff_len (t : List (BitVec 8)) : (encoded t).1.length ≤ 1048609 := by
  unfold encoded
  split
  · simp
  · next h =>
    simp only []
    have ht : t.length ≤ 65536 := by omega
    rw [packed_app, List.length_append, (flushed _ (bitsOf_le _ _)).1]
    have h1 := (pairs_small (textLens t) (by rw [textLens_len]; omega)).1
    have h2 := bitsOf_len (codesOf (textLens t)) (codes_lenOk t ht) t
    omega
theorem lz_len (x : List (BitVec 8)) (h : x.length ≤ 65536) : (Lz.bytesOf (Lz.ownFrom x 0 0)).length ≤ 1835008 := by
  have h1 := (Lz.own_good x h x.length 0 0 (by omega) (Nat.le_refl _) (Nat.zero_le _)).1
  have h2 := Lz.good_bytes _ 0 x.length h h1
  omega
/-- The shortest payload of raw bytes, its flag behind it; the tile. -/
def packB (bs : List (BitVec 8)) : List (BitVec 8) := packL bs (Lz.bytesOf (Lz.ownFrom bs 0 0)) (Huff.encoded bs).1 (Huff.encoded bs).2
def tileB (bs : List (BitVec 8)) : List (BitVec 8) := tile (packB bs)
/-- Finish of a builder that has entries. -/
theorem finish_any (q base : Nat) (r m : Int) (ev pv : Value) (es : List (BitVec 8)) (ps : List Int) (n : Nat) (last : ByteArray) (w : World)
    (hB : BB w q r m ev pv (n : Int) last) (he : Own w base ev es) (hp : OwnI w base pv ps) (hbase : base ≤ w.heap.size)
    (hr1 : 0 ≤ r) (hr2 : r ≤ 64) (hn : n ≤ 1048576) (hn1 : 0 < n) (hps : ∀ k, k < ps.length → 0 ≤ ps.getD k 0 ∧ ps.getD k 0 ≤ 1048576) (hR : (rawL es ps r n).length ≤ 65536) :
    Calls Tryz.prog 33 #[.pointer (some ⟨q, 0, none⟩)] w fun e w' => ∃ g, e = .returned (.tuple #[.slice (some ⟨g, 0, none⟩) ((packB (rawL es ps r n)).length + 4) ((packB (rawL es ps r n)).length + 4), .int .i64 ((rawL es ps r n).length : Nat), .int .i64 0]) ∧ Own w' w.heap.size (.slice (some ⟨g, 0, none⟩) ((packB (rawL es ps r n)).length + 4) ((packB (rawL es ps r n)).length + 4)) (tileB (rawL es ps r n)) ∧ BB w' q r m (.slice none 0 0) (.slice none 0 0) 0 ⟨#[]⟩ ∧ KeptF w w' (fun i => i = q) := by
  have hl := rawL_len es ps r n
  refine fin_any q base r m ev pv es _ _ _ ps n last w hB he hp hbase hr1 hr2 (by omega) (by omega) hn hn1 hps ?_ ?_ ?_ ?_
  · have := lz_len _ hR; omega
  · have := huff_len (rawL es ps r n); omega
  · exact fun a cap W hr hc hc2 hnil => Lz.encode_any a _ cap _ W hr hc hc2 hR hnil
  · exact fun a cap W hr hc => Huff.encode_any a _ cap _ W hr hc
end Go.Proofs.YthdblnfohbldcaaGreat.Bl
