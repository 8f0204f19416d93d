/-
  The names of the statement's four blobs.
-/
import Derived.Test.YtdcjhjpbkpiddaaStGen4
import Derived.Laws.IdiomStrings
namespace Go.Proofs.Ytdcjhjpbkpiddaa.St
open Go.ChangeShapes Go.WideShapes Go.ChangeAt Go.RowKit Go.MuLone
open Go.Proofs.Ytdcjhjpbkpiddaa.Base
set_option linter.unusedVariables false
set_option maxHeartbeats 1000000
def nameOf (k : Nat) : ByteArray := ⟨#[98, 108, 111, 98, 45, UInt8.ofNat (97 + k)]⟩
theorem okNames : ∀ k : Fin 4, okName (nameOf k.val) = true := by decide
theorem okNameOf (k : Nat) (h : k < 4) : okName (nameOf k) = true := okNames ⟨k, h⟩
theorem name_size (k : Nat) : (nameOf k).size = 6 := rfl
theorem nameOf_ne : ∀ j k : Fin 4, j ≠ k → (nameOf j.val).data.toList ≠ (nameOf k.val).data.toList := by decide
theorem key_ne (j k : Nat) (hj : j < 4) (hk : k < 4) (h : j ≠ k) : key (nameOf j) ≠ key (nameOf k) := by
  intro e
  unfold key at e
  injection e with e
  exact nameOf_ne ⟨j, hj⟩ ⟨k, hk⟩ (fun x => h (congrArg Fin.val x)) e
set_option maxRecDepth 100000 in
theorem name_any (k : Nat) (hk : k < 4) (w : World) : Calls Try.prog 6 #[.int .i64 (k : Int)] w fun e w' => e = .returned (.string (nameOf k)) ∧ Below w.heap.size w w' := by
  have hki : (k : Int) < 4 := by omega
  have hwr : IntKind.u8.wrap (97 + (k : Int)) = ((UInt8.ofNat (97 + k)).toNat : Int) := by
    match k, hk with
    | 0, _ => rfl
    | 1, _ => rfl
    | 2, _ => rfl
    | 3, _ => rfl
  obtain ⟨u, hu⟩ : ∃ u, UInt8.ofNat (97 + k) = u := ⟨_, rfl⟩
  rw [hu] at hwr
  have HN : Hid (nameOf k = ⟨#[98, 108, 111, 98, 45, u]⟩) := by show _ = _; unfold nameOf; rw [hu]
  obtain ⟨w1, hw1⟩ : ∃ w1, w.alloc (.cells #[.int .u8 (u.toNat : Int)] 5) = w1 := ⟨_, rfl⟩
  have HB1 : Hid (Below w.heap.size w w1) := by rw [← hw1]; exact (Below.refl _ _).alloc (Nat.le_refl _) _
  have x1 : w1.cell? ⟨w.heap.size, 0, none⟩ = some (.int .u8 (u.toNat : Int)) := by rw [← hw1, cell_of_row _ _ _ _ _ _ (heap_alloc_new _ _)]; rfl
  have hcv : (convert 25 9 (.slice (some ⟨w.heap.size, 0, none⟩) 1 1)).run Try.prog w1 = .ok (.string ⟨#[u]⟩) w1 :=
    run_convert_bytes_back (P := Try.prog) w1 25 9 5 ⟨w.heap.size, 0, none⟩ 1 [u] Try.underlying25 Try.underlying5 Try.underlying9 (fun j hj => by
      have h0 : j = 0 := by simp at hj; exact hj
      subst h0
      exact x1)
  clear hu x1
  rw [HN.out]
  go_enter Try.func6, Try.ntmps6
  go_wp2_with fail
  go_ret
  refine ⟨?_, HB1.out⟩
  first | rfl | simp [ByteArray.append]
end Go.Proofs.Ytdcjhjpbkpiddaa.St
