/-
  What the program's shift and its table of half bytes tell.
-/
import Derived.Test.YthdblnfohbldcaaGreatRows
import Derived.Test.YthdblnfohbldcaaGreatCrcBitsJ
import Derived.WalkKit
import Derived.ProofKit
import Derived.OpenShut
import Derived.Below
namespace Go.Proofs.YthdblnfohbldcaaGreat.Crc
open Go.ChangeShapes Go.WideShapes Go.ChangeAt Go.RowKit
theorem shift_any (x : BitVec 32) (w : World) :
    Calls Tryz.prog 161 #[.int .u32 (x.toNat : Int)] w fun e w' => e = .returned (.int .u32 ((M x).toNat : Int)) ∧ w' = w := by
  have h1 := and_one x
  cases hb : x.getLsbD 0
  · rw [hb] at h1
    have h2 : (bits .and .u32 (x.toNat : Int) 1 == 1) = false := by rw [h1]; rfl
    have H := M_even_val x hb
    clear h1 hb
    go_enter Tryz.func161, Tryz.ntmps161
    go_wp2
    go_ret
    exact ⟨rfl, rfl⟩
  · rw [hb] at h1
    have h2 : (bits .and .u32 (x.toNat : Int) 1 == 1) = true := by rw [h1]; rfl
    have H := M_odd_val x hb
    clear h1 hb
    go_enter Tryz.func161, Tryz.ntmps161
    go_wp2
    go_ret
    exact ⟨rfl, rfl⟩
def tab (k : Nat) : Array Value := Array.ofFn (n := 16) fun j => if j.val < k then .int .u32 ((Mn 4 (BitVec.ofNat 32 j.val)).toNat : Int) else .int .u32 0
def zero16 : Array Value := tab 0
theorem zero16_eq : (#[Value.int IntKind.u32 0, Value.int IntKind.u32 0, Value.int IntKind.u32 0, Value.int IntKind.u32 0,
      Value.int IntKind.u32 0, Value.int IntKind.u32 0, Value.int IntKind.u32 0, Value.int IntKind.u32 0,
      Value.int IntKind.u32 0, Value.int IntKind.u32 0, Value.int IntKind.u32 0, Value.int IntKind.u32 0,
      Value.int IntKind.u32 0, Value.int IntKind.u32 0, Value.int IntKind.u32 0, Value.int IntKind.u32 0] : Array Value) = tab 0 := by kernel_rfl
theorem tab_size (k : Nat) : (tab k).size = 16 := by simp [tab]
theorem tab_get (k j : Nat) (h : j < 16) : (tab k)[j]? = some (if j < k then .int .u32 ((Mn 4 (BitVec.ofNat 32 j)).toNat : Int) else .int .u32 0) := by
  rw [Array.getElem?_eq_getElem (by rw [tab_size]; exact h)]
  simp [tab]
theorem tab_set (k : Nat) : (tab k).setIfInBounds k (.int .u32 ((Mn 4 (BitVec.ofNat 32 k)).toNat : Int)) = tab (k + 1) := by
  apply Array.ext
  · simp [tab_size]
  · intro i h1 h2
    simp [tab_size] at h1
    rw [Array.getElem_setIfInBounds (by rw [tab_size]; exact h1)]
    by_cases e : k = i
    · subst e; simp [tab]
    · rw [if_neg e]
      simp only [tab, Array.getElem_ofFn]
      by_cases hi : i < k
      · rw [if_pos hi, if_pos (by omega)]
      · rw [if_neg hi, if_neg (by omega)]
theorem tab16_eq : tab 16 = #[Value.int IntKind.u32 0, Value.int IntKind.u32 274646895, Value.int IntKind.u32 549293790, Value.int IntKind.u32 820201905, Value.int IntKind.u32 1098587580, Value.int IntKind.u32 1361435347, Value.int IntKind.u32 1640403810, Value.int IntKind.u32 1905808397, Value.int IntKind.u32 2197175160, Value.int IntKind.u32 2460548119, Value.int IntKind.u32 2722870694, Value.int IntKind.u32 2987750089, Value.int IntKind.u32 3280807620, Value.int IntKind.u32 3553878443, Value.int IntKind.u32 3811616794, Value.int IntKind.u32 4084100981] := by kernel_rfl
set_option maxHeartbeats 1000000 in
theorem halves_any (w : World) :
    Calls Tryz.prog 133 #[] w fun e w' => e = .returned (.agg (tab 16)) ∧ Below w.heap.size w w' := by
  go_enter Tryz.func133, Tryz.ntmps133
  go_wp2
  rw [zero16_eq]
  go_loopw [4] (fun i wr => ∃ k : Nat, k ≤ 16 ∧ i = .int .i64 k ∧ wr = (w.alloc (Obj.cells (tab 0) 183)).alloc (Obj.cells (tab k) 183)) (fun i _ => 16 - (intOf i).toNat)
  case atStart => exact ⟨0, Nat.zero_le _, rfl, rfl⟩
  case round =>
    obtain ⟨k, hk, rfl, rfl⟩ := hrel
    by_cases hlt : k < 16
    · have HK : Hid ((k : Int) = ((BitVec.ofNat 32 k).toNat : Int)) := by
        show (k : Int) = _
        rw [BitVec.toNat_ofNat]; omega
      have hd : decide ((k : Int) < 16) = true := by simp; omega
      have hg := tab_get k k hlt
      rw [if_neg (by omega)] at hg
      go_wp2
      go_loopw [3, 9] (fun x i w' => ∃ j : Nat, j ≤ 4 ∧ i = .int .i64 j ∧ x = .int .u32 ((Mn j (BitVec.ofNat 32 k)).toNat : Int) ∧ w' = (w.alloc (Obj.cells (tab 0) 183)).alloc (Obj.cells (tab k) 183)) (fun _ i _ => 4 - (intOf i).toNat)
      case atStart => exact ⟨0, Nat.zero_le _, rfl, by rw [HK.out]; rfl, rfl⟩
      case round =>
        obtain ⟨j, hj, rfl, rfl, rfl⟩ := hrel
        by_cases hjl : j < 4
        · go_wp2_with (go_at_call 161; refine (shift_any _ _).mono ?_; rintro e w' ⟨rfl, rfl⟩)
          go_roundw
          case rel => exact ⟨j + 1, by omega, by go_num, by rw [Mn_succ], trivial⟩
          case measure => simp [intOf]; omega
        · have : j = 4 := by omega
          subst this
          go_wp2
          go_roundw
          case rel => exact ⟨k + 1, by omega, by go_num, by rw [← tab_set k]⟩
          case measure => simp [intOf]; omega
    · have : k = 16 := by omega
      subst this
      rw [tab16_eq, ← zero16_eq]
      go_wp2
      refine bodyPost_ret (v := .agg (tab 16)) (by rw [tab16_eq]; simp [results, Tryz.results133, go_sem]) rfl ⟨rfl, ?_⟩
      exact ((Below.refl _ _).alloc (Nat.le_refl _) _).alloc (by simp) _
end Go.Proofs.YthdblnfohbldcaaGreat.Crc
