/-
  ordered: the symbols with a count, the rarer ones first; its comparison.
-/
import Derived.Test.YthdblnfohbldcaaGreatHuffS0
import Derived.Test.YthdblnfohbldcaaGreatIBase
import Derived.Deep.RegionHeld
import Derived.Lib.RowBridge
namespace Go.Proofs.YthdblnfohbldcaaGreat.Pm
open Go.ChangeShapes Go.WideShapes Go.ChangeAt Go.RowKit
open Go.Proofs.YthdblnfohbldcaaGreat.Base
open Go.Shelf Go.Sort
set_option linter.unusedVariables false
def sgn (a b : Int) : Int := if a < b then -1 else if b < a then 1 else 0
theorem nan64_any (a : Int) (w : World) : Calls Tryz.prog 174 #[.int .i64 a] w fun e w' => e = .returned (.bool false) ∧ w' = w := by
  go_enter Tryz.func174, Tryz.ntmps174
  go_wp2
  go_ret
  exact ⟨rfl, rfl⟩
theorem nanI_any (a : Int) (w : World) : Calls Tryz.prog 144 #[.int .i64 a] w fun e w' => e = .returned (.bool false) ∧ w' = w := by
  go_enter Tryz.func144, Tryz.ntmps144
  go_wp2
  go_ret
  exact ⟨rfl, rfl⟩
theorem cmp64_any (a b : Int) (w : World) : Calls Tryz.prog 167 #[.int .i64 a, .int .i64 b] w fun e w' => e = .returned (.int .i64 (sgn a b)) ∧ w' = w := by
  go_enter Tryz.func167, Tryz.ntmps167
  go_wp2_with fail
  refine (nan64_any _ _).mono ?_
  rintro e w1 ⟨rfl, rfl⟩
  go_wp2_with fail
  refine (nan64_any _ _).mono ?_
  rintro e w1 ⟨rfl, rfl⟩
  by_cases h1 : a < b
  · go_wp2
    go_ret
    exact ⟨ret_int (by unfold sgn; rw [if_pos (by omega)]), rfl⟩
  · by_cases h2 : b < a
    · go_wp2
      go_ret
      exact ⟨ret_int (by unfold sgn; rw [if_neg (by omega), if_pos (by omega)]), rfl⟩
    · go_wp2
      go_ret
      exact ⟨ret_int (by unfold sgn; rw [if_neg (by omega), if_neg (by omega)]), rfl⟩
theorem cmpI_any (a b : Int) (w : World) : Calls Tryz.prog 106 #[.int .i64 a, .int .i64 b] w fun e w' => e = .returned (.int .i64 (sgn a b)) ∧ w' = w := by
  go_enter Tryz.func106, Tryz.ntmps106
  go_wp2_with fail
  refine (nanI_any _ _).mono ?_
  rintro e w1 ⟨rfl, rfl⟩
  go_wp2_with fail
  refine (nanI_any _ _).mono ?_
  rintro e w1 ⟨rfl, rfl⟩
  by_cases h1 : a < b
  · go_wp2
    go_ret
    exact ⟨ret_int (by unfold sgn; rw [if_pos (by omega)]), rfl⟩
  · by_cases h2 : b < a
    · go_wp2
      go_ret
      exact ⟨ret_int (by unfold sgn; rw [if_neg (by omega), if_pos (by omega)]), rfl⟩
    · go_wp2
      go_ret
      exact ⟨ret_int (by unfold sgn; rw [if_neg (by omega), if_neg (by omega)]), rfl⟩
set_option maxHeartbeats 1000000 in
theorem or_any (b : Nat) (c d : Int) (w : World) (h0 : w.cell? ⟨b, 0, none⟩ = some (.int .i64 c)) (h1 : w.cell? ⟨b, 1, none⟩ = some (.int .i64 d)) :
    Calls Tryz.prog 166 #[.slice (some ⟨b, 0, none⟩) 2 2] w fun e w' => e = .returned (.int .i64 (if c = 0 then d else c)) ∧ w' = w := by
  by_cases hc : c = 0
  · have hc1 : (c != 0) = false := by rw [bne_eq_false_iff_eq]; exact hc
    rw [if_pos hc]
    by_cases hd : d = 0
    · have hd1 : (d != 0) = false := by rw [bne_eq_false_iff_eq]; exact hd
      have HD := hide hd
      clear hc hd
      go_enter Tryz.func166, Tryz.ntmps166
      go_wp2
      refine wp_loop_rounds 3 ?_
      rw [rounds_succ]
      go_wp2
      rw [rounds_succ]
      go_wp2
      rw [rounds_succ]
      go_wp2
      go_ret
      exact ⟨ret_int HD.out.symm, rfl⟩
    · have hd1 : (d != 0) = true := by rw [bne_iff_ne]; exact hd
      clear hc hd
      go_enter Tryz.func166, Tryz.ntmps166
      go_wp2
      refine wp_loop_rounds 3 ?_
      rw [rounds_succ]
      go_wp2
      rw [rounds_succ]
      go_wp2
      go_ret
      exact ⟨rfl, rfl⟩
  · have hc1 : (c != 0) = true := by rw [bne_iff_ne]; exact hc
    rw [if_neg hc]
    clear hc
    go_enter Tryz.func166, Tryz.ntmps166
    go_wp2
    refine wp_loop_rounds 3 ?_
    rw [rounds_succ]
    go_wp2
    go_ret
    exact ⟨rfl, rfl⟩
/-- The comparison of two symbols. -/
def cfI (cs : List Int) (x y : Nat) : Int := if sgn (cs.getD x 0) (cs.getD y 0) = 0 then sgn (y : Int) (x : Int) else sgn (cs.getD x 0) (cs.getD y 0)
set_option maxHeartbeats 1000000 in
theorem closure_any (bx : Nat) (b off len cap : Nat) (cs : List Int) (x y : Nat) (w : World) (hx : x < len) (hy : y < len) (hb : w.cell? ⟨bx, 0, none⟩ = some (.slice (some ⟨b, off, none⟩) len cap))
    (h1 : w.cell? ⟨b, off + x, none⟩ = some (.int .i64 (cs.getD x 0))) (h2 : w.cell? ⟨b, off + y, none⟩ = some (.int .i64 (cs.getD y 0))) :
    Calls Tryz.prog 165 #[.int .i64 (x : Int), .int .i64 (y : Int), .pointer (some ⟨bx, 0, none⟩)] w fun e w' => e = .returned (.int .i64 (cfI cs x y)) ∧ ∃ q os', w' = grow (w.drewN q) os' := by
  have HCF : Hid (cfI cs x y = if sgn (cs.getD x 0) (cs.getD y 0) = 0 then sgn (y : Int) (x : Int) else sgn (cs.getD x 0) (cs.getD y 0)) := rfl
  generalize cs.getD x 0 = X at h1 HCF
  generalize cs.getD y 0 = Y at h2 HCF
  have H1 := hide (fun W => cmp64_any X Y W)
  have H2 := hide (fun W => cmpI_any (y : Int) (x : Int) W)
  generalize sgn X Y = S1 at H1 HCF
  generalize sgn (y : Int) (x : Int) = S2 at H2 HCF
  have HO := hide (fun b W h0 h1 => or_any b S1 S2 W h0 h1)
  generalize (if S1 = 0 then S2 else S1) = R at HO HCF
  have hxi : (x : Int) < (len : Int) := by omega
  have hyi : (y : Int) < (len : Int) := by omega
  go_enter Tryz.func165, Tryz.ntmps165
  go_wp2_with fail
  go_region_held (fun V => V.cell? ⟨bx, 0, none⟩ = some (.slice (some ⟨b, off, none⟩) len cap) ∧ V.cell? ⟨b, off + x, none⟩ = some (.int .i64 X) ∧ V.cell? ⟨b, off + y, none⟩ = some (.int .i64 Y)) (go_keep) (first
    | (go_at_call 167; refine (H1.out _).mono ?_; rintro e w1 ⟨rfl, rfl⟩)
    | (go_at_call 106; refine (H2.out _).mono ?_; rintro e w1 ⟨rfl, rfl⟩)
    | (go_at_call 166; refine (HO.out _ _ (by simp) (by simp)).mono ?_; rintro e w1 ⟨rfl, rfl⟩))
  all_goals
    go_wp2_with fail
    go_ret
    exact ⟨ret_int HCF.out.symm, 1, _, by rw [alloc_eq_grow, drew_grow]; rfl⟩
end Go.Proofs.YthdblnfohbldcaaGreat.Pm
