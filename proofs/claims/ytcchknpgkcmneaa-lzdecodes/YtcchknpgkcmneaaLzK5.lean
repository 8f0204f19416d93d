/-
  The statements' helpers: bytes written full and added to; whether two lists of tokens are the same.
-/
import Derived.Test.YtcchknpgkcmneaaOver
import Derived.Test.YtcchknpgkcmneaaLzSame
import Derived.Test.YtcchknpgkcmneaaLzC6
import Derived.Deep.RegionHeld
namespace Go.Proofs.Ytcchknpgkcmneaa.Lz
open Go.ChangeShapes Go.WideShapes Go.ChangeAt Go.RowKit
open Go.Proofs.Ytcchknpgkcmneaa.Base Go.Proofs.Ytcchknpgkcmneaa.Nums
set_option linter.unusedVariables false
set_option maxHeartbeats 1000000 in
set_option maxRecDepth 100000 in
theorem full_any (base n c : Nat) (a : Option Addr) (bs : List (BitVec 8)) (w : World) (ho : Own w base (.slice a n c) bs) (hl : n ≤ 140737488351232) (hb : base ≤ w.heap.size) :
    Calls Try.prog 31 #[.slice a n c] w fun e w' => e = .returned (.int .i64 ((n : Int) + 64)) ∧ w.grownBy w' (Value.slice a n c).ownBlock := by
  have HOV : Hid (Over w w base (.slice a n c) (.slice a n c) n) := by
    have h := Over.start ho
    rw [← (Got.cap ho).2] at h
    exact h
  have hli : (n : Int) ≤ 140737488351232 := by omega
  clear ho
  go_enter Try.func31, Try.ntmps31
  go_wp2_with fail
  go_loopw [3] (fun i wr => ∃ k : Nat, k ≤ n ∧ i = .int .i64 (k : Int) ∧ Hid (Over w wr base (.slice a n c) (.slice a n c) n)) (fun i _ => n - (intOf i).toNat)
  case atStart => exact ⟨0, Nat.zero_le _, rfl, HOV⟩
  case round =>
    clear HOV
    obtain ⟨k, hk, rfl, HOV⟩ := hrel
    by_cases hlt : (k : Int) < (n : Int)
    · obtain ⟨g3, rfl⟩ := HOV.out.some' (by omega)
      obtain ⟨⟨d, hd⟩, hf⟩ := HOV.out.cell k (by omega)
      go_wp2_with fail
      go_roundw
      case rel => exact ⟨k + 1, by omega, by go_num, HOV.out.store k 202⟩
      case measure => simp [intOf]; omega
    · go_wp2_with fail
      go_loopw [0, 4] (fun v i wz => ∃ (j : Nat) (va : Option Addr) (vc : Nat), j ≤ 64 ∧ i = .int .i64 (j : Int) ∧ v = .slice va (n + j) vc ∧ Hid (Over w wz base (.slice a n c) (.slice va (n + j) vc) (n + j))) (fun _ i _ => 64 - (intOf i).toNat)
      case atStart => exact ⟨0, a, c, Nat.zero_le _, rfl, rfl, HOV⟩
      case round =>
        clear HOV
        obtain ⟨j, va, vc, hj, rfl, rfl, HOV⟩ := hrel
        by_cases hlt2 : (j : Int) < 64
        · have HOA := hide (HOV.out.alloc (.cells #[.int .u8 203] 5))
          have hsr : base ≤ wr.heap.size := Nat.le_trans hb HOV.out.2.2.size
          go_wp2_with (at_builtin; refine pushOver w _ rfl _ _ rfl base _ _ (n + j) rfl HOA.out ⟨wr.heap.size, 0, none⟩ 1 203 rfl (cell_one_new _ _ _ 0 _ rfl) (by omega) (by simp; omega) ?_
                       intro g5 c5 w9 hov
                       have HOV9 := hide hov
                       clear hov)
          go_roundw
          case rel => exact ⟨j + 1, _, c5, by omega, by go_num, rfl, HOV9⟩
          case measure => simp [intOf]; omega
        · obtain rfl : j = 64 := by omega
          go_wp2_with fail
          go_ret
          exact ⟨by first | rfl | (apply ret_int; omega), HOV.out.2.2⟩
set_option maxHeartbeats 1000000 in
set_option maxRecDepth 100000 in
theorem same_eq (a b : Option Addr) (n ca cb : Nat) (ts : List Tok) (w : World) (hx : TRd w a n ts) (hy : TRd w b n ts) (hl : n ≤ 140737488351232) :
    Calls Try.prog 29 #[.slice a n ca, .slice b n cb] w fun e w' => e = .returned (.bool true) ∧ Below w.heap.size w w' := by
  have HX := hide hx
  have HY := hide hy
  clear hx hy
  have he : ((n : Int) != (n : Int)) = false := by simp
  have hli : (n : Int) ≤ 140737488351232 := by omega
  go_enter Try.func29, Try.ntmps29
  go_wp2_with fail
  go_loopw [5] (fun i wr => ∃ k : Nat, k ≤ n ∧ i = .int .i64 (k : Int) ∧ Hid (Below w.heap.size w wr)) (fun i _ => n - (intOf i).toNat)
  case atStart => exact ⟨0, Nat.zero_le _, rfl, Below.refl _ _⟩
  case round =>
    obtain ⟨k, hk, rfl, HB⟩ := hrel
    by_cases hlt : k < n
    · have HXr := HX.out.below HB.out
      have HYr := HY.out.below HB.out
      obtain ⟨b1, o1, rfl, hb1, hc1⟩ := HXr.2.2 (by omega)
      obtain ⟨b2, o2, rfl, hb2, hc2⟩ := HYr.2.2 (by omega)
      obtain ⟨la, ln, lc, p0, p1, p2, p3, p4⟩ := hc1 k hlt
      obtain ⟨ma, mn, mc, q0, q1, q2, q3, q4⟩ := hc2 k hlt
      have hki : (k : Int) < (n : Int) := by omega
      have HSB := hide (fun wx (hx : Below wr.heap.size wr wx) => sameBytes_any la ma ln lc mn mc (tokAt ts k).lit (tokAt ts k).lit wx (p3.below hx) (q3.below hx))
      clear HXr HYr hc1 hc2 p3 p4 q3 q4
      generalize (tokAt ts k).dist = D at p1 q1
      generalize (tokAt ts k).len = M at p2 q2
      have d1 : (D != D) = false := by simp
      have d2 : (M != M) = false := by simp
      rw [decide_eq_true (rfl : (tokAt ts k).lit = (tokAt ts k).lit)] at HSB
      go_wp2_with fail
      go_region_held (fun V => V.cell? ⟨b1, o1 + k * 3, none⟩ = some (.slice la ln lc) ∧ V.cell? ⟨b2, o2 + k * 3, none⟩ = some (.slice ma mn mc)) (go_keep) (first
        | (go_at_call 25; refine (HSB.out _ ?_).mono ?_; exact (Below.refl wr.heap.size wr).drew; rintro e w6 ⟨rfl, hb6⟩; have hbb := below_trans ((Below.refl wr.heap.size wr).drew) hb6; have HB6 := hide hbb; have a0 : w6.cell? ⟨b1, o1 + k * 3, none⟩ = some (.slice la ln lc) := (hbb.cell (p := ⟨b1, o1 + k * 3, none⟩) hb1).trans p0; have a1 : w6.cell? ⟨b1, o1 + k * 3 + 1, none⟩ = some (.int .i64 D) := (hbb.cell (p := ⟨b1, o1 + k * 3 + 1, none⟩) hb1).trans p1; have a2 : w6.cell? ⟨b1, o1 + k * 3 + 2, none⟩ = some (.int .i64 M) := (hbb.cell (p := ⟨b1, o1 + k * 3 + 2, none⟩) hb1).trans p2; have b0 : w6.cell? ⟨b2, o2 + k * 3, none⟩ = some (.slice ma mn mc) := (hbb.cell (p := ⟨b2, o2 + k * 3, none⟩) hb2).trans q0; have b3 : w6.cell? ⟨b2, o2 + k * 3 + 1, none⟩ = some (.int .i64 D) := (hbb.cell (p := ⟨b2, o2 + k * 3 + 1, none⟩) hb2).trans q1; have b4 : w6.cell? ⟨b2, o2 + k * 3 + 2, none⟩ = some (.int .i64 M) := (hbb.cell (p := ⟨b2, o2 + k * 3 + 2, none⟩) hb2).trans q2; clear hb6 hbb))
      go_wp2_with fail
      go_quiet (fail)
      go_wp2_with fail
      go_roundw
      case rel => exact ⟨k + 1, by omega, by go_num, below_trans HB.out (below_trans HB6.out (below_drewN' _ _ _))⟩
      case measure => simp [intOf]; omega
    · go_wp2_with fail
      go_ret
      exact ⟨by first | rfl | trivial, HB.out⟩
end Go.Proofs.Ytcchknpgkcmneaa.Lz
