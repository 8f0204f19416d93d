/-
  The statements' own: roomy, sameInts, back, samePieces.
-/
import Derived.Test.YtckfjhgnmegbhabIBase
import Derived.Test.YtckfjhgnmegbhabRowF
import Derived.Test.YtckfjhgnmegbhabLnEq
import Derived.Test.YtckfjhgnmegbhabBase2
namespace Go.Proofs.Ytckfjhgnmegbhab.Ln
open Go.ChangeShapes Go.WideShapes Go.ChangeAt Go.RowKit
open Go.Proofs.Ytckfjhgnmegbhab.Base Go.Proofs.Ytckfjhgnmegbhab.Rf
set_option linter.unusedVariables false
def marksI : List Int := List.replicate 64 (-7777)
/-- The list turned round, as a loop turns it. -/
def bkFrom : Nat → Nat → List Int → List Int
  | 0, _, l => l
  | f + 1, i, l => if i < l.length - 1 - i then bkFrom f (i + 1) ((l.set i (l.getD (l.length - 1 - i) 0)).set (l.length - 1 - i) (l.getD i 0)) else l
def bk (l : List Int) : List Int := bkFrom l.length 0 l
theorem bkFrom_len (f : Nat) : ∀ i l, (bkFrom f i l).length = l.length := by
  induction f with
  | zero => intro i l; rfl
  | succ f ih =>
    intro i l
    unfold bkFrom
    split
    · rw [ih, List.length_set, List.length_set]
    · rfl
theorem bk_len (l : List Int) : (bk l).length = l.length := bkFrom_len _ _ _
theorem getD_left (xs ys : List Int) (k : Nat) (h : k < xs.length) : (xs ++ ys).getD k 0 = xs.getD k 0 := by
  rw [List.getD_eq_getElem?_getD, List.getElem?_append_left h, List.getD_eq_getElem?_getD]
set_option maxHeartbeats 1000000 in
set_option maxRecDepth 100000 in
theorem roomy_any (a : Option Addr) (len cap : Nat) (xs : List Int) (w : World) (hr : RdI w a len xs) (hl : len ≤ 17592186043904) :
    Calls Try.prog 4 #[.slice a len cap] w fun e w' => e = .returned (.slice (some ⟨w.heap.size, 0, none⟩) (len + 64) (len + 64)) ∧ RowI 3 w' w.heap.size (xs ++ marksI) ∧ Below w.heap.size w w' := by
  obtain ⟨h1, _, h3⟩ := hr
  have HL := hide h1
  have HC := hide h3
  have HZ : Hid ((xs ++ marksI).length = len + 64) := by show _ = _; rw [List.length_append, h1]; rfl
  clear h1 h3
  have hli : (len : Int) ≤ 17592186043904 := by omega
  have mk := make_row_int (len + 64) ((len : Int) + 64) (by omega) (by omega)
  have HN : Hid (RowI 3 (w.alloc (.cells (ivals (List.replicate (len + 64) 0)).toArray 3)) w.heap.size (List.replicate (len + 64) 0)) := rowi_new _ _ _
  have HB0 : Hid (Below w.heap.size w (w.alloc (.cells (ivals (List.replicate (len + 64) 0)).toArray 3))) := (Below.refl _ _).alloc (Nat.le_refl _) _
  generalize (ivals (List.replicate (len + 64) 0)).toArray = A at mk HN HB0
  go_enter Try.func4, Try.ntmps4
  go_wp2_with fail
  go_loopw [4] (fun i wr => ∃ k : Nat, k ≤ len + 64 ∧ i = .int .i64 (k : Int) ∧ Hid (RowI 3 wr w.heap.size (laidTo (xs ++ marksI) k)) ∧ Hid (Below w.heap.size w wr)) (fun i _ => len + 64 - (intOf i).toNat)
  case atStart => exact ⟨0, Nat.zero_le _, rfl, by rw [laidTo_zero, HZ.out]; exact HN, HB0⟩
  case round =>
    clear HN HB0
    obtain ⟨k, hk, rfl, HO, HB⟩ := hrel
    by_cases hlt : k < len + 64
    · have g1 := HO.out.cell k (by rw [laidTo_len _ _ (by rw [HZ.out]; exact hk), HZ.out]; exact hlt)
      generalize (laidTo (xs ++ marksI) k).getD k 0 = c0 at g1
      have g2 := HO.out.frozen k
      have HS := hide (laidTo_succ (xs ++ marksI) k (by rw [HZ.out]; exact hlt))
      by_cases hlb : k < len
      · obtain ⟨b1, o1, rfl, hb1, hcell⟩ := unhide HC (by omega)
        have g3 := hcell k hlb
        clear hcell
        have g4 : wr.cell? ⟨b1, o1 + k, none⟩ = some (.int .i64 (xs.getD k 0)) := by
          rw [HB.out.cell (p := ⟨b1, o1 + k, none⟩) hb1]; exact g3
        clear g3
        have HX : Hid ((xs ++ marksI).getD k 0 = xs.getD k 0) := by
          show _ = _
          rw [List.getD_eq_getElem?_getD, List.getElem?_append_left (by have := HL.out; omega), List.getD_eq_getElem?_getD]
        generalize xs.getD k 0 = c at g4 HX
        have hnb : b1 ≠ w.heap.size := by omega
        have hki : (k : Int) < (len : Int) + 64 := by omega
        have hki2 : (k : Int) < (len : Int) := by omega
        go_wp2_with fail
        go_roundw
        case rel =>
          refine ⟨k + 1, by omega, by go_num, ?_, (HB.out.setCell (Nat.le_refl _) _).setCell (Nat.le_refl _) _⟩
          have h := (HO.out.store k (-7777)).store k c
          rw [List.set_set, ← HX.out, HS.out] at h
          rw [HX.out] at h
          exact h
        case measure => simp [intOf]; omega
      · have HX : Hid ((xs ++ marksI).getD k 0 = -7777) := by
          show _ = _
          rw [List.getD_eq_getElem?_getD, List.getElem?_append_right (by have := HL.out; omega), HL.out, marksI, List.getElem?_replicate, if_pos (by omega)]
          rfl
        have hki : (k : Int) < (len : Int) + 64 := by omega
        have hki2 : ¬ (k : Int) < (len : Int) := by omega
        go_wp2_with fail
        go_roundw
        case rel =>
          refine ⟨k + 1, by omega, by go_num, ?_, HB.out.setCell (Nat.le_refl _) _⟩
          have h := HO.out.store k (-7777)
          rw [← HX.out, HS.out] at h
          rw [HX.out] at h
          exact h
        case measure => simp [intOf]; omega
    · have hk' : k = len + 64 := by omega
      subst hk'
      go_wp2_with fail
      go_ret
      refine ⟨by first | rfl | trivial, ?_, HB.out⟩
      have h := HO.out
      rw [← HZ.out, laidTo_all] at h
      exact h
set_option maxHeartbeats 1000000 in
theorem sameInts_eq (a b : Option Addr) (la ca cb : Nat) (xs : List Int) (w : World) (hx : RdI w a la xs) (hy : RdI w b la xs) :
    Calls Try.prog 8 #[.slice a la ca, .slice b la cb] w fun e w' => e = .returned (.bool true) ∧ Below w.heap.size w w' := by
  obtain ⟨hlx, hmx, hcx⟩ := hx
  obtain ⟨hly, hmy, hcy⟩ := hy
  have HCX := hide hcx
  have HCY := hide hcy
  clear hlx hly hcx hcy
  have he : ((la : Int) != (la : Int)) = false := by simp
  go_enter Try.func8, Try.ntmps8
  go_wp2
  go_loopw [5] (fun i wr => ∃ k : Nat, k ≤ la ∧ i = .int .i64 k ∧ ∃ n, wr = w.drewN n) (fun i _ => la - (intOf i).toNat)
  case atStart => exact ⟨0, Nat.zero_le _, rfl, 0, rfl⟩
  case round =>
    obtain ⟨k, hk, rfl, n, rfl⟩ := hrel
    by_cases hlt : k < la
    · obtain ⟨b1, o1, rfl, hb1, hc1⟩ := unhide HCX (by omega)
      obtain ⟨b2, o2, rfl, hb2, hc2⟩ := unhide HCY (by omega)
      have g1 := hc1 k hlt
      have g2 := hc2 k hlt
      clear hc1 hc2
      have hki : (k : Int) < (la : Int) := by omega
      generalize xs.getD k 0 = x at g1 g2
      have hq : (x != x) = false := by simp
      go_wp2
      go_quiet (fail)
      go_wp2
      go_roundw
      case rel => exact ⟨k + 1, by omega, by go_num, n + nq, rfl⟩
      case measure => simp [intOf]; omega
    · go_wp2
      go_ret
      exact ⟨by first | rfl | trivial, below_drewN' _ _ _⟩
/-- Turned round, each one more. -/
def bk1 (l : List Int) : List Int := (bk l).map fun x => wrap64 (x + 1)
theorem bk1_len (l : List Int) : (bk1 l).length = l.length := by unfold bk1; rw [List.length_map, bk_len]
/-- The first k of them one more. -/
def up1 (l : List Int) (k : Nat) : List Int := (l.take k).map (fun x => wrap64 (x + 1)) ++ l.drop k
theorem up1_len (l : List Int) (k : Nat) (h : k ≤ l.length) : (up1 l k).length = l.length := by unfold up1; rw [List.length_append, List.length_map, List.length_take, List.length_drop]; omega
theorem up1_get (l : List Int) (k : Nat) (h : k < l.length) : (up1 l k).getD k 0 = l.getD k 0 := by
  unfold up1
  rw [List.getD_eq_getElem?_getD, List.getElem?_append_right (by rw [List.length_map, List.length_take]; omega), List.length_map, List.length_take, Nat.min_eq_left (by omega), Nat.sub_self, List.getElem?_drop, Nat.add_zero, List.getD_eq_getElem?_getD]
theorem up1_succ (l : List Int) (k : Nat) (h : k < l.length) : (up1 l k).set k (wrap64 (l.getD k 0 + 1)) = up1 l (k + 1) := by
  unfold up1
  rw [List.set_append_right _ _ (by rw [List.length_map, List.length_take]; omega), List.length_map, List.length_take, Nat.min_eq_left (by omega), Nat.sub_self, List.take_succ_eq_append_getElem h, List.map_append, List.append_assoc]
  congr 1
  rw [List.drop_eq_getElem_cons h, List.set_cons_zero, List.getD_eq_getElem?_getD, List.getElem?_eq_getElem h]
  rfl
set_option maxHeartbeats 1000000 in
set_option maxRecDepth 100000 in
theorem back_any (g n c : Nat) (xs ys : List Int) (w : World) (ho : RowI 3 w g (xs ++ ys)) (hn : xs.length = n) (hl : n ≤ 17592186044416) :
    Calls Try.prog 9 #[.slice (some ⟨g, 0, none⟩) n c] w fun e w' => e = .returned (.slice (some ⟨g, 0, none⟩) n c) ∧ RowI 3 w' g (bk1 xs ++ ys) ∧ w.grownBy w' (some g) := by
  have HO := hide ho
  have HN := hide hn
  clear ho hn
  go_enter Try.func9, Try.ntmps9
  go_wp2_with fail
  go_loopw [3, 4] (fun i j wr => ∃ (k : Nat) (L : List Int), k ≤ n ∧ i = .int .i64 (k : Int) ∧ j = .int .i64 ((n : Int) - 1 - (k : Int)) ∧ Hid (L.length = n) ∧ Hid (bk xs = bkFrom (n - k) k L) ∧ Hid (RowI 3 wr g (L ++ ys)) ∧ Hid (w.grownBy wr (some g))) (fun i _ _ => n - (intOf i).toNat)
  case atStart => exact ⟨0, xs, Nat.zero_le _, rfl, by simp, HN, by show _ = _; unfold bk; rw [HN.out]; rfl, HO, World.grownBy.refl _ _⟩
  case round =>
    clear HO
    obtain ⟨k, L, hk, rfl, rfl, HL, HE, HO, HG⟩ := hrel
    by_cases hlt : (k : Int) < (n : Int) - 1 - (k : Int)
    · obtain ⟨q, hq⟩ : ∃ q : Nat, (n : Int) - 1 - (k : Int) = (q : Int) := ⟨n - 1 - k, by omega⟩
      have c1 := HO.out.cell k (by rw [List.length_append, HL.out]; omega)
      have c2 := HO.out.cell q (by rw [List.length_append, HL.out]; omega)
      have f1 := HO.out.frozen k
      have f2 := HO.out.frozen q
      rw [getD_left _ _ _ (by rw [HL.out]; omega)] at c1 c2
      have HE2 : Hid (bkFrom (n - k) k L = bkFrom (n - (k + 1)) (k + 1) ((L.set k (L.getD q 0)).set q (L.getD k 0))) := by
        show _ = _
        rw [show n - k = (n - (k + 1)) + 1 by omega, bkFrom, if_pos (by rw [HL.out]; omega), HL.out, show n - 1 - k = q by omega]
      rw [hq] at hlt
      have hkn : (k : Int) < (n : Int) := by omega
      have hqn : (q : Int) < (n : Int) := by omega
      have hkq : k ≠ q := by omega
      have hq2 : (q : Int) - 1 = (n : Int) - 1 - ((k + 1 : Nat) : Int) := by omega
      generalize hA : L.getD k 0 = A at c1 HE2
      generalize hB : L.getD q 0 = B at c2 HE2
      rw [hq]
      clear hq hA hB
      go_wp2_with fail
      go_roundw
      case rel =>
        refine ⟨k + 1, (L.set k B).set q A, by omega, by go_num, val_int (by omega), by show _ = _; rw [List.length_set, List.length_set]; exact HL.out, HE.out.trans HE2.out, ?_, grown_cell (grown_cell HG.out k _) q _⟩
        have h := (HO.out.store k B).store q A
        rw [List.set_append_left _ _ (by rw [HL.out]; omega), List.set_append_left _ _ (by rw [List.length_set, HL.out]; omega)] at h
        exact h
      case measure => simp [intOf]; omega
    · have HE2 : Hid (bkFrom (n - k) k L = L) := by
        show _ = _
        cases hnk : n - k with
        | zero => rfl
        | succ m => rw [bkFrom, if_neg (by rw [HL.out]; omega)]
      go_wp2_with fail
      go_loopw [6] (fun i wr2 => ∃ k : Nat, k ≤ n ∧ i = .int .i64 (k : Int) ∧ Hid (RowI 3 wr2 g (up1 L k ++ ys)) ∧ Hid (w.grownBy wr2 (some g))) (fun i _ => n - (intOf i).toNat)
      case atStart => exact ⟨0, Nat.zero_le _, rfl, HO.out, HG.out⟩
      case round =>
        obtain ⟨k, hk, rfl, HO3, HG3⟩ := hrel
        by_cases hlt : k < n
        · have hki : (k : Int) < (n : Int) := by omega
          have c1 := HO3.out.cell k (by rw [List.length_append, up1_len _ _ (by rw [HL.out]; omega), HL.out]; omega)
          have f1 := HO3.out.frozen k
          rw [getD_left _ _ _ (by rw [up1_len _ _ (by rw [HL.out]; omega), HL.out]; omega), up1_get _ _ (by rw [HL.out]; omega)] at c1
          have HU := hide (up1_succ L k (by rw [HL.out]; omega))
          generalize L.getD k 0 = A at c1 HU
          have HS := hide (HO3.out.store k (wrap64 (A + 1)))
          rw [List.set_append_left _ _ (by rw [up1_len _ _ (by rw [HL.out]; omega), HL.out]; omega), HU.out] at HS
          go_wp2_with fail
          go_roundw
          case rel => exact ⟨k + 1, hlt, by go_num, HS.out, grown_cell HG3.out k _⟩
          case measure => simp [intOf]; omega
        · obtain rfl : k = n := by omega
          go_wp2_with fail
          go_ret
          refine ⟨by first | rfl | trivial, ?_, HG3.out⟩
          have h := HO3.out
          unfold up1 at h
          rw [List.take_of_length_le (by rw [HL.out]; exact Nat.le_refl _), List.drop_eq_nil_of_le (by rw [HL.out]; exact Nat.le_refl _), List.append_nil] at h
          unfold bk1
          rw [HE.out, HE2.out]
          exact h
end Go.Proofs.Ytckfjhgnmegbhab.Ln
