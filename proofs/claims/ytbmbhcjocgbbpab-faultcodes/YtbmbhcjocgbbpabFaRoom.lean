/-
  The statements' helpers: bytes in memory of their own with marks behind them; bytes written over and added to.
-/
import Derived.Test.YtbmbhcjocgbbpabOver
import Derived.Deep.OwnRows
namespace Go.Proofs.Ytbmbhcjocgbbpab.Fa
open Go.ChangeShapes Go.WideShapes Go.ChangeAt Go.RowKit
open Go.Proofs.Ytbmbhcjocgbbpab.Base
set_option linter.unusedVariables false
theorem make8 (n : Nat) : madeCells #[Value.int .u8 0] n = (vals (List.replicate n 0)).toArray := by
  apply Array.ext
  · rw [size_madeCells]; simp [vals]
  · intro k h1 h2
    simp [madeCells, vals, V8, Nat.mod_one]
theorem make_row_u8 (n : Nat) (m : Int) (hm : m = (n : Int)) (h : n ≤ 140737488355328) : ∀ W, (Instr.makeSlice 23 (.int .i64 m) (.int .i64 m)).run Try.prog W = .ok (.slice (some ⟨W.heap.size, 0, none⟩) n n) (W.alloc (.cells (vals (List.replicate n 0)).toArray 5)) := by
  intro W
  subst hm
  rw [← make8]
  exact run_make_row' 23 5 (.int .u8 0) 1 Try.underlying23 info8 rfl .i64 .i64 n (by omega) (by omega) W
def marks8 : List (BitVec 8) := List.replicate 64 165
theorem marks8_len : marks8.length = 64 := by simp [marks8]
/-- The first k are laid, the rest are zeros. -/
def laid8 (zs : List (BitVec 8)) (k : Nat) : List (BitVec 8) := zs.take k ++ List.replicate (zs.length - k) 0
theorem laid8_len (zs : List (BitVec 8)) (k : Nat) (h : k ≤ zs.length) : (laid8 zs k).length = zs.length := by
  unfold laid8; rw [List.length_append, List.length_take, List.length_replicate]; omega
theorem laid8_zero (zs : List (BitVec 8)) : laid8 zs 0 = List.replicate zs.length 0 := by unfold laid8; simp
theorem laid8_all (zs : List (BitVec 8)) : laid8 zs zs.length = zs := by unfold laid8; simp
theorem laid8_succ (zs : List (BitVec 8)) (k : Nat) (h : k < zs.length) : (laid8 zs k).set k (zs.getD k 0) = laid8 zs (k + 1) := by
  unfold laid8
  have hl : (zs.take k).length = k := by rw [List.length_take]; omega
  rw [List.set_append_right _ _ (by omega), hl, Nat.sub_self, show zs.length - k = (zs.length - (k + 1)) + 1 by omega, List.replicate_succ, List.set_cons_zero,
    List.take_succ_eq_append_getElem h, List.append_assoc, List.getD_eq_getElem?_getD, List.getElem?_eq_getElem h]
  rfl
theorem marked_in (bs : List (BitVec 8)) (k : Nat) (h : k < bs.length) : (bs ++ marks8).getD k 0 = bs.getD k 0 := by
  rw [List.getD_eq_getElem?_getD, List.getElem?_append_left h, List.getD_eq_getElem?_getD]
theorem marked_out (bs : List (BitVec 8)) (k : Nat) (h : bs.length ≤ k) (h2 : k < bs.length + 64) : (bs ++ marks8).getD k 0 = 165 := by
  rw [List.getD_eq_getElem?_getD, List.getElem?_append_right h]
  unfold marks8
  rw [List.getElem?_replicate, if_pos (by omega)]
  rfl
set_option maxHeartbeats 1000000 in
set_option maxRecDepth 100000 in
theorem roomy_any (a : Option Addr) (len cap : Nat) (bs : List (BitVec 8)) (w : World) (hr : Rd w a len bs) (hl : len ≤ 140737488351232) :
    Calls Try.prog 8 #[.slice a len cap] w fun e w' => ∃ g, e = .returned (.slice (some ⟨g, 0, none⟩) (len + 64) (len + 64)) ∧ w.heap.size ≤ g ∧ Own w' w.heap.size (.slice (some ⟨g, 0, none⟩) (len + 64) (len + 64)) (bs ++ marks8) ∧ Below w.heap.size w w' := by
  have HL := hide hr.1
  have HC := hide hr.2.2
  have hli : (len : Int) ≤ 140737488351232 := by omega
  have hmk := make_row_u8 (len + 64) ((len : Int) + 64) (by omega) (by omega)
  have HZL : Hid ((bs ++ marks8).length = len + 64) := by show _ = _; rw [List.length_append, marks8_len, HL.out]
  have HO0 : Hid (Own (w.alloc (.cells (vals (List.replicate (len + 64) 0)).toArray 5)) w.heap.size (.slice (some ⟨w.heap.size, 0, none⟩) (len + 64) (len + 64)) (laid8 (bs ++ marks8) 0)) := by
    show Own _ _ _ _
    rw [laid8_zero, HZL.out]
    have h := own_heap (base := w.heap.size) (bs := List.replicate (len + 64) 0) (heap_alloc_new w _) (Nat.le_refl _) (by unfold maxLen; simp; omega)
    rw [List.length_replicate] at h
    exact h
  have HB0 : Hid (Below w.heap.size w (w.alloc (.cells (vals (List.replicate (len + 64) 0)).toArray 5))) := (Below.refl _ _).alloc (Nat.le_refl _) _
  generalize (vals (List.replicate (len + 64) 0)).toArray = ZT at hmk HO0 HB0
  obtain ⟨g, hg⟩ : ∃ g, w.heap.size = g := ⟨_, rfl⟩
  have HGG : Hid (w.heap.size ≤ g) := by rw [hg]; exact Nat.le_refl _
  have HG := hide hg
  clear hr hg
  go_enter Try.func8, Try.ntmps8
  go_wp2_with fail
  have HO1 : Hid (Own (w.alloc (.cells ZT 5)) w.heap.size (.slice (some ⟨g, 0, none⟩) (len + 64) (len + 64)) (laid8 (bs ++ marks8) 0)) := by have h := HO0.out; rw [show (⟨w.heap.size, 0, none⟩ : Addr) = ⟨g, 0, none⟩ by rw [HG.out]] at h; exact h
  simp only [HG.out]
  rw [HG.out] at HO1 HB0 HGG
  generalize w.alloc (.cells ZT 5) = w1 at HO1 HB0
  clear HO0 hmk
  go_loopw [4] (fun i wr => ∃ k : Nat, k ≤ len + 64 ∧ i = .int .i64 (k : Int) ∧ Hid (Own wr g (.slice (some ⟨g, 0, none⟩) (len + 64) (len + 64)) (laid8 (bs ++ marks8) k) ∧ Below g w wr)) (fun i _ => len + 64 - (intOf i).toNat)
  case atStart => exact ⟨0, Nat.zero_le _, rfl, HO1.out, HB0.out⟩
  case round =>
    clear HO1 HB0
    obtain ⟨k, hk, rfl, H⟩ := hrel
    by_cases hlt : (k : Int) < (len : Int) + 64
    · have c1 := H.out.1.cell k (by omega)
      have f1 := H.out.1.frozen k
      generalize (laid8 (bs ++ marks8) k).getD k 0 = d at c1
      have HS1 := hide (H.out.1.store k 165)
      have HLS := hide (laid8_succ (bs ++ marks8) k (by rw [HZL.out]; omega))
      have hltn : (k : Int) < ((len + 64 : Nat) : Int) := by omega
      by_cases hin : (k : Int) < (len : Int)
      · obtain ⟨b1, o1, rfl, hb1, hc1⟩ := HC.out (by omega)
        have g1 := hc1 k (by omega)
        rw [HG.out] at hb1
        rw [marked_in bs k (by rw [HL.out]; omega)] at HLS
        have g2 : (wr.setCell ⟨g, k, none⟩ (.int .u8 165)).cell? ⟨b1, o1 + k, none⟩ = some (.int .u8 ((bs.getD k 0).toNat : Int)) := by
          rw [(H.out.2.setCell (Nat.le_refl _) _).cell (p := ⟨b1, o1 + k, none⟩) hb1]
          exact g1
        generalize bs.getD k 0 = x at g1 g2 HLS
        have HS2 := hide (HS1.out.1.store k x)
        rw [List.set_set, HLS.out] at HS2
        have c2 := HS1.out.1.cell k (by omega)
        have f2 := HS1.out.1.frozen k
        generalize ((laid8 (bs ++ marks8) k).set k 165).getD k 0 = d2 at c2
        clear hc1 g1
        go_wp2_with fail
        go_roundw
        case rel => exact ⟨k + 1, by omega, by go_num, HS2.out.1, (H.out.2.setCell (Nat.le_refl _) _).setCell (Nat.le_refl _) _⟩
        case measure => simp [intOf]; omega
      · rw [marked_out bs k (by rw [HL.out]; omega) (by rw [HL.out]; omega)] at HLS
        rw [HLS.out] at HS1
        go_wp2_with fail
        go_roundw
        case rel => exact ⟨k + 1, by omega, by go_num, HS1.out.1, H.out.2.setCell (Nat.le_refl _) _⟩
        case measure => simp [intOf]; omega
    · obtain rfl : k = len + 64 := by omega
      have HOE : Hid (Own wr g (.slice (some ⟨g, 0, none⟩) (len + 64) (len + 64)) (bs ++ marks8)) := by
        have h := H.out.1
        rw [← HZL.out, laid8_all] at h
        rw [HZL.out] at h
        exact h
      go_wp2_with fail
      go_ret
      refine ⟨g, rfl, ?_, ?_, ?_⟩
      · rw [HG.out]; exact Nat.le_refl _
      · rw [HG.out]; exact HOE.out
      · rw [HG.out]; exact H.out.2
set_option maxHeartbeats 1000000 in
set_option maxRecDepth 100000 in
theorem fill_any (base n c : Nat) (a : Option Addr) (bs : List (BitVec 8)) (w : World) (ho : Own w base (.slice a n c) bs) (hl : n ≤ 140737488351232) (hb : base ≤ w.heap.size) :
    Calls Try.prog 6 #[.slice a n c, .int .u8 7] w fun e w' => e = .returned (.int .i64 ((n : Int) + 64)) ∧ w.grownBy w' (Value.slice a n c).ownBlock := by
  have HOV : Hid (Over w w base (.slice a n c) (.slice a n c) n) := by
    have h := Over.start ho
    rw [← (Got.cap ho).2] at h
    exact h
  have hli : (n : Int) ≤ 140737488351232 := by omega
  clear ho
  go_enter Try.func6, Try.ntmps6
  go_wp2_with fail
  go_loopw [5] (fun i wr => ∃ k : Nat, k ≤ n ∧ i = .int .i64 (k : Int) ∧ Hid (Over w wr base (.slice a n c) (.slice a n c) n)) (fun i _ => n - (intOf i).toNat)
  case atStart => exact ⟨0, Nat.zero_le _, rfl, HOV⟩
  case round =>
    clear HOV
    obtain ⟨k, hk, rfl, HOV⟩ := hrel
    by_cases hlt : (k : Int) < (n : Int)
    · obtain ⟨g3, rfl⟩ := HOV.out.some' (by omega)
      obtain ⟨⟨d, hd⟩, hf⟩ := HOV.out.cell k (by omega)
      go_wp2_with fail
      go_roundw
      case rel => exact ⟨k + 1, by omega, by go_num, HOV.out.store k 7⟩
      case measure => simp [intOf]; omega
    · go_wp2_with fail
      go_loopw [0, 6] (fun v i wz => ∃ (j : Nat) (va : Option Addr) (vc : Nat), j ≤ 64 ∧ i = .int .i64 (j : Int) ∧ v = .slice va (n + j) vc ∧ Hid (Over w wz base (.slice a n c) (.slice va (n + j) vc) (n + j))) (fun _ i _ => 64 - (intOf i).toNat)
      case atStart => exact ⟨0, a, c, Nat.zero_le _, rfl, rfl, HOV⟩
      case round =>
        clear HOV
        obtain ⟨j, va, vc, hj, rfl, rfl, HOV⟩ := hrel
        by_cases hlt2 : (j : Int) < 64
        · have HOA := hide (HOV.out.alloc (.cells #[.int .u8 8] 5))
          have hsr : base ≤ wr.heap.size := Nat.le_trans hb HOV.out.2.2.size
          go_wp2_with (at_builtin; refine pushOver w _ rfl _ _ rfl base _ _ (n + j) rfl HOA.out ⟨wr.heap.size, 0, none⟩ 1 8 rfl (cell_one_new _ _ _ 0 _ rfl) (by omega) (by simp; omega) ?_
                       intro g5 c5 w9 hov
                       have HOV9 := hide hov
                       clear hov)
          go_roundw
          case rel => exact ⟨j + 1, _, c5, by omega, by go_num, rfl, HOV9⟩
          case measure => simp [intOf]; omega
        · obtain rfl : j = 64 := by omega
          go_wp2_with fail
          go_ret
          exact ⟨by first | rfl | (apply ret_int; omega), HOV.out.2.2⟩
end Go.Proofs.Ytbmbhcjocgbbpab.Fa
