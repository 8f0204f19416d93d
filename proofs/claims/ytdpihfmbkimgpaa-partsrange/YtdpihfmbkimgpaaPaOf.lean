/-
  parts.Of: the part of a key in a job.
-/
import Derived.Test.YtdpihfmbkimgpaaPaJob
import Derived.Laws.EntriesVeiled
import Derived.Laws.Rows
import Derived.Laws.ResultCell
namespace Go.Proofs.Ytdpihfmbkimgpaa.Pa
open Go.ChangeShapes Go.WideShapes Go.ChangeAt Go.RowKit
open Go.Proofs.Ytdpihfmbkimgpaa.Base
set_option linter.unusedVariables false
theorem rises_le {ss : List ByteArray} (h : Rises ss) : ∀ (d i : Nat), i + d < ss.length → cmpT (ss.getD i ⟨#[]⟩) (ss.getD (i + d) ⟨#[]⟩) ≤ 0
  | 0, i, hi => by rw [Nat.add_zero, cmpT_eq.2 rfl]; exact Int.le_refl _
  | d + 1, i, hi => cmpT_trans (rises_le h d i (by omega)) (h (i + d) (by omega))
theorem rank_eq {ss : List ByteArray} {k : ByteArray} {m : Nat} (hm : m ≤ ss.length) (h1 : ∀ i, i < m → cmpT (ss.getD i ⟨#[]⟩) k ≤ 0) (h2 : ∀ i, m ≤ i → i < ss.length → 0 < cmpT (ss.getD i ⟨#[]⟩) k) : rank ss k = m := by
  unfold rank
  rw [← List.take_append_drop m ss, List.countP_append]
  have e1 : List.countP (fun s => decide (cmpT s k ≤ 0)) (ss.take m) = m := by
    have e0 : (ss.take m).length = m := by rw [List.length_take]; omega
    refine (List.countP_eq_length.2 ?_).trans e0
    · intro s hs
      obtain ⟨i, hi, rfl⟩ := List.getElem_of_mem hs
      have hi2 : i < m := by rw [List.length_take] at hi; omega
      have := h1 i hi2
      rw [List.getElem_take]
      rw [List.getD_eq_getElem?_getD, List.getElem?_eq_getElem (by omega)] at this
      exact decide_eq_true this
  have e2 : List.countP (fun s => decide (cmpT s k ≤ 0)) (ss.drop m) = 0 := by
    rw [List.countP_eq_zero]
    intro s hs
    obtain ⟨i, hi, rfl⟩ := List.getElem_of_mem hs
    have hi2 : m + i < ss.length := by rw [List.length_drop] at hi; omega
    have := h2 (m + i) (by omega) hi2
    rw [List.getElem_drop]
    rw [List.getD_eq_getElem?_getD, List.getElem?_eq_getElem hi2] at this
    simp only [decide_eq_true_eq]
    have h3 : (some (ss[m + i])).getD (⟨#[]⟩ : ByteArray) = ss[m + i] := rfl
    rw [h3] at this
    omega
  omega
theorem above_any (g1 g2 : Nat) (a : Option Addr) (len cap : Nat) (ss : List ByteArray) (k : ByteArray) (m : Nat) (w : World) (hr : RdS w a len ss) (hk : k.size ≤ 9223372036854775807) (hm : m < len)
    (c1 : w.cell? ⟨g1, 0, none⟩ = some (.slice a len cap)) (c2 : w.cell? ⟨g2, 0, none⟩ = some (.string k)) :
    Calls Try.prog 68 #[.int .i64 (m : Int), .pointer (some ⟨g1, 0, none⟩), .pointer (some ⟨g2, 0, none⟩)] w fun e w' => e = .returned (.bool (decide (0 < cmpT (ss.getD m ⟨#[]⟩) k))) ∧ ∃ q, w' = w.drewN q := by
  have hl := hr.2.1
  obtain ⟨b1, o1, rfl, _, hc1⟩ := hr.2.2.2 (by omega)
  have g3 := hc1 m hm
  have HZ := hide (hr.2.2.1 _ (getS_mem (i := m) (by rw [hr.1]; exact hm)))
  generalize ss.getD m ⟨#[]⟩ = s at g3 HZ
  clear hc1 hr
  have hki : (m : Int) < (len : Int) := by omega
  go_enter Try.func68, Try.ntmps68
  go_wp2_with fail
  go_quiet (first | (go_at_call 17; exact Calls.quiet_of (compareD s k _ HZ.out hk)))
  go_wp2_with fail
  go_ret
  exact ⟨rfl, _, rfl⟩
set_option maxHeartbeats 1000000 in
theorem search_any (g1 g2 : Nat) (a : Option Addr) (len cap : Nat) (ss : List ByteArray) (k : ByteArray) (w : World) (hr : RdS w a len ss) (hk : k.size ≤ 9223372036854775807) (hs : Rises ss)
    (c1 : w.cell? ⟨g1, 0, none⟩ = some (.slice a len cap)) (c2 : w.cell? ⟨g2, 0, none⟩ = some (.string k)) (hg1 : g1 < w.heap.size) (hg2 : g2 < w.heap.size) :
    Calls Try.prog 67 #[.int .i64 (len : Int), .func (.func 68) #[] #[.pointer (some ⟨g1, 0, none⟩), .pointer (some ⟨g2, 0, none⟩)]] w fun e w' => e = .returned (.int .i64 (rank ss k : Nat)) ∧ Below w.heap.size w w' := by
  have hl := hr.2.1
  have HL := hide hr.1
  have HR := hide hr
  have HS := hide hs
  have C1 := hide c1
  have C2 := hide c2
  clear hr hs c1 c2
  go_enter Try.func67, Try.ntmps67
  go_wp2_with fail
  go_loopw [5, 6] (fun i j wr => ∃ x y : Nat, x ≤ y ∧ y ≤ len ∧ i = .int .i64 (x : Int) ∧ j = .int .i64 (y : Int) ∧ Hid (∀ i, i < x → cmpT (ss.getD i ⟨#[]⟩) k ≤ 0) ∧ Hid (∀ i, y ≤ i → i < ss.length → 0 < cmpT (ss.getD i ⟨#[]⟩) k) ∧ Hid (Below w.heap.size w wr)) (fun i j _ => (intOf j).toNat - (intOf i).toNat)
  case atStart => exact ⟨0, len, Nat.zero_le _, Nat.le_refl _, rfl, rfl, fun i h => absurd h (by omega), fun i h1 h2 => absurd h2 (by rw [HL.out]; omega), Below.refl _ _⟩
  case round =>
    obtain ⟨x, y, hxy, hy, rfl, rfl, HX, HY, HB⟩ := hrel
    by_cases hlt : x < y
    · have hki : (x : Int) < (y : Int) := by omega
      have hw : IntKind.u64.wrap ((x : Int) + (y : Int)) = ((x + y : Nat) : Int) := by rw [IntKind.wrap_u64]; omega
      have hh : ((x : Int) + (y : Int)) / 2 = (((x + y) / 2 : Nat) : Int) := by omega
      have hm1 : x ≤ (x + y) / 2 := by omega
      have hm2 : (x + y) / 2 < y := by omega
      generalize (x + y) / 2 = m at hh hm1 hm2
      go_wp2_with fail
      refine (above_any g1 g2 a len cap ss k m wr (HR.out.below HB.out) hk (by omega) (by rw [HB.out.cell (p := ⟨g1, 0, none⟩) hg1]; exact C1.out) (by rw [HB.out.cell (p := ⟨g2, 0, none⟩) hg2]; exact C2.out)).mono ?_
      rintro e w2 ⟨rfl, q, rfl⟩
      have HM : Hid (∀ d, m + d < ss.length → cmpT (ss.getD m ⟨#[]⟩) (ss.getD (m + d) ⟨#[]⟩) ≤ 0) := fun d h => rises_le HS.out d m h
      have HM2 : Hid (∀ i, i ≤ m → m < ss.length → cmpT (ss.getD i ⟨#[]⟩) (ss.getD m ⟨#[]⟩) ≤ 0) := fun i h1 h2 => by
        have := rises_le HS.out (m - i) i (by omega)
        rwa [Nat.add_sub_cancel' h1] at this
      generalize ss.getD m ⟨#[]⟩ = s at HM HM2
      by_cases hc : 0 < cmpT s k
      · have HC := hide hc
        rw [decide_eq_true hc]
        clear hc
        go_wp2_with fail
        go_roundw
        case rel =>
          refine ⟨x, m, hm1, by omega, rfl, rfl, HX, fun i h1 h2 => ?_, below_trans HB.out (below_drewN' _ _ _)⟩
          have h3 := HM.out (i - m) (by omega)
          rw [Nat.add_sub_cancel' h1] at h3
          by_cases h4 : cmpT (ss.getD i ⟨#[]⟩) k ≤ 0
          · have h5 := cmpT_trans h3 h4
            have h6 := HC.out
            omega
          · omega
        case measure => (simp [intOf] <;> omega)
      · have HC := hide hc
        rw [decide_eq_false hc]
        clear hc
        go_wp2_with fail
        go_roundw
        case rel =>
          refine ⟨m + 1, y, by omega, by omega, by go_num, rfl, fun i h1 => ?_, HY, below_trans HB.out (below_drewN' _ _ _)⟩
          have h6 := HC.out
          exact cmpT_trans (HM2.out i (by omega) (by rw [HL.out]; omega)) (by omega)
        case measure => (simp [intOf] <;> omega)
    · have hkl : x = y := by omega
      subst hkl
      have hki : ¬ (x : Int) < (x : Int) := by omega
      go_wp2_with fail
      go_ret
      exact ⟨ret_int (by rw [rank_eq (m := x) (by rw [HL.out]; omega) HX.out HY.out]), HB.out⟩
theorem firstAbove_any (a : Option Addr) (len cap : Nat) (ss : List ByteArray) (k : ByteArray) (w : World) (hr : RdS w a len ss) (hk : k.size ≤ 9223372036854775807) (hs : Rises ss) :
    Calls Try.prog 52 #[.slice a len cap, .string k] w fun e w' => e = .returned (.int .i64 (rank ss k : Nat)) ∧ Below w.heap.size w w' := by
  have hl := hr.2.1
  have HR := hide hr
  clear hr
  go_enter Try.func52, Try.ntmps52
  go_wp2_with fail
  have HA := hide ((Below.refl w.heap.size w).alloc (Nat.le_refl _) (.cells #[.slice a len cap] 24))
  have HB := hide (HA.out.alloc HA.out.size (.cells #[.string k] 9))
  refine (search_any w.heap.size (w.heap.size + 1) a len cap ss k _ (HR.out.below HB.out) hk hs (by simp) (by simp) (by simp; omega) (by simp)).mono ?_
  rintro e w2 ⟨rfl, hb⟩
  have HB2 := hide (below_trans HB.out hb)
  clear hb
  go_wp2_with fail
  go_ret
  exact ⟨rfl, HB2.out⟩
/-- The part of a key in a job. -/
def ofP (ss : List ByteArray) (n : Int) (k : ByteArray) : Nat := if chk ss n = 0 then (if ss.length = 0 then hashP k n else rank ss k) else 0
theorem zero_any (k : ByteArray) (w : World) : Calls Try.prog 49 #[.string k] w fun e w' => e = .returned (.int .i64 0) ∧ w' = w := by
  go_enter Try.func49, Try.ntmps49
  go_wp2_with fail
  go_ret
  exact ⟨rfl, rfl⟩
theorem byHash_any (k : ByteArray) (g : Nat) (n : Int) (w : World) (hk : k.size ≤ 140737488351232) (hc : w.cell? ⟨g, 1, none⟩ = some (.int .i64 n)) :
    Calls Try.prog 50 #[.string k, .pointer (some ⟨g, 0, none⟩)] w fun e w' => e = .returned (.int .i64 (hashP k n : Nat)) ∧ Below w.heap.size w w' := by
  go_enter Try.func50, Try.ntmps50
  go_wp2_with fail
  refine (hash_any k n w hk).mono ?_
  rintro e w2 ⟨rfl, hb⟩
  have HB := hide hb
  clear hb
  go_wp2_with fail
  go_ret
  exact ⟨rfl, HB.out⟩
theorem byBounds_any (k : ByteArray) (g : Nat) (a : Option Addr) (len cap : Nat) (ss : List ByteArray) (w : World) (hr : RdS w a len ss) (hk : k.size ≤ 9223372036854775807) (hs : Rises ss) (hc : w.cell? ⟨g, 2, none⟩ = some (.slice a len cap)) :
    Calls Try.prog 51 #[.string k, .pointer (some ⟨g, 0, none⟩)] w fun e w' => e = .returned (.int .i64 (rank ss k : Nat)) ∧ Below w.heap.size w w' := by
  have HR := hide hr
  clear hr
  go_enter Try.func51, Try.ntmps51
  go_wp2_with fail
  refine (firstAbove_any a len cap ss k w HR.out hk hs).mono ?_
  rintro e w2 ⟨rfl, hb⟩
  have HB := hide hb
  clear hb
  go_wp2_with fail
  go_ret
  exact ⟨rfl, HB.out⟩
theorem pt_ret {fn : Func} {p : Tmp} (h : fn.results = #[.cell p 56]) (tmps : Array Value) (w : World) (g : Nat) (v : Value) (hp : tmps.getD p undef = .pointer (some ⟨g, 0, none⟩)) (hf : w.heap[g]? = some (.cells #[v] 56)) :
    (results fn tmps).run Try.prog w = .ok (.agg #[v]) w :=
  results_cell_row h tmps w g 56 _ (0, 0) _ hp hf Try.underlying56 rfl (by kernel_rfl)
theorem pt_set {w : World} {g : Nat} {v : Value} (h : w.heap[g]? = some (.cells #[v] 56)) (u : Value) : (w.setCell ⟨g, 0, none⟩ u).heap[g]? = some (.cells #[u] 56) := by
  rw [heap_setCell_same _ _ 0 _ _ _ h]; rfl
theorem heap_two (w : World) (o1 o2 : Obj) : ((w.alloc o1).alloc o2).heap[w.heap.size + 1]? = some o2 := by
  have h : ((w.alloc o1).alloc o2).heap = (w.heap.push o1).push o2 := rfl
  rw [h, Array.getElem?_push, Array.size_push, if_pos rfl]
/-- What finds a key's part. -/
def Finds (w : World) (v : Value) (ss : List ByteArray) (n : Int) (a : Option Addr) (len cap : Nat) : Prop :=
  (chk ss n ≠ 0 ∧ v = .agg #[.func (.func 49) #[] #[]]) ∨
  (chk ss n = 0 ∧ ss.length = 0 ∧ ∃ g, g < w.heap.size ∧ v = .agg #[.func (.func 50) #[] #[.pointer (some ⟨g, 0, none⟩)]] ∧ w.cell? ⟨g, 1, none⟩ = some (.int .i64 n)) ∨
  (chk ss n = 0 ∧ 0 < ss.length ∧ ∃ g, g < w.heap.size ∧ v = .agg #[.func (.func 51) #[] #[.pointer (some ⟨g, 0, none⟩)]] ∧ w.cell? ⟨g, 2, none⟩ = some (.slice a len cap))
set_option maxHeartbeats 1000000 in
theorem partitionerOf_any (j : Jb) (n : Int) (a : Option Addr) (len cap : Nat) (ss : List ByteArray) (w : World) (hr : RdS w a len ss) :
    Calls Try.prog 37 #[j.val n a len cap] w fun e w' => (∃ v, e = .returned v ∧ Finds w' v ss n a len cap) ∧ Below w.heap.size w w' := by
  have hl := hr.2.1
  have HL := hide hr.1
  have HR := hide hr
  clear hr
  unfold Jb.val
  go_enter Try.func37, Try.ntmps37
  go_wp2_with fail
  have HA := hide ((Below.refl w.heap.size w).alloc (Nat.le_refl _) (.cells #[.int .i64 j.k, .int .i64 n, .slice a len cap, .bool j.cb, .int .i64 j.bu, .int .i64 j.fa, .int .i64 j.tr, .int .i64 j.b, .int .i64 j.r, .int .i64 j.t] 28))
  have HB := hide (HA.out.alloc HA.out.size (.cells #[.nilFunc] 56))
  refine (check_any j n a len cap ss _ (HR.out.below HB.out)).mono ?_
  rintro e w2 ⟨rfl, hb⟩
  have k1 : w2.cell? ⟨w.heap.size, 1, none⟩ = some (.int .i64 n) := by rw [hb.cell (p := ⟨w.heap.size, 1, none⟩) (by simp; omega)]; simp
  have k2 : w2.cell? ⟨w.heap.size, 2, none⟩ = some (.slice a len cap) := by rw [hb.cell (p := ⟨w.heap.size, 2, none⟩) (by simp; omega)]; simp
  have k3 : w2.cell? ⟨w.heap.size + 1, 0, none⟩ = some .nilFunc := by rw [hb.cell (p := ⟨w.heap.size + 1, 0, none⟩) (by simp)]; simp
  have k4 : w2.frozen? ⟨w.heap.size + 1, 0, none⟩ = false := by rw [hb.frozen (p := ⟨w.heap.size + 1, 0, none⟩) (by simp)]; simp
  have K5 : Hid (w2.heap[w.heap.size + 1]? = some (.cells #[.nilFunc] 56)) := hide (by rw [hb.block (w.heap.size + 1) (by simp)]; exact heap_two _ _ _)
  have hg : w.heap.size + 1 < w2.heap.size := by have := hb.size; simp at this; omega
  have HB2 := hide (below_trans HB.out hb)
  clear hb HA HB
  by_cases hc : chk ss n = 0
  · have HC := hide hc
    rw [hc]
    clear hc
    by_cases h0 : len = 0
    · subst h0
      go_wp2_with fail
      refine bodyPost_ret (pt_ret rfl _ _ (w.heap.size + 1) _ rfl (pt_set K5.out _)) rfl ?_
      refine ⟨⟨_, rfl, .inr (.inl ⟨HC.out, HL.out, w.heap.size, ?_, rfl, ?_⟩)⟩, HB2.out.setCell (by simp) _⟩
      · simp; omega
      · rw [World.cell?_of_block (Below.heap_setCell _ _ _ _ (by simp))]; exact k1
    · have h0b : ((len : Int) == 0) = false := by simp; omega
      go_wp2_with fail
      refine bodyPost_ret (pt_ret rfl _ _ (w.heap.size + 1) _ rfl (pt_set K5.out _)) rfl ?_
      refine ⟨⟨_, rfl, .inr (.inr ⟨HC.out, by rw [HL.out]; omega, w.heap.size, ?_, rfl, ?_⟩)⟩, HB2.out.setCell (by simp) _⟩
      · simp; omega
      · rw [World.cell?_of_block (Below.heap_setCell _ _ _ _ (by simp))]; exact k2
  · have HC := hide hc
    have hz : (((chk ss n : Nat) : Int) != 0) = true := by simp; omega
    generalize ((chk ss n : Nat) : Int) = x at hz
    clear hc
    go_wp2_with fail
    refine bodyPost_ret (pt_ret rfl _ _ (w.heap.size + 1) _ rfl (pt_set K5.out _)) rfl ?_
    exact ⟨⟨_, rfl, .inl ⟨HC.out, rfl⟩⟩, HB2.out.setCell (by simp) _⟩
set_option maxHeartbeats 1000000 in
theorem of_any (j : Jb) (n : Int) (a : Option Addr) (len cap : Nat) (ss : List ByteArray) (k : ByteArray) (w : World) (hr : RdS w a len ss) (hk : k.size ≤ 140737488351232) :
    Calls Try.prog 21 #[j.val n a len cap, .string k] w fun e w' => e = .returned (.int .i64 (ofP ss n k : Nat)) ∧ Below w.heap.size w w' := by
  have HR := hide hr
  clear hr
  unfold Jb.val
  go_enter Try.func21, Try.ntmps21
  go_wp2_with fail
  have HA := hide ((Below.refl w.heap.size w).alloc (Nat.le_refl _) (.cells #[.int .i64 j.k, .int .i64 n, .slice a len cap, .bool j.cb, .int .i64 j.bu, .int .i64 j.fa, .int .i64 j.tr, .int .i64 j.b, .int .i64 j.r, .int .i64 j.t] 28))
  refine (partitionerOf_any j n a len cap ss _ (HR.out.below HA.out)).mono ?_
  rintro e w2 ⟨⟨v, rfl, hf⟩, hb⟩
  have HB := hide (below_trans HA.out hb)
  have HR2 := hide (HR.out.below HB.out)
  clear hb HA HR
  rcases hf with ⟨hc, rfl⟩ | ⟨hc, h0, g, hg, rfl, hx⟩ | ⟨hc, h0, g, hg, rfl, hx⟩
  · have HC : Hid (ofP ss n k = 0) := hide (by unfold ofP; rw [if_neg hc])
    clear hc
    have hfd : ∀ W, (Instr.field 56 (.agg #[.func (.func 49) #[] #[]]) 0).run Try.prog W = .ok (.func (.func 49) #[] #[]) W := fun _ => by kernel_rfl
    go_wp2_with fail
    refine (zero_any k w2).mono ?_
    rintro e w3 ⟨rfl, rfl⟩
    go_wp2_with fail
    go_ret
    exact ⟨ret_int (by rw [HC.out]; rfl), HB.out⟩
  · have HC : Hid (ofP ss n k = hashP k n) := hide (by unfold ofP; rw [if_pos hc, if_pos h0])
    clear hc h0
    have hfd : ∀ W, (Instr.field 56 (.agg #[.func (.func 50) #[] #[.pointer (some ⟨g, 0, none⟩)]]) 0).run Try.prog W = .ok (.func (.func 50) #[] #[.pointer (some ⟨g, 0, none⟩)]) W := fun _ => by kernel_rfl
    go_wp2_with fail
    refine (byHash_any k g n w2 hk hx).mono ?_
    rintro e w3 ⟨rfl, hb⟩
    have HB3 := hide (below_trans HB.out hb)
    clear hb
    go_wp2_with fail
    go_ret
    exact ⟨ret_int (by rw [HC.out]), HB3.out⟩
  · have HC : Hid (ofP ss n k = rank ss k) := hide (by unfold ofP; rw [if_pos hc, if_neg (by omega)])
    have HS : Hid (Rises ss) := by
      unfold chk at hc
      have h3 : areB ss n = true := by
        split at hc
        · split at hc
          · cases hc
          · next h => 
            cases hb : areB ss n with
            | true => rfl
            | false => exact absurd ⟨h0, hb⟩ h
        · cases hc
      unfold areB at h3
      rw [Bool.and_eq_true] at h3
      exact (risesB_iff ss).1 h3.2
    clear hc h0
    have hfd : ∀ W, (Instr.field 56 (.agg #[.func (.func 51) #[] #[.pointer (some ⟨g, 0, none⟩)]]) 0).run Try.prog W = .ok (.func (.func 51) #[] #[.pointer (some ⟨g, 0, none⟩)]) W := fun _ => by kernel_rfl
    go_wp2_with fail
    refine (byBounds_any k g a len cap ss w2 HR2.out (by omega) HS.out hx).mono ?_
    rintro e w3 ⟨rfl, hb⟩
    have HB3 := hide (below_trans HB.out hb)
    clear hb
    go_wp2_with fail
    go_ret
    exact ⟨ret_int (by rw [HC.out]), HB3.out⟩
end Go.Proofs.Ytdpihfmbkimgpaa.Pa
