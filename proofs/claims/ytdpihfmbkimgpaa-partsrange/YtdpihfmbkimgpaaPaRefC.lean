/-
  The document's Range, Check and Of.
-/
import Derived.Test.YtdpihfmbkimgpaaPaRoom
namespace Go.Proofs.Ytdpihfmbkimgpaa.Pa
open Go.ChangeShapes Go.WideShapes Go.ChangeAt Go.RowKit
open Go.Proofs.Ytdpihfmbkimgpaa.Base
set_option linter.unusedVariables false
set_option maxHeartbeats 1000000 in
theorem refRange_any (a : Option Addr) (len cap : Nat) (ss : List ByteArray) (k : ByteArray) (w : World) (hr : RdS w a len ss) (hk : k.size ≤ 9223372036854775807) :
    Calls Try.prog 26 #[.slice a len cap, .string k] w fun e w' => e = .returned (.int .i64 (rank ss k : Nat)) ∧ Below w.heap.size w w' := by
  have hl := hr.2.1
  have HR := hide hr
  clear hr
  go_enter Try.func26, Try.ntmps26
  go_wp2_with fail
  go_loopw [5, 6] (fun c i wr => ∃ m j : Nat, m ≤ len ∧ j ≤ m ∧ i = .int .i64 (m : Int) ∧ c = .int .i64 (j : Int) ∧ Hid (j = rank (ss.take m) k) ∧ Hid (Below w.heap.size w wr)) (fun c i _ => len - (intOf i).toNat)
  case atStart => exact ⟨0, 0, Nat.zero_le _, Nat.zero_le _, rfl, rfl, rfl, Below.refl _ _⟩
  case round =>
    obtain ⟨m, j, hm, hj, rfl, rfl, HJ, HB⟩ := hrel
    by_cases hlt : m < len
    · have hki : (m : Int) < (len : Int) := by omega
      obtain ⟨b1, o1, rfl, _, hc1⟩ := (HR.out.below HB.out).2.2.2 (by omega)
      have g1 := hc1 m hlt
      have HZ := hide (HR.out.2.2.1 _ (getS_mem (i := m) (by rw [HR.out.1]; exact hlt)))
      have HS := hide (rank_step ss k m (by rw [HR.out.1]; exact hlt))
      generalize ss.getD m ⟨#[]⟩ = s at g1 HZ HS
      clear hc1
      go_wp2_with fail
      refine (refCompareB s k wr HZ.out hk).mono ?_
      rintro e w2 ⟨rfl, hb⟩
      have HB2 := hide (below_trans HB.out hb)
      clear hb
      by_cases hc : cmpT s k ≤ 0
      · have HC := hide (HS.out.trans (by rw [if_pos hc, ← HJ.out]))
        generalize cmpT s k = x at hc
        go_wp2
        go_roundw
        case rel => exact ⟨m + 1, j + 1, by omega, by omega, by go_num, by go_num, HC.out.symm, HB2⟩
        case measure => (simp [intOf] <;> omega)
      · have HC := hide (HS.out.trans (by rw [if_neg hc, ← HJ.out]))
        generalize cmpT s k = x at hc
        go_wp2
        go_roundw
        case rel => exact ⟨m + 1, j, by omega, by omega, by go_num, rfl, HC.out.symm, HB2⟩
        case measure => (simp [intOf] <;> omega)
    · have hkl : m = len := by omega
      subst hkl
      have hki : ¬ (m : Int) < (m : Int) := by omega
      go_wp2_with fail
      go_ret
      refine ⟨ret_int ?_, HB.out⟩
      rw [HJ.out, List.take_of_length_le (by rw [HR.out.1]; exact Nat.le_refl _)]
/-- A job lies in the block g. -/
def JC (w : World) (g : Nat) (j : Jb) (n : Int) (v : Value) : Prop := w.heap[g]? = some (.cells #[.int .i64 j.k, .int .i64 n, v, .bool j.cb, .int .i64 j.bu, .int .i64 j.fa, .int .i64 j.tr, .int .i64 j.b, .int .i64 j.r, .int .i64 j.t] 28)
theorem JC.lt {w : World} {g : Nat} {j : Jb} {n : Int} {v : Value} (h : JC w g j n v) : g < w.heap.size := (Array.getElem?_eq_some_iff.1 h).1
theorem JC.below {w w' : World} {g : Nat} {j : Jb} {n : Int} {v : Value} (h : JC w g j n v) (hb : Below w.heap.size w w') : JC w' g j n v := (hb.block g h.lt).trans h
theorem JC.cells {w : World} {g : Nat} {j : Jb} {n : Int} {v : Value} (h : JC w g j n v) : w.cell? ⟨g, 0, none⟩ = some (.int .i64 j.k) ∧ w.cell? ⟨g, 1, none⟩ = some (.int .i64 n) ∧ w.cell? ⟨g, 2, none⟩ = some v ∧ w.cell? ⟨g, 3, none⟩ = some (.bool j.cb) ∧ w.cell? ⟨g, 4, none⟩ = some (.int .i64 j.bu) ∧ w.cell? ⟨g, 5, none⟩ = some (.int .i64 j.fa) ∧ w.cell? ⟨g, 6, none⟩ = some (.int .i64 j.tr) ∧ w.cell? ⟨g, 7, none⟩ = some (.int .i64 j.b) ∧ w.cell? ⟨g, 8, none⟩ = some (.int .i64 j.r) ∧ w.cell? ⟨g, 9, none⟩ = some (.int .i64 j.t) := by
  refine ⟨?_, ?_, ?_, ?_, ?_, ?_, ?_, ?_, ?_, ?_⟩ <;> (rw [cell_of_row _ _ _ _ _ _ h]; rfl)
theorem JC.fz {w : World} {g : Nat} {j : Jb} {n : Int} {v : Value} (h : JC w g j n v) (k : Nat) : w.frozen? ⟨g, k, none⟩ = false := frozen_of_row _ _ _ _ _ h
theorem jc_new (w : World) (j : Jb) (n : Int) (v : Value) : JC (w.alloc (.cells #[.int .i64 j.k, .int .i64 n, v, .bool j.cb, .int .i64 j.bu, .int .i64 j.fa, .int .i64 j.tr, .int .i64 j.b, .int .i64 j.r, .int .i64 j.t] 28)) w.heap.size j n v := heap_alloc_new _ _
/-- None of the first k is below the one ahead of it. -/
def RisesTo (ss : List ByteArray) (k : Nat) : Prop := ∀ i, i + 1 < k → cmpT (ss.getD i ⟨#[]⟩) (ss.getD (i + 1) ⟨#[]⟩) ≤ 0
theorem risesTo_all {ss : List ByteArray} (h : RisesTo ss ss.length) : Rises ss := fun i hi => h i (by omega)
theorem risesTo_step {ss : List ByteArray} {k : Nat} (h : RisesTo ss k) (hc : ∀ k', k = k' + 1 → cmpT (ss.getD k' ⟨#[]⟩) (ss.getD k ⟨#[]⟩) ≤ 0) : RisesTo ss (k + 1) := by
  intro i hi
  by_cases e : i + 1 = k
  · have := hc i e.symm
    rw [← e] at this
    exact this
  · exact h i (by omega)
theorem chk_fall {ss : List ByteArray} {n : Int} (hp : isParts n = true) (h0 : 0 < ss.length) (h : areB ss n = false) : chk ss n = 140 := by
  unfold chk; rw [hp, if_pos rfl, if_pos ⟨h0, h⟩]
theorem areB_rises {ss : List ByteArray} {n : Int} (h : ¬ Rises ss) : areB ss n = false := by
  unfold areB; rw [risesB_not h]; simp
theorem areB_long {ss : List ByteArray} {n : Int} (h : anyLong ss = true) : areB ss n = false := by
  unfold areB; rw [h]; simp
theorem areB_len {ss : List ByteArray} {n : Int} (h : ¬ (ss.length : Int) = n - 1) : areB ss n = false := by
  unfold areB; rw [decide_eq_false h]; simp
set_option maxHeartbeats 2000000 in
set_option maxRecDepth 100000 in
theorem refCheck_any (j : Jb) (n : Int) (a : Option Addr) (len cap : Nat) (ss : List ByteArray) (w : World) (hr : RdS w a len ss) :
    Calls Try.prog 25 #[j.val n a len cap] w fun e w' => e = .returned (.int .i64 (chk ss n : Nat)) ∧ Below w.heap.size w w' := by
  have hl := hr.2.1
  have HL := hide hr.1
  have HA := hide ((Below.refl w.heap.size w).alloc (Nat.le_refl _) (.cells #[.int .i64 j.k, .int .i64 n, .slice a len cap, .bool j.cb, .int .i64 j.bu, .int .i64 j.fa, .int .i64 j.tr, .int .i64 j.b, .int .i64 j.r, .int .i64 j.t] 28))
  have HR := hide (hr.below HA.out)
  have HJ := hide (jc_new w j n (.slice a len cap))
  clear hr
  unfold Jb.val
  go_enter Try.func25, Try.ntmps25
  by_cases hp : isParts n = true
  · obtain ⟨h1, h2⟩ := isParts_bounds hp
    have HP := hide hp
    clear hp
    have h3 : ¬ n < 1 := by omega
    have h4 : ¬ 65535 < n := by omega
    by_cases h0 : len = 0
    · have HC : Hid (chk ss n = 0) := hide (by unfold chk; rw [HP.out, HL.out, h0]; simp)
      subst h0
      go_wp2_with fail
      go_ret
      exact ⟨ret_int (by rw [HC.out]; rfl), HA.out⟩
    · have h0b : ((len : Int) == 0) = false := by simp; omega
      by_cases he : (len : Int) = n - 1
      · have heb : ((len : Int) != n - 1) = false := by simp [he]
        have HEN := hide he
        clear he
        obtain ⟨w1, hw1⟩ : ∃ w1, w.alloc (.cells #[.int .i64 j.k, .int .i64 n, .slice a len cap, .bool j.cb, .int .i64 j.bu, .int .i64 j.fa, .int .i64 j.tr, .int .i64 j.b, .int .i64 j.r, .int .i64 j.t] 28) = w1 := ⟨_, rfl⟩
        rw [hw1] at HA HR HJ
        obtain ⟨-, k1, k2, -⟩ := HJ.out.cells
        generalize hgg : w.heap.size = g at HJ k1 k2 hw1
        have HGG := hide hgg
        go_wp2_with fail
        clear hw1 k1 k2
        clear hgg
        go_loopw [3] (fun i wr => ∃ k : Nat, k ≤ len ∧ i = .int .i64 (k : Int) ∧ Hid (anyLong (ss.take k) = false) ∧ Hid (RisesTo ss k) ∧ Hid (Below w1.heap.size w1 wr)) (fun i _ => len - (intOf i).toNat)
        case atStart => exact ⟨0, Nat.zero_le _, rfl, rfl, fun i hi => absurd hi (by omega), Below.refl _ _⟩
        case round =>
          obtain ⟨k, hk, rfl, HAn, HRi, HB⟩ := hrel
          have HJr := hide (HJ.out.below HB.out)
          obtain ⟨-, -, k2, -⟩ := HJr.out.cells
          by_cases hlt : k < len
          · have hki : (k : Int) < (len : Int) := by omega
            have HRr := hide (HR.out.below HB.out)
            obtain ⟨b1, o1, rfl, hb1, hc1⟩ := HRr.out.2.2.2 (by omega)
            have HBL : Hid (b1 < wr.heap.size) := hb1
            have ck := hc1 k hlt
            have hz := HR.out.2.2.1 _ (getS_mem (i := k) (by rw [HL.out]; exact hlt))
            have HS := hide (any_step ss k (by rw [HL.out]; exact hlt))
            have HM := hide (any_mem ss k (by rw [HL.out]; exact hlt))
            have HC1 := hide hc1
            generalize hx : ss.getD k ⟨#[]⟩ = s at ck hz HS HM
            have HX := hide hx
            clear hc1 hx
            by_cases hc : 1024 < s.size
            · have hcd : decide ((1024 : Int) < (s.size : Int)) = true := decide_eq_true (by omega)
              have HC : Hid (chk ss n = 140) := hide (chk_fall HP.out (by rw [HL.out]; omega) (areB_long (HM.out (decide_eq_true hc))))
              clear hc
              go_wp2_with fail
              go_quiet (fail)
              go_wp2_with fail
              go_ret
              exact ⟨ret_int (by rw [HC.out]; rfl), (by rw [← HGG.out]; exact below_trans HA.out (below_trans HB.out (below_drewN' _ _ _)))⟩
            · have hcd : decide ((1024 : Int) < (s.size : Int)) = false := decide_eq_false (by omega)
              have HAn2 : Hid (anyLong (ss.take (k + 1)) = false) := hide (by rw [HS.out, HAn.out, show tooLong s = false from decide_eq_false hc]; rfl)
              clear hc
              cases k with
              | zero =>
                have h00 : (0 : Int) < (len : Int) := by omega
                rw [Nat.add_zero] at ck
                go_wp2_with fail
                go_quiet (fail)
                go_wp2_with fail
                go_roundw
                case rel => exact ⟨1, by omega, by go_num, HAn2, fun i hi => absurd hi (by omega), below_trans HB.out (below_drewN' _ _ _)⟩
                case measure => (simp [intOf] <;> omega)
              | succ k =>
                have ck0 := HC1.out k (by omega)
                have hz0 := HR.out.2.2.1 _ (getS_mem (i := k) (by rw [HL.out]; omega))
                have HSW := hide (cmpT_swap (ss.getD k ⟨#[]⟩) s)
                have HN1 : Hid (cmpT (ss.getD k ⟨#[]⟩) s ≤ 0 → RisesTo ss (k + 1 + 1)) := fun h => risesTo_step HRi.out (fun k' e => by
                  have e2 : k' = k := by omega
                  subst e2
                  rw [HX.out]; exact h)
                have HN2 : Hid (¬ cmpT (ss.getD k ⟨#[]⟩) s ≤ 0 → ¬ Rises ss) := fun h h2 => h (by
                  have := h2 k (by rw [HL.out]; omega)
                  rw [HX.out] at this
                  exact this)
                generalize ss.getD k ⟨#[]⟩ = t at ck0 hz0 HSW HN1 HN2
                have CK := hide ck
                have CK0 := hide ck0
                have K2 := hide k2
                have i1 : (k : Int) + 1 < (len : Int) := by omega
                have i2 : (k : Int) < (len : Int) := by omega
                have i3 : (k : Int) + 1 - 1 = (k : Int) := by omega
                have i4 : ((k : Int) + 1).toNat = k + 1 := by omega
                have i6 : (0 : Int) < (k : Int) + 1 := by omega
                have hd : decide ((0 : Int) < (k : Int) + 1) = true := decide_eq_true i6
                have i7 : (0 : Int) ≤ (k : Int) + 1 := by omega
                have i8 : ¬ (k : Int) + 1 < 0 := by omega
                have i5 : IntKind.i64.wrap (k : Int) = (k : Int) := by first | (show wrap64 _ = _; unfold wrap64; omega) | (simp [IntKind.wrap, IntKind.bits, IntKind.signed]; omega)
                have HCC : Hid (∀ W, Calls Try.prog 40 #[.string s, .string t] W fun e w' => e = .returned (.int .i64 (cmpT s t)) ∧ Below W.heap.size W w') := fun W => refCompareB s t W hz hz0
                have HBG : Hid (g < wr.heap.size) := HJr.out.lt
                go_wp2_with fail
                go_region_held (fun V => V.cell? ⟨g, 2, none⟩ = some (.slice (some ⟨b1, o1, none⟩) len cap) ∧ V.cell? ⟨b1, o1 + k, none⟩ = some (.string t) ∧ V.cell? ⟨b1, o1 + (k + 1), none⟩ = some (.string s)) (first | go_keep | exact E8.out) (first
                  | (go_at_call 40; refine (HCC.out _).mono ?_; rintro e w6 ⟨rfl, hb6⟩; have HB6 := hide (below_trans ((Below.refl wr.heap.size wr).drew) hb6); have E8 := hide (And.intro ((HB6.out.cell (p := ⟨g, 2, none⟩) HBG.out).trans K2.out) (And.intro ((HB6.out.cell (p := ⟨b1, o1 + k, none⟩) HBL.out).trans CK0.out) ((HB6.out.cell (p := ⟨b1, o1 + (k + 1), none⟩) HBL.out).trans CK.out))); clear hb6))
                all_goals
                  by_cases hcm : cmpT s t < 0
                  · have HC : Hid (chk ss n = 140) := hide (chk_fall HP.out (by rw [HL.out]; omega) (areB_rises (HN2.out (by have := HSW.out; omega))))
                    have hcmd : decide (cmpT s t < 0) = true := decide_eq_true hcm
                    clear ck ck0 k2
                    go_wp2_with fail
                    go_ret
                    exact ⟨ret_int (by rw [HC.out]; rfl), (by rw [← HGG.out]; exact below_trans HA.out (below_trans HB.out HB6.out))⟩
                  · have HNr := hide (HN1.out (by have := HSW.out; omega))
                    have hcmd : decide (cmpT s t < 0) = false := decide_eq_false hcm
                    clear ck ck0 k2
                    go_wp2_with fail
                    go_roundw
                    case rel => exact ⟨k + 1 + 1, by omega, by go_num, HAn2, HNr, below_trans HB.out HB6.out⟩
                    case measure => (simp [intOf] <;> omega)
          · have hkl : k = len := by omega
            subst hkl
            have hki : ¬ (k : Int) < (k : Int) := by omega
            have HC : Hid (chk ss n = 0) := hide (by
              have h1 := HAn.out
              rw [List.take_of_length_le (by rw [HL.out]; exact Nat.le_refl _)] at h1
              have h2 := HRi.out
              rw [← HL.out] at h2
              have h3 : areB ss n = true := by
                unfold areB
                rw [h1, (risesB_iff ss).2 (risesTo_all h2), HL.out, decide_eq_true HEN.out]; rfl
              unfold chk
              rw [HP.out, h3]; simp)
            go_wp2_with fail
            go_ret
            exact ⟨ret_int (by rw [HC.out]; rfl), (by rw [← HGG.out]; exact below_trans HA.out HB.out)⟩
      · have heb : ((len : Int) != n - 1) = true := by simp [he]
        have HC : Hid (chk ss n = 140) := hide (chk_fall HP.out (by rw [HL.out]; omega) (areB_len (by rw [HL.out]; exact he)))
        clear he
        go_wp2_with fail
        go_ret
        exact ⟨ret_int (by rw [HC.out]; rfl), HA.out⟩
  · have HP : Hid (isParts n = false) := hide (by simpa using hp)
    have HC : Hid (chk ss n = 3) := hide (by unfold chk; rw [HP.out]; rfl)
    have hn : n < 1 ∨ (1 ≤ n ∧ 65535 < n) := by
      have := HP.out
      simp [isParts] at this
      omega
    clear hp
    rcases hn with h1 | ⟨h1, h2⟩
    · go_wp2_with fail
      go_ret
      exact ⟨ret_int (by rw [HC.out]; rfl), HA.out⟩
    · have h3 : ¬ n < 1 := by omega
      go_wp2_with fail
      go_ret
      exact ⟨ret_int (by rw [HC.out]; rfl), HA.out⟩
end Go.Proofs.Ytdpihfmbkimgpaa.Pa
