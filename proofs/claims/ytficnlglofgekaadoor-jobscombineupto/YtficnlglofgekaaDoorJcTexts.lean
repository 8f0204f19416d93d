/-
  The document's Combine; the statement's helpers: texts with marks behind them, kept, and two answers that share nothing.
-/
import Derived.Test.YtficnlglofgekaaDoorJcComb
namespace Go.Proofs.YtficnlglofgekaaDoor.Jb
open Go.ChangeShapes Go.WideShapes Go.ChangeAt Go.RowKit
open Go.Lib hiding intOf
open Go.Proofs.YtficnlglofgekaaDoor.Base
open Go.Proofs.YtficnlglofgekaaDoor.Pa (OwnS RdS)
set_option linter.unusedVariables false
def mSpare : ByteArray := ⟨#[115, 112, 97, 114, 101]⟩
def mRoom : ByteArray := ⟨#[114, 111, 111, 109]⟩
def mMark : ByteArray := ⟨#[109, 97, 114, 107, 101, 100]⟩
def mBeh : ByteArray := ⟨#[98, 101, 104, 105, 110, 100]⟩
set_option maxHeartbeats 1000000 in
set_option maxRecDepth 100000 in
theorem spare_any (a : Option Addr) (n c : Nat) (ss : List ByteArray) (w : World) (hr : RdS w a n ss) (hnil : a = none → n = 0 ∧ c = 0) (hn : n ≤ 8796093021952) :
    Calls Tryd.prog 12 #[.slice a n c] w fun e w' => ∃ v, e = .returned v ∧ OwnS w' w.heap.size v (ss ++ [mSpare, mRoom]) ∧ Below w.heap.size w w' := by
  have HR := hide hr
  have HN := hide hr.1
  have HNil := hide hnil
  clear hr hnil
  go_enter Tryd.func12, Tryd.ntmps12
  go_upto_region 3 with (at_builtin; refine Pa.joinS _ rfl _ _ rfl w.heap.size (.slice none 0 0) [] rfl (Pa.owns_none _ _) a n c ss rfl HR.out HNil.out (by simp; omega) (Nat.le_refl _) ?_; intro v2 w2 ho2 hg2; rw [List.nil_append] at ho2; have HO2 := hide ho2; have HB2 := hide ((Below.refl w.heap.size w).grown hg2 (Nat.le_refl _) (fun k e => by cases e)); clear ho2 hg2)
  obtain ⟨wa, hwa⟩ : ∃ wa, w2.alloc (.cells #[.string ⟨#[115, 112, 97, 114, 101]⟩, .string ⟨#[114, 111, 111, 109]⟩] 9) = wa := ⟨_, rfl⟩
  have HBA : Hid (Below w2.heap.size w2 wa) := by rw [← hwa]; exact (Below.refl _ _).alloc (Nat.le_refl _) _
  have HRA : Hid (RdS wa (some ⟨w2.heap.size, 0, none⟩) 2 [mSpare, mRoom]) := by
    have h := Pa.own_heapS (w := wa) (base := 0) (g := w2.heap.size) (ss := [mSpare, mRoom]) (by rw [← hwa]; exact heap_alloc_new _ _) (Nat.zero_le _) (by unfold maxLen; simp)
    exact h.rds (by simp) (fun s hs => by
      rcases List.mem_cons.1 hs with rfl | hs
      · decide
      · rcases List.mem_cons.1 hs with rfl | hs
        · decide
        · cases hs)
  go_wp2_with (at_builtin; refine Pa.joinS wa rfl _ _ rfl w.heap.size v2 ss rfl (HO2.out.below HBA.out) (some ⟨w2.heap.size, 0, none⟩) 2 2 [mSpare, mRoom] rfl HRA.out (fun e => by cases e) (by have := HN.out; omega) (by have := HB2.out.size; have := HBA.out.size; omega) ?_; intro v3 w3 ho3 hg3; have HO3 := hide ho3; have HB3 := hide ((below_trans HB2.out HBA.out).grown hg3 (below_trans HB2.out HBA.out).size (fun k e => (HO2.out.blk k e).1)); clear ho3 hg3)
  go_ret
  exact ⟨v3, rfl, HO3.out, HB3.out⟩
set_option maxHeartbeats 2000000 in
set_option maxRecDepth 100000 in
theorem rcombine_any (kind : Int) (a : Option Addr) (n c : Nat) (ss : List ByteArray) (w : World) (hr : RdS w a n ss) (hnil : a = none → n = 0 ∧ c = 0) (hn : n ≤ 8796093022000) (hz : ∀ s ∈ ss, s.size ≤ 1099511627776) :
    Calls Tryd.prog 16 #[.int .i64 kind, .slice a n c] w fun e w' => ∃ v, e = .returned v ∧ OwnS w' w.heap.size v (combL kind ss) ∧ Below w.heap.size w w' := by
  have HR := hide hr
  have HZ := hide hz
  have HN := hide hr.1
  have HNil := hide hnil
  clear hr hz hnil
  by_cases h0 : n = 0
  · subst h0
    have HE : Hid (combL kind ss = []) := by show _ = _; unfold combL; rw [if_pos (.inl (List.length_eq_zero_iff.1 HN.out))]
    rw [HE.out]
    go_enter Tryd.func16, Tryd.ntmps16
    go_wp2_with fail
    go_ret
    exact ⟨_, rfl, Pa.owns_none _ _, Below.refl _ _⟩
  · have hnz : ((n : Int) == 0) = false := beq_eq_false_iff_ne.2 (by omega)
    have hne : ss ≠ [] := fun e => by have h := HN.out; rw [e] at h; simp at h; omega
    by_cases hbad : kind < 0 ∨ 4 < kind
    · have HE : Hid (combL kind ss = []) := by show _ = _; unfold combL; rw [if_pos (.inr hbad)]
      have HC : Hid (∀ W, Calls Tryd.prog 9 #[.int .i64 kind] W fun e w' => e = .returned (.int .i64 150) ∧ w' = W) := fun W => by have h := rcheck_any kind W; unfold chk at h; rw [if_pos hbad] at h; exact h
      rw [HE.out]
      clear hbad
      go_enter Tryd.func16, Tryd.ntmps16
      go_wp2_with (go_at_call 9; refine (HC.out _).mono ?_; rintro e w1 ⟨rfl, hq⟩; obtain rfl := hq.symm)
      go_ret
      exact ⟨_, rfl, Pa.owns_none _ _, Below.refl _ _⟩
    · have hk : kind = 0 ∨ kind = 2 ∨ kind = 4 ∨ kind = 1 ∨ kind = 3 := by omega
      clear hbad
      have HTT := hide (rtotal_any a n c ss w HR.out hn HZ.out)
      have HC : ∀ k : Int, 0 ≤ k → k ≤ 4 → Hid (∀ W, Calls Tryd.prog 9 #[.int .i64 k] W fun e w' => e = .returned (.int .i64 0) ∧ w' = W) := fun k h1 h2 W => by have h := rcheck_any k W; unfold chk at h; rw [if_neg (by omega)] at h; exact h
      rcases hk with rfl | rfl | rfl | rfl | rfl
      · have HE : Hid (combL 0 ss = [dec (totalL ss)]) := by
          show _ = _
          unfold combL
          rw [if_neg (by rintro (h | h | h); exact hne h; omega; omega), if_pos (by decide)]
        rw [HE.out]
        have HCK := HC 0 (by omega) (by omega)
        clear HC
        generalize dec (totalL ss) = D at HTT HE ⊢
        go_enter Tryd.func16, Tryd.ntmps16
        go_wp2_with (first
          | (go_at_call 9; refine (HCK.out _).mono ?_; rintro e w1 ⟨rfl, hq⟩; obtain rfl := hq.symm)
          | (go_at_call 33; refine HTT.out.mono ?_; rintro e w1 ⟨rfl, hq⟩; obtain rfl := hq.symm))
        go_ret
        exact ⟨_, rfl, Pa.own_heapS (ss := [D]) (heap_alloc_new _ _) (Nat.le_refl _) (by unfold maxLen; simp), (Below.refl _ _).alloc (Nat.le_refl _) _⟩
      · have HE : Hid (combL 2 ss = [dec (totalL ss)]) := by
          show _ = _
          unfold combL
          rw [if_neg (by rintro (h | h | h); exact hne h; omega; omega), if_pos (by decide)]
        rw [HE.out]
        have HCK := HC 2 (by omega) (by omega)
        clear HC
        generalize dec (totalL ss) = D at HTT HE ⊢
        go_enter Tryd.func16, Tryd.ntmps16
        go_wp2_with (first
          | (go_at_call 9; refine (HCK.out _).mono ?_; rintro e w1 ⟨rfl, hq⟩; obtain rfl := hq.symm)
          | (go_at_call 33; refine HTT.out.mono ?_; rintro e w1 ⟨rfl, hq⟩; obtain rfl := hq.symm))
        go_ret
        exact ⟨_, rfl, Pa.own_heapS (ss := [D]) (heap_alloc_new _ _) (Nat.le_refl _) (by unfold maxLen; simp), (Below.refl _ _).alloc (Nat.le_refl _) _⟩
      · have HE : Hid (combL 4 ss = ss.take 1) := by
          show _ = _
          unfold combL
          rw [if_neg (by rintro (h | h | h); exact hne h; omega; omega), if_neg (by decide), if_pos (by decide)]
        rw [HE.out]
        have HCK := HC 4 (by omega) (by omega)
        clear HC HTT
        obtain ⟨b, off, rfl, hbl, hbc⟩ := HR.out.2.2.2 (by omega)
        have hcell := hbc 0 (by omega)
        rw [Nat.add_zero] at hcell
        have HT : Hid (ss.take 1 = [ss.getD 0 ⟨#[]⟩]) := by
          show _ = _
          cases hss : ss with
          | nil => exact absurd hss hne
          | cons x r => rfl
        rw [HT.out]
        generalize ss.getD 0 ⟨#[]⟩ = D at hcell HT ⊢
        have hn1 : (0 : Int) < (n : Int) := by omega
        clear hbc
        go_enter Tryd.func16, Tryd.ntmps16
        go_wp2_with (go_at_call 9; refine (HCK.out _).mono ?_; rintro e w1 ⟨rfl, hq⟩; obtain rfl := hq.symm)
        go_ret
        exact ⟨_, rfl, Pa.own_heapS (ss := [D]) (heap_alloc_new _ _) (Nat.le_refl _) (by unfold maxLen; simp), (Below.refl _ _).alloc (Nat.le_refl _) _⟩
      · have HE : Hid (combL 1 ss = ss) := by
          show _ = _
          unfold combL
          rw [if_neg (by rintro (h | h | h); exact hne h; omega; omega), if_neg (by decide), if_neg (by decide)]
        rw [HE.out]
        have HCK := HC 1 (by omega) (by omega)
        clear HC HTT
        go_enter Tryd.func16, Tryd.ntmps16
        go_wp2_with (first
          | (go_at_call 9; refine (HCK.out _).mono ?_; rintro e w1 ⟨rfl, hq⟩; obtain rfl := hq.symm)
          | (at_builtin; refine Pa.joinS _ rfl _ _ rfl w.heap.size (.slice none 0 0) [] rfl (Pa.owns_none _ _) a n c ss rfl HR.out HNil.out (by simp; omega) (Nat.le_refl _) ?_; intro v2 w2 ho2 hg2; rw [List.nil_append] at ho2; have HO2 := hide ho2; have HB2 := hide ((Below.refl w.heap.size w).grown hg2 (Nat.le_refl _) (fun k e => by cases e)); clear ho2 hg2))
        go_ret
        exact ⟨_, rfl, HO2.out, HB2.out⟩
      · have HE : Hid (combL 3 ss = ss) := by
          show _ = _
          unfold combL
          rw [if_neg (by rintro (h | h | h); exact hne h; omega; omega), if_neg (by decide), if_neg (by decide)]
        rw [HE.out]
        have HCK := HC 3 (by omega) (by omega)
        clear HC HTT
        go_enter Tryd.func16, Tryd.ntmps16
        go_wp2_with (first
          | (go_at_call 9; refine (HCK.out _).mono ?_; rintro e w1 ⟨rfl, hq⟩; obtain rfl := hq.symm)
          | (at_builtin; refine Pa.joinS _ rfl _ _ rfl w.heap.size (.slice none 0 0) [] rfl (Pa.owns_none _ _) a n c ss rfl HR.out HNil.out (by simp; omega) (Nat.le_refl _) ?_; intro v2 w2 ho2 hg2; rw [List.nil_append] at ho2; have HO2 := hide ho2; have HB2 := hide ((Below.refl w.heap.size w).grown hg2 (Nat.le_refl _) (fun k e => by cases e)); clear ho2 hg2))
        go_ret
        exact ⟨_, rfl, HO2.out, HB2.out⟩
end Go.Proofs.YtficnlglofgekaaDoor.Jb
