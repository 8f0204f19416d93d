/-
  The program's numberOf, mayBe, only, Cut at a TAB, Line, Check.
-/
import Derived.Test.YtficnlglofgekaaDoorJbRef2
import Derived.Test.YtficnlglofgekaaDoorJbRef3
import Derived.Test.YtficnlglofgekaaDoorStClone
namespace Go.Proofs.YtficnlglofgekaaDoor.Jb
open Go.ChangeShapes Go.WideShapes Go.ChangeAt Go.RowKit
open Go.Lib hiding intOf
open Go.Proofs.YtficnlglofgekaaDoor.Base
set_option linter.unusedVariables false
set_option maxHeartbeats 1000000 in
theorem number_any (s : ByteArray) (w : World) (hs : s.size ≤ 1099511627776) (hw : Wd w) :
    Calls Tryd.prog 37 #[.string s] w fun e w' => e = .returned (numV s) ∧ Below w.heap.size w w' := by
  have HW := hide hw
  clear hw
  have HP := hide (parse_any s (by omega) w HW.out)
  go_enter Tryd.func37, Tryd.ntmps37
  go_wp2_with fail
  refine HP.out.mono ?_
  rintro e w1 ⟨h1, hb1⟩
  have HB1 := hide hb1
  have HW1 := hide (HW.out.below hb1)
  clear hb1 HP
  rcases h1 with ⟨v, hv, rfl⟩ | ⟨hv, n, t, p, rfl⟩
  · have HI := hide (parse_in64 hv)
    have hde := dec_eq_iff v s
    have HF := hide (fmt_any v HI.out w1 HW1.out)
    by_cases hq : itoa v = s.data.toList
    · have HR : Hid (numV s = .tuple #[.int .i64 v, .bool true]) := hide (numV_some (by rw [num_ok hv, if_pos hq]))
      have hdt : ((dec v).toList == s.toList) = true := by rw [hde]; exact decide_eq_true hq
      clear hde hq hv
      go_wp2_with (go_at_call 35; refine HF.out.mono ?_; rintro e w2 ⟨rfl, hb2⟩; have HB2 := hide (below_trans HB1.out hb2); clear hb2)
      go_ret2
      exact ⟨by rw [HR.out]; rfl, HB2.out⟩
    · have HR : Hid (numV s = .tuple #[.int .i64 0, .bool false]) := hide (numV_none (by rw [num_ok hv, if_neg hq]))
      have hdt : ((dec v).toList == s.toList) = false := by rw [hde]; exact decide_eq_false hq
      clear hde hq hv
      go_wp2_with (go_at_call 35; refine HF.out.mono ?_; rintro e w2 ⟨rfl, hb2⟩; have HB2 := hide (below_trans HB1.out hb2); clear hb2)
      go_ret2
      exact ⟨by rw [HR.out]; rfl, HB2.out⟩
  · have HR : Hid (numV s = .tuple #[.int .i64 0, .bool false]) := hide (numV_none (num_not hv))
    clear hv
    go_wp2_with fail
    go_ret2
    exact ⟨by rw [HR.out]; rfl, HB1.out⟩
def may (k v : ByteArray) : Bool := decide (k.size ≤ 1024) && decide (v.size ≤ 1024)
theorem may_any (k v : ByteArray) (w : World) (hk : k.size ≤ 1099511627776) (hv : v.size ≤ 1099511627776) :
    Calls Tryd.prog 46 #[.string k, .string v] w fun e w' => e = .returned (.bool (may k v)) ∧ w' = w := by
  unfold may
  go_enter Tryd.func46, Tryd.ntmps46
  by_cases h1 : k.size ≤ 1024
  · by_cases h2 : v.size ≤ 1024
    · have h1i : (k.size : Int) ≤ 1024 := by omega
      have h2i : (v.size : Int) ≤ 1024 := by omega
      go_wp2_with fail
      go_ret
      exact ⟨by first | rfl | (rw [decide_eq_true h1, decide_eq_true h2]; rfl) | (rw [decide_eq_true h1, decide_eq_false h2]; rfl) | (rw [decide_eq_false h2]; rfl) | (rw [decide_eq_true h2]; rfl) | simp, rfl⟩
    · have h1i : (k.size : Int) ≤ 1024 := by omega
      have h2i : ¬ (v.size : Int) ≤ 1024 := by omega
      go_wp2_with fail
      go_ret
      exact ⟨by first | rfl | (rw [decide_eq_true h1, decide_eq_true h2]; rfl) | (rw [decide_eq_true h1, decide_eq_false h2]; rfl) | (rw [decide_eq_false h2]; rfl) | (rw [decide_eq_true h2]; rfl) | simp, rfl⟩
  · have h1i : ¬ (k.size : Int) ≤ 1024 := by omega
    go_wp2_with fail
    go_ret
    exact ⟨by first | rfl | (rw [decide_eq_false h1]; rfl) | simp, rfl⟩
/-- A line that gives one pair at most. -/
def onlyP (k v : ByteArray) : List Pr := if may k v then [(k, v)] else []
def onlyN (k v : ByteArray) : Nat := if may k v then 0 else 1
set_option maxHeartbeats 1000000 in
set_option maxRecDepth 100000 in
theorem only_any (k v : ByteArray) (w : World) (hk : k.size ≤ 1099511627776) (hv : v.size ≤ 1099511627776) :
    Calls Tryd.prog 38 #[.string k, .string v] w fun e w' => ∃ x, e = .returned (.tuple #[x, .int .i64 (onlyN k v : Nat)]) ∧ OwnP w' w.heap.size x (onlyP k v) ∧ Below w.heap.size w w' := by
  have HM := hide (may_any k v w hk hv)
  go_enter Tryd.func38, Tryd.ntmps38
  go_wp2_with fail
  refine HM.out.mono ?_
  rintro e w1 ⟨rfl, hw1⟩
  obtain rfl := hw1.symm
  cases hm : may k v with
  | true =>
    have HP : Hid (onlyP k v = [(k, v)] ∧ onlyN k v = 0) := by unfold onlyP onlyN; rw [hm]; exact ⟨rfl, rfl⟩
    clear hm HM
    have HB := hide (Below.refl w.heap.size w)
    have HK := hide (Nat.le_trans hk (show 1099511627776 ≤ 281474976710656 by decide))
    have HV := hide (Nat.le_trans hv (show 1099511627776 ≤ 281474976710656 by decide))
    go_wp2_with (go_at_call 41; refine (St.clone_any _ _ (by first | exact HK.out | exact HV.out)).mono ?_; rintro e w2 ⟨rfl, hb2⟩; have HB := hide (below_trans HB.out hb2); clear hb2)
    go_ret2
    refine ⟨.slice (some ⟨w2.heap.size, 0, none⟩) 1 1, ?_, ?_, HB.out.alloc HB.out.size _⟩
    · rw [HP.out.2]; rfl
    · rw [HP.out.1]
      exact ownp_one (k, v) (heap_alloc_new _ _) HB.out.size
  | false =>
    have HP : Hid (onlyP k v = [] ∧ onlyN k v = 1) := by unfold onlyP onlyN; rw [hm]; exact ⟨rfl, rfl⟩
    clear hm HM
    go_wp2_with fail
    go_ret2
    refine ⟨.slice none 0 0, ?_, ?_, Below.refl _ _⟩
    · rw [HP.out.2]; rfl
    · rw [HP.out.1]; exact ownp_none _ _
end Go.Proofs.YtficnlglofgekaaDoor.Jb
