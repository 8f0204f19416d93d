/-
  Names: which may be one; what is refused ahead of any look into the store.
-/
import Derived.Test.YtdcjhjpbkpiddaaBase
namespace Go.Proofs.Ytdcjhjpbkpiddaa.St
open Go.ChangeShapes Go.WideShapes Go.ChangeAt Go.RowKit
open Go.Proofs.Ytdcjhjpbkpiddaa.Base
set_option linter.unusedVariables false
/-- May that byte stand in a name? -/
def okByte (c : Nat) : Bool := decide (97 ≤ c ∧ c ≤ 122 ∨ 48 ≤ c ∧ c ≤ 57 ∨ c = 46 ∨ c = 45)
def okName (s : ByteArray) : Bool := s.data.toList.all (fun c => okByte c.toNat) && decide (1 ≤ s.size ∧ s.size ≤ 40)
theorem okName_drop (s : ByteArray) (k : Nat) (h : k < s.size) : (s.data.toList.drop k).all (fun c => okByte c.toNat) = (okByte s[k].toNat && (s.data.toList.drop (k + 1)).all (fun c => okByte c.toNat)) := by
  have h' : k < s.data.toList.length := by simpa using h
  rw [List.drop_eq_getElem_cons h', List.all_cons]
  rfl
set_option maxHeartbeats 1000000 in
theorem isName_any (s : ByteArray) (w : World) (hs : s.size ≤ 140737488351232) :
    Calls Try.prog 34 #[.string s] w fun e w' => e = .returned (.bool (okName s)) ∧ w' = w := by
  have HN : Hid (okName s = ((s.data.toList.drop 0).all (fun c => okByte c.toNat) && decide (1 ≤ s.size ∧ s.size ≤ 40))) := rfl
  have hsi : (s.size : Int) ≤ 140737488351232 := by omega
  go_enter Try.func34, Try.ntmps34
  go_wp2_with fail
  go_loop [7] (fun i => ∃ k : Nat, k ≤ s.size ∧ i = .int .i64 (k : Int) ∧ Hid (okName s = ((s.data.toList.drop k).all (fun c => okByte c.toNat) && decide (1 ≤ s.size ∧ s.size ≤ 40)))) (fun i => s.size - (intOf i).toNat)
  case atStart => exact ⟨0, Nat.zero_le _, rfl, HN⟩
  case round =>
    obtain ⟨k, hk, rfl, H⟩ := hrel
    by_cases hlt : k < s.size
    · have HD := hide (okName_drop s k hlt)
      have hki : (k : Int) < (s.size : Int) := by omega
      obtain ⟨c, hc⟩ : ∃ c, s[k].toNat = c := ⟨_, rfl⟩
      rw [hc] at HD
      have hcc : ((s[k].toNat : Nat) : Int) = (c : Int) := by rw [hc]
      clear hc
      have HOK : Hid (okByte c = true → okName s = ((s.data.toList.drop (k + 1)).all (fun c => okByte c.toNat) && decide (1 ≤ s.size ∧ s.size ≤ 40))) := by
        show _ → _
        intro h; rw [H.out, HD.out, h, Bool.true_and]
      have HNO : Hid (okByte c = false → okName s = false) := by
        show _ → _
        intro h; rw [H.out, HD.out, h, Bool.false_and, Bool.false_and]
      clear H HD HN
      go_wp2_with fail
      all_goals first
        | (go_ret
           refine ⟨ret_bool ?_, rfl⟩
           rw [HNO.out (by unfold okByte; rw [decide_eq_false_iff_not]; simp only [bne_iff_ne, ne_eq] at *; omega)])
        | (go_round
           case rel => exact ⟨k + 1, by omega, by go_num, HOK.out (by unfold okByte; rw [decide_eq_true_iff]; simp only [bne_eq_false_iff_eq] at *; omega)⟩
           case measure => simp [intOf]; omega)
    · obtain rfl : k = s.size := by omega
      have HE : Hid (okName s = decide (1 ≤ s.size ∧ s.size ≤ 40)) := by show _ = _; rw [H.out, List.drop_eq_nil_of_le (by simp)]; rfl
      clear H HN
      by_cases h1 : 1 ≤ s.size
      · have h1i : 1 ≤ (s.size : Int) := by omega
        go_wp2_with fail
        all_goals
          go_ret
          refine ⟨ret_bool ?_, rfl⟩
          rw [HE.out]
          first
            | (rw [Bool.eq_iff_iff]; simp; omega)
            | (simp; omega)
      · have h1i : ¬ 1 ≤ (s.size : Int) := by omega
        go_wp2_with fail
        all_goals
          go_ret
          refine ⟨ret_bool ?_, rfl⟩
          rw [HE.out]
          symm
          rw [decide_eq_false_iff_not]
          omega
theorem refuse_any (g : Nat) (s : ByteArray) (w : World) (hs : s.size ≤ 140737488351232) (hn : okName s = true) :
    Calls Try.prog 16 #[.pointer (some ⟨g, 0, none⟩), .string s] w fun e w' => e = .returned (.int .i64 0) ∧ w' = w := by
  have HI := hide (isName_any s w hs)
  rw [hn] at HI
  go_enter Try.func16, Try.ntmps16
  go_wp2_with (go_at_call 34; refine HI.out.mono ?_; rintro e w' ⟨rfl, rfl⟩)
  go_ret
  exact ⟨rfl, rfl⟩
end Go.Proofs.Ytdcjhjpbkpiddaa.St
