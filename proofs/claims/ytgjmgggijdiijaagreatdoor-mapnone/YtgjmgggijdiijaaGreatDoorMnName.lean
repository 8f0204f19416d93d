/-
  The names of attempts, the program's and the document's.
-/
import Derived.Test.YtgjmgggijdiijaaGreatDoorMnShelf
import Derived.Laws.Concat
import Derived.Lib.ItoaLen
namespace Go.Proofs.YtgjmgggijdiijaaGreatDoor.mapNone
open Go.ChangeShapes Go.WideShapes Go.ChangeAt Go.RowKit
open Go.Lib hiding intOf
open Go.Proofs.YtgjmgggijdiijaaGreatDoor.Base Go.Proofs.YtgjmgggijdiijaaGreatDoor.Jb
set_option linter.unusedVariables false
/-- An attempt's name. -/
def nm (out : ByteArray) (t a : Int) : ByteArray := if t < 0 ∨ a < 0 then ⟨#[]⟩ else out ++ ⟨#[46, 109]⟩ ++ dec t ++ ⟨#[46]⟩ ++ dec a
theorem dec_len (v : Int) (hv : In64 v) : (dec v).size ≤ 21 := by
  have h := Lib.itoa_length_le v hv.1 hv.2
  show (Lib.itoa v).toArray.size ≤ 21
  rw [List.size_toArray]
  omega
set_option maxHeartbeats 1000000 in
set_option maxRecDepth 100000 in
theorem name_any (out : ByteArray) (t a : Int) (w : World) (ho : out.size ≤ 140737488355328) (ht : In64 t) (ha : In64 a) (hT : Lib.TabIs Tryz.prog w "internal/strconv.uint64pow10" .u64 Lib.pow10Tab) :
    Calls Tryz.prog 5 #[.string out, .int .i64 t, .int .i64 a] w fun e w' => e = .returned (.string (nm out t a)) ∧ Below w.heap.size w w' := by
  have HIT := hide (fun v hv W hW => itoa_any v hv W hW)
  have HT := hide hT
  have HA := hide ha
  have HTT := hide ht
  have hd1 := dec_len t ht
  have hd2 := dec_len a ha
  clear hT ha ht
  by_cases h1 : t < 0
  · have HE : Hid (nm out t a = ⟨#[]⟩) := by show _ = _; unfold nm; rw [if_pos (.inl h1)]
    rw [HE.out]
    go_enter Tryz.func5, Tryz.ntmps5
    go_wp2_with fail
    go_ret
    exact ⟨rfl, Below.refl _ _⟩
  · by_cases h2 : a < 0
    · have HE : Hid (nm out t a = ⟨#[]⟩) := by show _ = _; unfold nm; rw [if_pos (.inr h2)]
      rw [HE.out]
      go_enter Tryz.func5, Tryz.ntmps5
      go_wp2_with fail
      go_ret
      exact ⟨rfl, Below.refl _ _⟩
    · have HE : nm out t a = out ++ ⟨#[46, 109]⟩ ++ dec t ++ ⟨#[46]⟩ ++ dec a := by unfold nm; rw [if_neg (by omega)]
      rw [HE]
      clear HE
      have HI1 := hide (fun W hW => itoa_any t HTT.out W hW)
      have HI2 := hide (fun W hW => itoa_any a HA.out W hW)
      generalize dec t = D1 at hd1 HI1 ⊢
      generalize dec a = D2 at hd2 HI2 ⊢
      obtain ⟨X1, hX1⟩ : ∃ X, out ++ ⟨#[46, 109]⟩ = X := ⟨_, rfl⟩
      have sX1 : X1.size ≤ 140737488355330 := by rw [← hX1, ByteArray.size_append]; show out.size + 2 ≤ _; omega
      rw [hX1]
      obtain ⟨X2, hX2⟩ : ∃ X, X1 ++ D1 = X := ⟨_, rfl⟩
      have sX2 : X2.size ≤ 140737488355351 := by rw [← hX2, ByteArray.size_append]; omega
      rw [hX2]
      obtain ⟨X3, hX3⟩ : ∃ X, X2 ++ ⟨#[46]⟩ = X := ⟨_, rfl⟩
      have sX3 : X3.size ≤ 140737488355352 := by rw [← hX3, ByteArray.size_append]; show X2.size + 1 ≤ _; omega
      rw [hX3]
      obtain ⟨X4, hX4⟩ : ∃ X, X3 ++ D2 = X := ⟨_, rfl⟩
      rw [hX4]
      clear HIT
      go_enter Tryz.func5, Tryz.ntmps5
      go_wp2_with (first
        | (go_at_call 24; have h := HB1; refine (HI2.out _ HT1.out).mono ?_; rintro e w2 ⟨rfl, hb⟩; have HB2 := hide (below_trans HB1.out hb); clear hb h)
        | (go_at_call 24; refine (HI1.out _ HT.out).mono ?_; rintro e w1 ⟨rfl, hb⟩; have HB1 := hide hb; have HT1 := hide (tab_below HT.out hb); clear hb))
      all_goals first | (exfalso; omega) | skip
      go_ret
      exact ⟨rfl, HB2.out⟩
set_option maxHeartbeats 1000000 in
set_option maxRecDepth 100000 in
theorem rname_any (out : ByteArray) (t a : Int) (w : World) (ho : out.size ≤ 140737488355328) (ht : In64 t) (ha : In64 a) :
    Calls Tryz.prog 6 #[.string out, .int .i64 t, .int .i64 a] w fun e w' => e = .returned (.string (nm out t a)) ∧ w' = w := by
  have HA := hide ha
  have HTT := hide ht
  have hd1 := dec_len t ht
  have hd2 := dec_len a ha
  clear ha ht
  by_cases h1 : t < 0
  · have HE : Hid (nm out t a = ⟨#[]⟩) := by show _ = _; unfold nm; rw [if_pos (.inl h1)]
    rw [HE.out]
    go_enter Tryz.func6, Tryz.ntmps6
    go_wp2_with fail
    go_ret
    exact ⟨rfl, rfl⟩
  · by_cases h2 : a < 0
    · have HE : Hid (nm out t a = ⟨#[]⟩) := by show _ = _; unfold nm; rw [if_pos (.inr h2)]
      rw [HE.out]
      go_enter Tryz.func6, Tryz.ntmps6
      go_wp2_with fail
      go_ret
      exact ⟨rfl, rfl⟩
    · have HE : nm out t a = out ++ ⟨#[46, 109]⟩ ++ dec t ++ ⟨#[46]⟩ ++ dec a := by unfold nm; rw [if_neg (by omega)]
      rw [HE]
      clear HE
      have HI1 := hide (fun W => decimal_any t HTT.out W)
      have HI2 := hide (fun W => decimal_any a HA.out W)
      generalize dec t = D1 at hd1 HI1 ⊢
      generalize dec a = D2 at hd2 HI2 ⊢
      obtain ⟨X1, hX1⟩ : ∃ X, out ++ ⟨#[46, 109]⟩ = X := ⟨_, rfl⟩
      have sX1 : X1.size ≤ 140737488355330 := by rw [← hX1, ByteArray.size_append]; show out.size + 2 ≤ _; omega
      rw [hX1]
      obtain ⟨X2, hX2⟩ : ∃ X, X1 ++ D1 = X := ⟨_, rfl⟩
      have sX2 : X2.size ≤ 140737488355351 := by rw [← hX2, ByteArray.size_append]; omega
      rw [hX2]
      obtain ⟨X3, hX3⟩ : ∃ X, X2 ++ ⟨#[46]⟩ = X := ⟨_, rfl⟩
      have sX3 : X3.size ≤ 140737488355352 := by rw [← hX3, ByteArray.size_append]; show X2.size + 1 ≤ _; omega
      rw [hX3]
      obtain ⟨X4, hX4⟩ : ∃ X, X3 ++ D2 = X := ⟨_, rfl⟩
      rw [hX4]
      go_enter Tryz.func6, Tryz.ntmps6
      go_wp2_with (first
        | (go_at_call 25; have h := HG1; refine (HI2.out _).mono ?_; rintro e w2 ⟨rfl, hq⟩; obtain rfl := hq.symm; clear h)
        | (go_at_call 25; refine (HI1.out _).mono ?_; rintro e w1 ⟨rfl, hq⟩; obtain rfl := hq.symm; have HG1 : Hid True := trivial))
      all_goals first | (exfalso; omega) | skip
      go_ret
      exact ⟨rfl, rfl⟩
end Go.Proofs.YtgjmgggijdiijaaGreatDoor.mapNone
