/-
  The program's Cut at a TAB, and what a line gives by it; Line.
-/
import Derived.Test.YtficnlglofgekaaDoorJbEach
import Derived.Laws.Concat
namespace Go.Proofs.YtficnlglofgekaaDoor.Jb
open Go.ChangeShapes Go.WideShapes Go.ChangeAt Go.RowKit
open Go.Lib hiding intOf
open Go.Proofs.YtficnlglofgekaaDoor.Base
set_option linter.unusedVariables false
def keyOf (s : ByteArray) : ByteArray := s.extract 0 (tabAt s)
def valOf (s : ByteArray) : ByteArray := if tabAt s < s.size then s.extract (tabAt s + 1) s.size else ⟨#[]⟩
theorem index_tab : ∀ l : List UInt8, indexByte l 9 = if (l.takeWhile (fun b => b != 9)).length < l.length then ((l.takeWhile (fun b => b != 9)).length : Int) else -1
  | [] => rfl
  | b :: l => by
    unfold indexByte
    by_cases h : b = 9
    · subst h; simp
    · have ih := index_tab l
      have h1 : (b == 9) = false := by simpa using h
      rw [h1, ih, List.takeWhile_cons_of_pos (by simpa using h), List.length_cons, List.length_cons]
      generalize (l.takeWhile (fun b => b != 9)).length = t
      simp only [Bool.false_eq_true, if_false]
      by_cases q : t < l.length
      · have q2 : t + 1 < l.length + 1 := by omega
        have q3 : (((t : Nat) : Int) == -1) = false := beq_eq_false_iff_ne.2 (by omega)
        simp only [q, q2, q3, if_true, Bool.false_eq_true, if_false]
        omega
      · have q2 : ¬ t + 1 < l.length + 1 := by omega
        simp only [q, q2, if_false]
        rfl
theorem index_any' (s : ByteArray) (w : World) :
    Calls Tryd.prog 57 #[.string s, .string ⟨#[9]⟩] w fun e w' => e = .returned (.int .i64 (if tabAt s < s.size then (tabAt s : Int) else -1)) ∧ w' = w := by
  have h := index_any s 9 w
  rw [index_tab, size_list] at h
  exact h
set_option maxHeartbeats 1000000 in
set_option maxRecDepth 100000 in
theorem cutLite_any (s : ByteArray) (w : World) (hs : s.size ≤ 1099511627776) :
    Calls Tryd.prog 48 #[.string s, .string ⟨#[9]⟩] w fun e w' => ∃ b, e = .returned (.tuple #[.string (keyOf s), .string (valOf s), .bool b]) ∧ Below w.heap.size w w' := by
  have HI := hide (fun W => index_any' s W)
  have htl := tab_le s
  have HK : Hid (keyOf s = s.extract 0 (tabAt s)) := rfl
  by_cases ht : tabAt s < s.size
  · have HV : Hid (valOf s = s.extract (tabAt s + 1) s.size) := if_pos ht
    generalize keyOf s = K at HK ⊢
    generalize valOf s = V at HV ⊢
    have HI2 : Hid (∀ W, Calls Tryd.prog 57 #[.string s, .string ⟨#[9]⟩] W fun e w' => e = .returned (.int .i64 (tabAt s : Int)) ∧ w' = W) := fun W => by have h := HI.out W; rw [if_pos ht] at h; exact h
    clear HI
    generalize tabAt s = n at HK HV HI2 htl ht ⊢
    have hn0 : (0 : Int) ≤ (n : Int) := by omega
    have hni : (n : Int) < (s.size : Int) := by omega
    go_enter Tryd.func48, Tryd.ntmps48
    go_wp2_with (go_at_call 57; refine (HI2.out _).mono ?_; rintro e w1 ⟨rfl, rfl⟩)
    go_quiet (fail)
    go_wp2_with fail
    go_ret3
    exact ⟨true, by rw [HK.out, HV.out]; rfl, by first | exact below_drewN' _ _ _ | exact below_drewN' (Below.refl _ _) _⟩
  · have HV : Hid (valOf s = ⟨#[]⟩) := if_neg ht
    have HKK : Hid (keyOf s = s) := by
      show _ = _
      rw [HK.out, show tabAt s = s.size by omega, ByteArray.extract_zero_size]
    generalize keyOf s = K at HK HKK ⊢
    generalize valOf s = V at HV ⊢
    have HI2 : Hid (∀ W, Calls Tryd.prog 57 #[.string s, .string ⟨#[9]⟩] W fun e w' => e = .returned (.int .i64 (-1)) ∧ w' = W) := fun W => by have h := HI.out W; rw [if_neg ht] at h; exact h
    clear HI
    go_enter Tryd.func48, Tryd.ntmps48
    go_wp2_with (go_at_call 57; refine (HI2.out _).mono ?_; rintro e w1 ⟨rfl, rfl⟩)
    go_ret3
    exact ⟨false, by rw [HKK.out, HV.out]; rfl, Below.refl _ _⟩
theorem cut_any (s : ByteArray) (w : World) (hs : s.size ≤ 1099511627776) :
    Calls Tryd.prog 36 #[.string s, .string ⟨#[9]⟩] w fun e w' => ∃ b, e = .returned (.tuple #[.string (keyOf s), .string (valOf s), .bool b]) ∧ Below w.heap.size w w' := by
  have HC := hide (cutLite_any s w hs)
  generalize keyOf s = K at HC ⊢
  generalize valOf s = V at HC ⊢
  go_enter Tryd.func36, Tryd.ntmps36
  go_wp2_with (go_at_call 48; refine HC.out.mono ?_; rintro e w1 ⟨b, rfl, hb1⟩; have HB1 := hide hb1; clear hb1)
  go_ret3
  exact ⟨b, rfl, HB1.out⟩
theorem key_size (s : ByteArray) : (keyOf s).size ≤ s.size := by unfold keyOf; rw [ByteArray.size_extract]; omega
theorem val_size (s : ByteArray) : (valOf s).size ≤ s.size := by
  unfold valOf
  split
  · rw [ByteArray.size_extract]; omega
  · show 0 ≤ _; omega
/-- What a line gives by a kind. -/
def isN (s : ByteArray) : Bool := (num s.data.toList).isSome
def mapP (kind : Int) (place : Int) (s : ByteArray) : List Pr :=
  if kind = 0 then eachP (wordsL s) ⟨#[49]⟩ else if kind = 1 then eachP (wordsL s) (dec place) else if kind = 2 then (if isN (valOf s) then onlyP (keyOf s) (valOf s) else [])
  else if kind = 3 then onlyP (keyOf s) (valOf s) else if kind = 4 then onlyP s ⟨#[]⟩ else []
def mapN (kind : Int) (s : ByteArray) : Nat :=
  if kind = 0 then eachN (wordsL s) else if kind = 1 then eachN (wordsL s) else if kind = 2 then (if isN (valOf s) then onlyN (keyOf s) (valOf s) else 1)
  else if kind = 3 then onlyN (keyOf s) (valOf s) else if kind = 4 then onlyN s ⟨#[]⟩ else 0
theorem dec_size (v : Int) (hv : In64 v) : (dec v).size ≤ 21 := by
  have h := Lib.itoa_length_le v hv.1 hv.2
  have e : (dec v).size = (itoa v).length := by unfold dec; show (itoa v).toArray.size = _; simp
  omega
def Ans (w : World) (e : Ending) (w' : World) (ps : List Pr) (n : Nat) : Prop := ∃ x, e = .returned (.tuple #[x, .int .i64 (n : Int)]) ∧ OwnP w' w.heap.size x ps ∧ Below w.heap.size w w'
theorem counted_any (p : Int) (s : ByteArray) (w : World) (hs : s.size ≤ 1048576) :
    Calls Tryd.prog 20 #[.int .i64 p, .string s] w fun e w' => Ans w e w' (eachP (wordsL s) ⟨#[49]⟩) (eachN (wordsL s)) := by
  have HE := hide (each_any s ⟨#[49]⟩ w hs (by decide))
  generalize eachP (wordsL s) ⟨#[49]⟩ = L at HE ⊢
  generalize eachN (wordsL s) = N at HE ⊢
  go_enter Tryd.func20, Tryd.ntmps20
  go_wp2_with (go_at_call 34; refine HE.out.mono ?_; rintro e w1 ⟨x, rfl, ho, hb⟩; have HO := hide ho; have HB := hide hb; clear ho hb)
  go_ret2
  exact ⟨x, rfl, HO.out, HB.out⟩
theorem indexed_any (p : Int) (s : ByteArray) (w : World) (hs : s.size ≤ 1048576) (hp : In64 p) (hw : Wd w) :
    Calls Tryd.prog 21 #[.int .i64 p, .string s] w fun e w' => Ans w e w' (eachP (wordsL s) (dec p)) (eachN (wordsL s)) := by
  have HF := hide (fmt_any p hp w hw)
  have HE := hide (fun W => each_any s (dec p) W hs (by have := dec_size p hp; omega))
  generalize eachP (wordsL s) (dec p) = L at HE ⊢
  generalize eachN (wordsL s) = N at HE ⊢
  generalize dec p = D at HF HE
  go_enter Tryd.func21, Tryd.ntmps21
  go_wp2_with (first
    | (go_at_call 35; refine HF.out.mono ?_; rintro e w1 ⟨rfl, hb1⟩; have HB1 := hide hb1; clear hb1)
    | (go_at_call 34; refine (HE.out _).mono ?_; rintro e w2 ⟨x, rfl, ho, hb⟩; have HO := hide ho; have HB := hide hb; clear ho hb))
  go_ret2
  exact ⟨x, rfl, HO.out.mono HB1.out.size, HB1.out.trans (HB.out.mono HB1.out.size)⟩
theorem keyed_any (p : Int) (s : ByteArray) (w : World) (hs : s.size ≤ 1048576) :
    Calls Tryd.prog 23 #[.int .i64 p, .string s] w fun e w' => Ans w e w' (onlyP (keyOf s) (valOf s)) (onlyN (keyOf s) (valOf s)) := by
  have HC := hide (cut_any s w (by omega))
  have HE := hide (fun W => only_any (keyOf s) (valOf s) W (by have := key_size s; omega) (by have := val_size s; omega))
  generalize keyOf s = K at HC HE ⊢
  generalize valOf s = V at HC HE ⊢
  generalize onlyP K V = L at HE ⊢
  generalize onlyN K V = N at HE ⊢
  go_enter Tryd.func23, Tryd.ntmps23
  go_wp2_with (first
    | (go_at_call 36; refine HC.out.mono ?_; rintro e w1 ⟨b, rfl, hb1⟩; have HB1 := hide hb1; clear hb1)
    | (go_at_call 38; refine (HE.out _).mono ?_; rintro e w2 ⟨x, rfl, ho, hb⟩; have HO := hide ho; have HB := hide hb; clear ho hb))
  go_ret2
  exact ⟨x, rfl, HO.out.mono HB1.out.size, HB1.out.trans (HB.out.mono HB1.out.size)⟩
theorem whole_any (p : Int) (s : ByteArray) (w : World) (hs : s.size ≤ 1048576) :
    Calls Tryd.prog 24 #[.int .i64 p, .string s] w fun e w' => Ans w e w' (onlyP s ⟨#[]⟩) (onlyN s ⟨#[]⟩) := by
  have HE := hide (only_any s ⟨#[]⟩ w (by omega) (by decide))
  generalize onlyP s ⟨#[]⟩ = L at HE ⊢
  generalize onlyN s ⟨#[]⟩ = N at HE ⊢
  go_enter Tryd.func24, Tryd.ntmps24
  go_wp2_with (go_at_call 38; refine HE.out.mono ?_; rintro e w1 ⟨x, rfl, ho, hb⟩; have HO := hide ho; have HB := hide hb; clear ho hb)
  go_ret2
  exact ⟨x, rfl, HO.out, HB.out⟩
theorem numbered_any (p : Int) (s : ByteArray) (w : World) (hs : s.size ≤ 1048576) (hw : Wd w) :
    Calls Tryd.prog 22 #[.int .i64 p, .string s] w fun e w' => Ans w e w' (if isN (valOf s) then onlyP (keyOf s) (valOf s) else []) (if isN (valOf s) then onlyN (keyOf s) (valOf s) else 1) := by
  have HW := hide hw
  have HC := hide (cut_any s w (by omega))
  have HE := hide (fun W => only_any (keyOf s) (valOf s) W (by have := key_size s; omega) (by have := val_size s; omega))
  have HM := hide (fun W hW => number_any (valOf s) W (by have := val_size s; omega) hW)
  generalize keyOf s = K at HC HE HM ⊢
  generalize valOf s = V at HC HE HM ⊢
  clear hw
  cases hn : num V.data.toList with
  | none =>
    have HR := hide (numV_none hn)
    have HI : Hid (isN V = false) := by unfold isN; rw [hn]; rfl
    rw [HI.out]
    rw [HR.out] at HM
    clear hn
    go_enter Tryd.func22, Tryd.ntmps22
    go_wp2_with (first
      | (go_at_call 36; refine HC.out.mono ?_; rintro e w1 ⟨b, rfl, hb1⟩; have HB1 := hide hb1; have HW1 := hide (HW.out.below hb1); clear hb1)
      | (go_at_call 37; refine (HM.out _ HW1.out).mono ?_; rintro e w2 ⟨rfl, hb⟩; have HB := hide hb; clear hb))
    go_ret2
    exact ⟨_, rfl, ownp_none _ _, HB1.out.trans (HB.out.mono HB1.out.size)⟩
  | some v =>
    have HR := hide (numV_some hn)
    have HI : Hid (isN V = true) := by unfold isN; rw [hn]; rfl
    rw [HI.out]
    rw [HR.out] at HM
    clear hn
    generalize onlyP K V = L at HE ⊢
    generalize onlyN K V = N at HE ⊢
    go_enter Tryd.func22, Tryd.ntmps22
    go_wp2_with (first
      | (go_at_call 36; refine HC.out.mono ?_; rintro e w1 ⟨b, rfl, hb1⟩; have HB1 := hide hb1; have HW1 := hide (HW.out.below hb1); clear hb1)
      | (go_at_call 37; refine (HM.out _ HW1.out).mono ?_; rintro e w2 ⟨rfl, hb⟩; have HB2 := hide (HB1.out.trans (hb.mono HB1.out.size)); clear hb)
      | (go_at_call 38; refine (HE.out _).mono ?_; rintro e w3 ⟨x, rfl, ho, hb⟩; have HO := hide ho; have HB := hide hb; clear ho hb))
    go_ret2
    exact ⟨x, rfl, HO.out.mono HB2.out.size, HB2.out.trans (HB.out.mono HB2.out.size)⟩
end Go.Proofs.YtficnlglofgekaaDoor.Jb
