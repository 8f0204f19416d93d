/-
  The library's FieldsFunc and Index, at this program's numbers.
-/
import Derived.Test.YtficnlglofgekaaDoorJbWords
import Derived.Test.YtficnlglofgekaaDoorPaStrs
import Derived.Shelf.Strings.FieldsFuncGrows
import Derived.Shelf.Strings.Search2
namespace Go.Proofs.YtficnlglofgekaaDoor.Jb
open Go.Shelf Go.RowKit Go.Lib
open Go.Proofs.YtficnlglofgekaaDoor.Base
set_option linter.unusedVariables false
def lays229_ren : Go.Shelf.Ren := ⟨fun | 229 => 44 | n => n, fun | 9 => 9 | 40 => 58 | 31 => 32 | 152 => 67 | 3 => 3 | 0 => 0 | 4 => 4 | 21 => 21 | 154 => 69 | n => n, fun | n => n⟩
theorem lays229 : Go.Proofs.Lays.n229 Tryd.prog lays229_ren := {
  mixed := by kernel_rfl
  f229 := Tryd.func44.trans (congrArg some (by kernel_rfl))
  t0 := Tryd.underlying0
  a0 := Tryd.isAgg0
  z0 := Tryd.sizeOf0
  v0 := Tryd.zeroValue0
  t3 := Tryd.underlying3
  a3 := Tryd.isAgg3
  z3 := Tryd.sizeOf3
  v3 := Tryd.zeroValue3
  t4 := Tryd.underlying4
  a4 := Tryd.isAgg4
  z4 := Tryd.sizeOf4
  v4 := Tryd.zeroValue4
  t9 := Tryd.underlying9
  a9 := Tryd.isAgg9
  z9 := Tryd.sizeOf9
  v9 := Tryd.zeroValue9
  t21 := Tryd.underlying21
  a21 := Tryd.isAgg21
  z21 := Tryd.sizeOf21
  v21 := Tryd.zeroValue21
  t31 := Tryd.underlying32
  a31 := Tryd.isAgg32
  z31 := Tryd.sizeOf32
  v31 := Tryd.zeroValue32
  t40 := Tryd.underlying58
  a40 := Tryd.isAgg58
  z40 := Tryd.sizeOf58
  v40 := Tryd.zeroValue58
  t152 := Tryd.underlying67
  a152 := Tryd.isAgg67
  z152 := Tryd.sizeOf67
  v152 := Tryd.zeroValue67
  t154 := Tryd.underlying69
  a154 := Tryd.isAgg69
  z154 := Tryd.sizeOf69
  v154 := Tryd.zeroValue69 }
def lays219_ren : Go.Shelf.Ren := ⟨fun | 219 => 57 | 217 => 75 | 225 => 76 | 224 => 77 | 267 => 78 | 266 => 92 | 314 => 93 | n => n, fun | 9 => 9 | 3 => 3 | 4 => 4 | 5 => 5 | 46 => 66 | 146 => 111 | 51 => 91 | n => n, fun | 1 => 1 | n => n⟩
theorem lays219 : Go.Proofs.Lays.n219 Tryd.prog lays219_ren := {
  mixed := by kernel_rfl
  f217 := Tryd.func75.trans (congrArg some (by kernel_rfl))
  f219 := Tryd.func57.trans (congrArg some (by kernel_rfl))
  f224 := Tryd.func77.trans (congrArg some (by kernel_rfl))
  f225 := Tryd.func76.trans (congrArg some (by kernel_rfl))
  f266 := Tryd.func92.trans (congrArg some (by kernel_rfl))
  f267 := Tryd.func78.trans (congrArg some (by kernel_rfl))
  f314 := Tryd.func93.trans (congrArg some (by kernel_rfl))
  t3 := Tryd.underlying3
  a3 := Tryd.isAgg3
  z3 := Tryd.sizeOf3
  v3 := Tryd.zeroValue3
  t4 := Tryd.underlying4
  a4 := Tryd.isAgg4
  z4 := Tryd.sizeOf4
  v4 := Tryd.zeroValue4
  t5 := Tryd.underlying5
  a5 := Tryd.isAgg5
  z5 := Tryd.sizeOf5
  v5 := Tryd.zeroValue5
  t9 := Tryd.underlying9
  a9 := Tryd.isAgg9
  z9 := Tryd.sizeOf9
  v9 := Tryd.zeroValue9
  t46 := Tryd.underlying66
  a46 := Tryd.isAgg66
  z46 := Tryd.sizeOf66
  v46 := Tryd.zeroValue66
  t51 := Tryd.underlying91
  a51 := Tryd.isAgg91
  z51 := Tryd.sizeOf91
  v51 := Tryd.zeroValue91
  t146 := Tryd.underlying111
  a146 := Tryd.isAgg111
  z146 := Tryd.sizeOf111
  v146 := Tryd.zeroValue111
  g1 := by kernel_rfl }

theorem index_any (s : ByteArray) (c : UInt8) (w : World) :
    Calls Tryd.prog 57 #[.string s, .string ⟨#[c]⟩] w fun e w' => e = .returned (.int .i64 (Lib.indexByte s.data.toList c)) ∧ w' = w := Any.stringslite_Index_one lays219 s c w
theorem isOut_eq (x : Nat) : isOut x = ((decide ((x : Int) < 97) || decide (122 < (x : Int))) && (decide ((x : Int) < 65) || decide (90 < (x : Int))) && (decide ((x : Int) < 48) || decide (57 < (x : Int)))) := by
  unfold isOut isL
  rw [Bool.eq_iff_iff]
  simp only [Bool.not_eq_true', Bool.or_eq_false_iff, Bool.and_eq_false_iff, Bool.or_eq_true, Bool.and_eq_true, decide_eq_false_iff_not, decide_eq_true_eq]
  omega
theorem outside_any (x : Nat) (hx : x ≤ 1114111) (w : World) :
    Calls Tryd.prog 45 #[.int .i32 (x : Int)] w fun e w' => e = .returned (.bool (isOut x)) ∧ w' = w := by
  have hq := isOut_eq x
  generalize isOut x = B at hq ⊢
  have HQ : Hid (B = ((decide ((x : Int) < 97) || decide (122 < (x : Int))) && (decide ((x : Int) < 65) || decide (90 < (x : Int))) && (decide ((x : Int) < 48) || decide (57 < (x : Int))))) := hq
  clear hq
  go_enter Tryd.func45, Tryd.ntmps45
  go_wp2
  all_goals
    go_ret
    refine ⟨congrArg (fun b => Ending.returned (Value.bool b)) ?_, rfl⟩
    first
      | exact HQ.out.symm
      | (rw [HQ.out, Bool.eq_iff_iff]; simp only [Bool.or_eq_true, Bool.and_eq_true, decide_eq_true_eq]; omega)
      | (rw [HQ.out, Bool.eq_iff_iff]; simp only [Bool.or_eq_true, Bool.and_eq_true, decide_eq_true_eq, Bool.false_eq_true]; omega)
      | (rw [HQ.out, Bool.eq_iff_iff]; simp; done)
      | (rw [HQ.out, Bool.eq_iff_iff]; simp; omega)
theorem fields_any (s : ByteArray) (w : World) (hs : s.size ≤ 4294967296) :
    Calls Tryd.prog 44 #[.string s, .func (.func 45) #[] #[]] w fun e w' => ∃ A, e = .returned (.slice (some ⟨A, 0, none⟩) (wordsL s).length (wordsL s).length) ∧
      Pa.OwnS w' w.heap.size (.slice (some ⟨A, 0, none⟩) (wordsL s).length (wordsL s).length) (wordsL s) ∧ Below w.heap.size w w' := by
  have h := Any.strings_FieldsFunc_grows lays229 45 #[] (enters_of Tryd.func45 (by kernel_rfl) rfl) isOut s w hs (fun W x hx _ => (outside_any x hx W).mono fun e w' ⟨h1, h2⟩ => ⟨h1, by subst h2; exact Below.refl _ _⟩) (by kernel_rfl) (by kernel_rfl)
  rw [fields_words] at h
  refine h.mono ?_
  rintro e w' ⟨A, rfl, hA, ho, hb⟩
  exact ⟨A, rfl, ho, hb⟩
end Go.Proofs.YtficnlglofgekaaDoor.Jb
