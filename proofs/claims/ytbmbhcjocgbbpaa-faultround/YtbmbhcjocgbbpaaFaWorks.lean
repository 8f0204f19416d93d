/-
  The statements' works: a flip turns a bit, a plan tells a stop once.
-/
import Derived.Test.YtbmbhcjocgbbpaaFaPlanC
import Derived.Test.YtbmbhcjocgbbpaaFaDamage
import Derived.Test.YtbmbhcjocgbbpaaFaSame
namespace Go.Proofs.Ytbmbhcjocgbbpaa.Fa
open Go.ChangeShapes Go.WideShapes Go.ChangeAt Go.RowKit
open Go.Proofs.Ytbmbhcjocgbbpaa.Base
set_option linter.unusedVariables false
def fS : Flt := ⟨0, 0, 1, 1, 0, 0, 9, 0#32⟩
def fD : Flt := ⟨1, 0, 0, 1, 0, 0, 3, 1#32⟩
theorem fS_chk : chk [fS] = 0 := by decide +kernel
theorem fS_all : [fS].filter (isStop ((0, 0, 1, 1) : P4)) = [fS] := by rw [List.filter_cons_of_pos (by decide +kernel)]; rfl
theorem fS_left : [fS].filter (fun f => !isStop ((0, 0, 1, 1) : P4) f) = [] := by rw [List.filter_cons_of_neg (by decide +kernel)]; rfl
theorem fD_dam : damL [0#8] fD = [8#8] := by decide +kernel
theorem one_byte (w : World) (c : BitVec 8) : Rd (w.alloc (.cells #[.int .u8 (c.toNat : Int)] 5)) (some ⟨w.heap.size, 0, none⟩) 1 [c] := rd_new w [c] (0, 0) (by simp)
set_option maxHeartbeats 2000000 in
set_option maxRecDepth 100000 in
theorem works_any (w : World) : Calls Try.prog 16 #[] w fun e w' => e = .returned (.bool true) ∧ Below w.heap.size w w' := by
  obtain ⟨w0, hw0⟩ : ∃ w0, w.alloc (.cells #[.int .i64 0, .int .i64 0, .int .i64 1, .int .i64 1, .int .i64 0, .int .i64 0, .int .i64 9, .int .u32 0] 25) = w0 := ⟨_, rfl⟩
  have HR0 : Hid (RdL w0 (some ⟨w.heap.size, 0, none⟩) 1 [fS]) := by
    refine ⟨rfl, fun _ => ⟨w.heap.size, 0, rfl, by rw [← hw0]; simp, fun j hj => ?_⟩⟩
    obtain rfl : j = 0 := by omega
    obtain ⟨e0, e1, e2, e3, e4, e5, e6, e7⟩ := (FB.new w fS).cells
    rw [← hw0]
    exact ⟨e0, e1, e2, e3, e4, e5, e6, e7⟩
  have HB0 : Hid (Below w.heap.size w w0) := by show Below _ _ _; rw [← hw0]; exact ba (b0 _) _
  go_enter Try.func16, Try.ntmps16
  go_wp2_with fail
  refine (new_ok (some ⟨w.heap.size, 0, none⟩) 1 1 [fS] _ HR0.out (by intro h; cases h) fS_chk).mono ?_
  rintro e w1 ⟨p, lv, rfl, hp, hpl, hlv, hb1⟩
  obtain ⟨la, lc, rfl, _, _⟩ := hlv.shape
  have HB1 := hide (below_trans HB0.out hb1)
  have HPW : Hid (w.heap.size ≤ p) := Nat.le_trans HB0.out.size hp
  have HPL := hide hpl
  have HLV := hide hlv
  clear hp hpl hlv hb1
  go_wp2_with fail
  refine (pstop_any 0 1 1 p _ _ _ _ [fS] _ HPL.out HLV.out (by simp)).mono ?_
  rintro e w2 ⟨lv2, rfl, hlv2, hpl2, hg2⟩
  rw [fS_all]
  rw [fS_left] at hlv2
  obtain ⟨la2, lc2, rfl, _, _⟩ := hlv2.shape
  have HB2 := hide (grown_below HB1.out hg2 HPW.out)
  have HPL2 := hide hpl2
  have HLV2 := hide hlv2
  clear hpl2 hlv2 hg2
  go_wp2_with fail
  refine (pstop_any 0 1 1 p _ _ _ _ [] _ HPL2.out HLV2.out (by simp)).mono ?_
  rintro e w3 ⟨lv3, rfl, hlv3, hpl3, hg3⟩
  have HB3 := hide (grown_below HB2.out hg3 HPW.out)
  clear hpl3 hlv3 hg3
  go_wp2_with fail
  refine (dam_any (some ⟨w3.heap.size, 0, none⟩) 1 1 fD [0#8] _ (one_byte w3 0#8) (by intro h; cases h) (by omega) (by decide)).mono ?_
  rintro e w4 ⟨v4, rfl, ho4, hb4⟩
  rw [fD_dam] at ho4
  obtain ⟨va, vc, rfl⟩ := ho4.shape
  have HO4 := hide ho4
  have HB4 := hide (below_trans (ba HB3.out _) hb4)
  clear ho4 hb4
  have HR5 := hide (one_byte w4 8#8)
  have HO5 := hide (HO4.out.below (ba (b0 w4) (.cells #[.int .u8 ((8#8 : BitVec 8).toNat : Int)] 5)))
  have HB5 := hide (ba HB4.out (.cells #[.int .u8 ((8#8 : BitVec 8).toNat : Int)] 5))
  rw [show ((8#8 : BitVec 8).toNat : Int) = 8 from rfl] at HR5 HO5 HB5
  go_wp2_with fail
  refine (same_eq va (some ⟨w4.heap.size, 0, none⟩) 1 vc 1 1 [8#8] _ (Got.rd HO5.out (by simp)) HR5.out).mono ?_
  rintro e w6 ⟨rfl, hb6⟩
  have HB6 := hide (below_trans HB5.out hb6)
  clear hb6
  go_wp2_with fail
  go_ret
  exact ⟨rfl, HB6.out⟩
end Go.Proofs.Ytbmbhcjocgbbpaa.Fa
