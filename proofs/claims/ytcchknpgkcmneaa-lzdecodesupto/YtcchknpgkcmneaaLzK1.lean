/-
  The statements' helpers: bytes in memory of their own, with marks behind them.
-/
import Derived.Test.YtcchknpgkcmneaaLzC6
namespace Go.Proofs.Ytcchknpgkcmneaa.Lz
open Go.ChangeShapes Go.WideShapes Go.ChangeAt Go.RowKit
open Go.Proofs.Ytcchknpgkcmneaa.Base Go.Proofs.Ytcchknpgkcmneaa.Nums
set_option linter.unusedVariables false
def marks : List (BitVec 8) := [165, 90, 167, 91]
set_option maxHeartbeats 1000000 in
set_option maxRecDepth 100000 in
theorem roomy_any (a : Option Addr) (len cap : Nat) (bs : List (BitVec 8)) (w : World) (hr : Rd w a len bs) (hz : a = none → len = 0 ∧ cap = 0) (hl : len ≤ 140737488351232) :
    Calls Try.prog 28 #[.slice a len cap] w fun e w' => ∃ g c, e = .returned (.slice (some ⟨g, 0, none⟩) len c) ∧ w.heap.size ≤ g ∧ Own w' w.heap.size (.slice (some ⟨g, 0, none⟩) (len + 4) c) (bs ++ marks) ∧ Below w.heap.size w w' := by
  have HL := hide hr.1
  have HR : Hid (Rd (w.alloc (.cells #[] 5)) a len bs) := hr.below ((Below.refl _ _).alloc (Nat.le_refl _) _)
  have HO0 : Hid (Own (w.alloc (.cells #[] 5)) w.heap.size (.slice (some ⟨w.heap.size, 0, none⟩) 0 0) []) := own_empty w w.heap.size (Nat.le_refl _)
  have hli : (len : Int) ≤ 140737488351232 := by omega
  clear hr
  go_enter Try.func28, Try.ntmps28
  go_wp2_with (first
    | (at_builtin; refine join _ rfl _ _ rfl w.heap.size (.slice (some ⟨w.heap.size, 0, none⟩) 0 0) [] rfl HO0.out a len cap bs rfl HR.out hz (by simp; omega) (by simp) ?_
       intro v1 w1 ho1 hg1
       rw [List.nil_append] at ho1
       obtain ⟨v1a, v1n, v1c, rfl, hv1⟩ := own_named ho1
       have hn1 : v1n = len := by rw [← HL.out]; exact hv1
       subst hn1
       have HB1 : Hid (Below w.heap.size w w1) := ((Below.refl _ _).alloc (Nat.le_refl _) _).grown hg1 (by simp) (fun q e => by cases e; exact Nat.le_refl _)
       have HO1 := hide ho1
       have hs1 : w.heap.size ≤ w1.heap.size := HB1.out.size
       have HM : Hid (Rd (w1.alloc (.cells #[.int .u8 165, .int .u8 90, .int .u8 167, .int .u8 91] 5)) (some ⟨w1.heap.size, 0, none⟩) 4 marks) :=
         Got.rd (base := 0) (cap := 4) (own_heap (bs := marks) (heap_alloc_new w1 _) (Nat.zero_le _) (by unfold maxLen marks; simp)) (by unfold marks; simp)
       clear ho1 hg1 hv1)
    | (at_builtin; refine join _ rfl _ _ rfl w.heap.size (.slice v1a v1n v1c) bs rfl (HO1.out.below ((Below.refl _ _).alloc (Nat.le_refl _) _)) (some ⟨w1.heap.size, 0, none⟩) 4 4 marks rfl HM.out (fun h => by cases h) (by have := HL.out; omega) (by simp; omega) ?_
       intro v2 w2 ho2 hg2
       obtain ⟨v2a, v2n, v2c, rfl, hv2⟩ := own_named ho2
       have hn2 : v2n = v1n + 4 := by have h : v2n = (bs ++ marks).length := hv2; rw [h, List.length_append, HL.out]; rfl
       subst hn2
       obtain ⟨g, rfl⟩ : ∃ g, v2a = some ⟨g, 0, none⟩ := by
         rcases ho2.2 with ⟨h1, h2⟩ | ⟨g, cap', cur, h1, _⟩
         · simp only [Value.slice.injEq] at h1; omega
         · simp only [Value.slice.injEq] at h1; exact ⟨g, h1.1⟩
       have HB2 : Hid (Below w.heap.size w w2) := (HB1.out.alloc HB1.out.size _).grown hg2 (by simp; omega) (own_blk HO1.out)
       have HO2 := hide ho2
       have hc2 : v1n + 4 ≤ v2c := by
         rcases ho2.2 with ⟨h1, h2⟩ | ⟨g, cap', cur, h1, _, _, h3, _⟩
         · simp only [Value.slice.injEq] at h1; omega
         · simp only [Value.slice.injEq] at h1; omega
       clear ho2 hg2 hv2))
  go_ret
  exact ⟨g, v2c, by first | rfl | simp, own_blk HO2.out g rfl, HO2.out, HB2.out⟩
end Go.Proofs.Ytcchknpgkcmneaa.Lz
