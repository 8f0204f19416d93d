/-
  What the statements' helper 'refused' tells of a tile that Open calls wrong.
-/
import Derived.Test.YtkooijlldpiljaaCrcWorks
namespace Go.Proofs.Ytkooijlldpiljaa.Crc
open Go.ChangeShapes Go.WideShapes Go.ChangeAt Go.RowKit
theorem refused_any (a : Option Addr) (len cap : Nat) (bs : List (BitVec 8)) (w : World) (hr : Rd w a len bs) (hcap : len ≤ cap) (hm : cap ≤ 140737488355328) (he : openErr bs = 10) :
    Calls Try.prog 21 #[.slice a len cap] w fun e w' => e = .returned (.bool true) ∧ Below w.heap.size w w' := by
  have HE := hide he
  clear he
  go_enter Try.func21, Try.ntmps21
  go_wp2_with fail
  refine (open_any _ _ _ _ _ hr hcap hm).mono ?_
  rintro e w2 ⟨v, rfl, ⟨av, nv, cv, rfl, hnv, ho2⟩, hb2⟩
  rw [HE.out]
  have hz : nv = 0 := by rw [hnv]; simp [openBody, HE.out]
  subst hz
  have HB := hide hb2
  clear hnv ho2 hb2
  go_wp2_with fail
  go_ret
  exact ⟨rfl, HB.out⟩
end Go.Proofs.Ytkooijlldpiljaa.Crc
