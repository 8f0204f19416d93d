/-
  The statements' helpers: the same texts; are three keys parted as they must be?
-/
import Derived.Test.YtdpihfmbkimgpaaPaBounds
import Derived.Test.YtdpihfmbkimgpaaPaOf
namespace Go.Proofs.Ytdpihfmbkimgpaa.Pa
open Go.ChangeShapes Go.WideShapes Go.ChangeAt Go.RowKit
open Go.Proofs.Ytdpihfmbkimgpaa.Base
set_option linter.unusedVariables false
theorem srt_unique {ss T : List ByteArray} (hp : T.Perm ss) (hs : T.Pairwise fun x y => cmpT x y ≤ 0) : srt ss = T :=
  List.Perm.eq_of_pairwise (le := fun x y => cmpT x y ≤ 0) (fun a b _ _ h1 h2 => cmpT_eq.1 (by have := cmpT_swap a b; omega)) (srt_sorted ss) hs ((srt_perm ss).trans hp.symm)
set_option maxHeartbeats 1000000 in
set_option maxRecDepth 100000 in
theorem sameTexts_eq (a b : Option Addr) (la ca lb cb : Nat) (xs : List ByteArray) (w : World) (hx : RdS w a la xs) (hy : RdS w b lb xs) :
    Calls Try.prog 19 #[.slice a la ca, .slice b lb cb] w fun e w' => e = .returned (.bool true) ∧ Below w.heap.size w w' := by
  have hll : la = lb := by have h1 := hx.1; have h2 := hy.1; omega
  subst hll
  have hl := hx.2.1
  have HX := hide hx
  have HY := hide hy
  have he : ((la : Int) != (la : Int)) = false := by simp
  clear hx hy
  go_enter Try.func19, Try.ntmps19
  go_wp2_with fail
  go_loopw [5] (fun i wr => ∃ k : Nat, k ≤ la ∧ i = .int .i64 (k : Int) ∧ Hid (Below w.heap.size w wr)) (fun i _ => la - (intOf i).toNat)
  case atStart => exact ⟨0, Nat.zero_le _, rfl, Below.refl _ _⟩
  case round =>
    obtain ⟨k, hk, rfl, HB⟩ := hrel
    by_cases hlt : k < la
    · have hki : (k : Int) < (la : Int) := by omega
      obtain ⟨b1, o1, rfl, _, hc1⟩ := (HX.out.below HB.out).2.2.2 (by omega)
      obtain ⟨b2, o2, rfl, _, hc2⟩ := (HY.out.below HB.out).2.2.2 (by omega)
      have g1 := hc1 k hlt
      have g2 := hc2 k hlt
      generalize xs.getD k ⟨#[]⟩ = s at g1 g2
      have hse : (s.toList == s.toList) = true := by simp
      clear hc1 hc2
      go_wp2_with fail
      first | (go_quiet (fail); go_wp2_with fail) | skip
      go_roundw
      case rel => exact ⟨k + 1, by omega, by go_num, by first | exact below_trans HB.out (below_drewN' _ _ _) | exact HB⟩
      case measure => (simp [intOf] <;> omega)
    · have hkl : k = la := by omega
      subst hkl
      have hki : ¬ (k : Int) < (k : Int) := by omega
      go_wp2_with fail
      go_ret
      exact ⟨rfl, HB.out⟩
def l4 : List ByteArray := [⟨#[100]⟩, ⟨#[98]⟩, ⟨#[97]⟩, ⟨#[99]⟩]
def l3 : List ByteArray := [⟨#[98]⟩, ⟨#[99]⟩, ⟨#[100]⟩]
theorem cmpT_one (a b : UInt8) : cmpT ⟨#[a]⟩ ⟨#[b]⟩ = if a = b then 0 else if a.toNat < b.toNat then -1 else 1 := by
  unfold cmpT Nums.txt
  simp [Nums.order]
theorem srt4 : srt l4 = [⟨#[97]⟩, ⟨#[98]⟩, ⟨#[99]⟩, ⟨#[100]⟩] := by
  refine srt_unique ?_ ?_
  · decide +kernel
  · simp [cmpT_one]
theorem bErr4 : bErr l4 4 = 0 := by decide +kernel
theorem bndS4 : bndS l4 4 = l3 := by
  unfold bndS
  rw [bErr4, if_pos rfl, if_neg (by decide), srt4]
  rfl
theorem rank3 : rank l3 ⟨#[97]⟩ = 0 ∧ rank l3 ⟨#[98]⟩ = 1 ∧ rank l3 ⟨#[122]⟩ = 3 := by
  refine ⟨?_, ?_, ?_⟩ <;> simp [rank, l3, cmpT_one]
theorem rds_new (w : World) (ss : List ByteArray) (h : ss.length ≤ 140737488355328) (hs : ∀ s ∈ ss, s.size ≤ 9223372036854775807) : RdS (w.alloc (.cells (svals ss).toArray 9)) (some ⟨w.heap.size, 0, none⟩) ss.length ss :=
  (own_heapS (base := w.heap.size) (g := w.heap.size) (ss := ss) (by simp [World.alloc, -World.alloc_eq]) (Nat.le_refl _) (by unfold maxLen; omega)).rds h hs
set_option maxHeartbeats 1000000 in
set_option maxRecDepth 100000 in
theorem works_any (w : World) : Calls Try.prog 14 #[] w fun e w' => e = .returned (.bool true) ∧ Below w.heap.size w w' := by
  go_enter Try.func14, Try.ntmps14
  go_wp2_with fail
  have HB0 := hide ((Below.refl w.heap.size w).alloc (Nat.le_refl _) (.cells (svals l4).toArray 9))
  refine (bounds_any (some ⟨w.heap.size, 0, none⟩) 4 4 l4 4 _ (rds_new w l4 (by decide) (by decide +kernel))).mono ?_
  rintro e w1 ⟨v1, rfl, ho1, hb1⟩
  rw [bErr4, bndS4] at *
  obtain ⟨a1, c1, rfl⟩ := ho1.shape
  have HB1 := hide (below_trans HB0.out hb1)
  have HR1 := hide (ho1.rds (by decide) (by decide +kernel))
  clear ho1 hb1 HB0
  have e3 : l3.length = 3 := rfl
  rw [e3] at HR1 ⊢
  clear e3
  go_wp2_with fail
  have HB2 := hide ((Below.refl w1.heap.size w1).alloc (Nat.le_refl _) (.cells (svals l3).toArray 9))
  refine (sameTexts_eq a1 (some ⟨w1.heap.size, 0, none⟩) 3 c1 3 3 l3 _ (HR1.out.below HB2.out) (rds_new w1 l3 (by decide) (by decide +kernel))).mono ?_
  rintro e w2 ⟨rfl, hb2⟩
  have HB3 := hide (below_trans HB1.out (below_trans HB2.out hb2))
  have HR2 := hide (HR1.out.below (below_trans HB2.out hb2))
  clear hb2 HB1 HB2 HR1
  go_wp2_with fail
  refine (range_any a1 3 c1 l3 ⟨#[97]⟩ w2 HR2.out (by decide)).mono ?_
  rintro e w3 ⟨rfl, hb3⟩
  rw [rank3.1]
  have HB4 := hide (below_trans HB3.out hb3)
  have HR3 := hide (HR2.out.below hb3)
  clear hb3 HB3 HR2
  go_wp2_with fail
  refine (range_any a1 3 c1 l3 ⟨#[98]⟩ w3 HR3.out (by decide)).mono ?_
  rintro e w4 ⟨rfl, hb4⟩
  rw [rank3.2.1]
  have HB5 := hide (below_trans HB4.out hb4)
  have HR4 := hide (HR3.out.below hb4)
  clear hb4 HB4 HR3
  go_wp2_with fail
  refine (range_any a1 3 c1 l3 ⟨#[122]⟩ w4 HR4.out (by decide)).mono ?_
  rintro e w5 ⟨rfl, hb5⟩
  rw [rank3.2.2]
  have HB6 := hide (below_trans HB5.out hb5)
  clear hb5 HB5 HR4
  go_wp2_with fail
  go_ret
  exact ⟨rfl, HB6.out⟩
end Go.Proofs.Ytdpihfmbkimgpaa.Pa
